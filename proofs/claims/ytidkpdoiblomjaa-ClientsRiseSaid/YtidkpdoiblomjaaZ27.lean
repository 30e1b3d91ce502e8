/- A result: its value; may its fields be. -/
import Derived.Test.YtidkpdoiblomjaaZ26
namespace Go.Proofs.Ytidkpdoiblomjaa.Tlv
open Go.RowKit
set_option maxRecDepth 100000
set_option linter.unusedVariables false
set_option linter.unusedSimpArgs false
abbrev rsCs (k : Int) (y : Bool) (ve vc : Value) : Array Value := #[.int .i64 k, .bool y, ve, vc]
abbrev rsVal (k : Int) (y : Bool) (ve vc : Value) : Value := .agg (rsCs k y ve vc)
theorem rs_cells {W : World} {B : Nat} {k : Int} {y : Bool} {ve vc : Value} (h : Blk W B 39 (rsCs k y ve vc)) : W.cell? ⟨B, 0, none⟩ = some (.int .i64 k) ∧ W.cell? ⟨B, 1, none⟩ = some (.bool y) ∧ W.cell? ⟨B, 2, none⟩ = some ve ∧ W.cell? ⟨B, 3, none⟩ = some vc :=
 ⟨h.cell 0, h.cell 1, h.cell 2, h.cell 3⟩
def mayF (k : Int) (y : Bool) (ne nc : Nat) : Bool := (decide (k = 0) || (!y && (decide (ne = 0) && decide (nc = 0)))) && (decide (0 ≤ k) && (decide (k ≤ 14) && (decide (ne ≤ 1000) && decide (nc ≤ 4000))))
set_option maxHeartbeats 4000000 in
theorem mayF0 (k : Int) (y : Bool) (Ae Ac : Option Addr) (ne ce nc cc : Nat) (w : World) (h : k = 0) (h1 : 1000 < ne) : Calls Try.prog 52 #[rsVal k y (.slice Ae ne ce) (.slice Ac nc cc)] w fun e w' => e = .returned (.bool false) ∧ Below w.heap.size w w' := by
 subst h
 have hb : Below w.heap.size w (w.alloc (.cells (rsCs 0 y (.slice Ae ne ce) (.slice Ac nc cc)) 39)) := (Below.refl _ _).alloc (Nat.le_refl _) _
 obtain ⟨a0, a1, a2, a3⟩ := rs_cells (Blk.new w 39 (rsCs 0 y (.slice Ae ne ce) (.slice Ac nc cc)))
 have HB := Lib.hid hb
 clear hb
 have e1 : ¬ (ne : Int) ≤ 1000 := by omega
 go_enter Try.func52, Try.ntmps52
 go_wp2
 go_ret
 exact ⟨rfl, HB.out⟩
set_option maxHeartbeats 4000000 in
theorem mayF1 (k : Int) (y : Bool) (Ae Ac : Option Addr) (ne ce nc cc : Nat) (w : World) (h : k = 0) (h1 : ne ≤ 1000) (h2 : 4000 < nc) : Calls Try.prog 52 #[rsVal k y (.slice Ae ne ce) (.slice Ac nc cc)] w fun e w' => e = .returned (.bool false) ∧ Below w.heap.size w w' := by
 subst h
 have hb : Below w.heap.size w (w.alloc (.cells (rsCs 0 y (.slice Ae ne ce) (.slice Ac nc cc)) 39)) := (Below.refl _ _).alloc (Nat.le_refl _) _
 obtain ⟨a0, a1, a2, a3⟩ := rs_cells (Blk.new w 39 (rsCs 0 y (.slice Ae ne ce) (.slice Ac nc cc)))
 have HB := Lib.hid hb
 clear hb
 have e1 : (ne : Int) ≤ 1000 := by omega
 have e2 : ¬ (nc : Int) ≤ 4000 := by omega
 go_enter Try.func52, Try.ntmps52
 go_wp2
 go_ret
 exact ⟨rfl, HB.out⟩
set_option maxHeartbeats 4000000 in
theorem mayF2 (k : Int) (y : Bool) (Ae Ac : Option Addr) (ne ce nc cc : Nat) (w : World) (h : k = 0) (h1 : ne ≤ 1000) (h2 : nc ≤ 4000) : Calls Try.prog 52 #[rsVal k y (.slice Ae ne ce) (.slice Ac nc cc)] w fun e w' => e = .returned (.bool true) ∧ Below w.heap.size w w' := by
 subst h
 have hb : Below w.heap.size w (w.alloc (.cells (rsCs 0 y (.slice Ae ne ce) (.slice Ac nc cc)) 39)) := (Below.refl _ _).alloc (Nat.le_refl _) _
 obtain ⟨a0, a1, a2, a3⟩ := rs_cells (Blk.new w 39 (rsCs 0 y (.slice Ae ne ce) (.slice Ac nc cc)))
 have HB := Lib.hid hb
 clear hb
 have e1 : (ne : Int) ≤ 1000 := by omega
 have e2 : (nc : Int) ≤ 4000 := by omega
 go_enter Try.func52, Try.ntmps52
 go_wp2
 go_ret
 exact ⟨rfl, HB.out⟩
set_option maxHeartbeats 4000000 in
theorem mayF3 (k : Int) (y : Bool) (Ae Ac : Option Addr) (ne ce nc cc : Nat) (w : World) (h : k ≠ 0) (h1 : y = true) : Calls Try.prog 52 #[rsVal k y (.slice Ae ne ce) (.slice Ac nc cc)] w fun e w' => e = .returned (.bool false) ∧ Below w.heap.size w w' := by
 subst h1
 have hb : Below w.heap.size w (w.alloc (.cells (rsCs k true (.slice Ae ne ce) (.slice Ac nc cc)) 39)) := (Below.refl _ _).alloc (Nat.le_refl _) _
 obtain ⟨a0, a1, a2, a3⟩ := rs_cells (Blk.new w 39 (rsCs k true (.slice Ae ne ce) (.slice Ac nc cc)))
 have HB := Lib.hid hb
 clear hb
 have e0 : (k != 0) = true := by simpa using h
 go_enter Try.func52, Try.ntmps52
 go_wp2
 go_ret
 exact ⟨rfl, HB.out⟩
set_option maxHeartbeats 4000000 in
theorem mayF4 (k : Int) (y : Bool) (Ae Ac : Option Addr) (ne ce nc cc : Nat) (w : World) (h : k ≠ 0) (h1 : y = false) (h2 : 0 < ne) : Calls Try.prog 52 #[rsVal k y (.slice Ae ne ce) (.slice Ac nc cc)] w fun e w' => e = .returned (.bool false) ∧ Below w.heap.size w w' := by
 subst h1
 have hb : Below w.heap.size w (w.alloc (.cells (rsCs k false (.slice Ae ne ce) (.slice Ac nc cc)) 39)) := (Below.refl _ _).alloc (Nat.le_refl _) _
 obtain ⟨a0, a1, a2, a3⟩ := rs_cells (Blk.new w 39 (rsCs k false (.slice Ae ne ce) (.slice Ac nc cc)))
 have HB := Lib.hid hb
 clear hb
 have e0 : (k != 0) = true := by simpa using h
 have e1 : (0 : Int) < (ne : Int) := by omega
 go_enter Try.func52, Try.ntmps52
 go_wp2
 go_ret
 exact ⟨rfl, HB.out⟩
set_option maxHeartbeats 4000000 in
theorem mayF5 (k : Int) (y : Bool) (Ae Ac : Option Addr) (ne ce nc cc : Nat) (w : World) (h : k ≠ 0) (h1 : y = false) (h2 : ne = 0) (h3 : 0 < nc) : Calls Try.prog 52 #[rsVal k y (.slice Ae ne ce) (.slice Ac nc cc)] w fun e w' => e = .returned (.bool false) ∧ Below w.heap.size w w' := by
 subst h1; subst h2
 have hb : Below w.heap.size w (w.alloc (.cells (rsCs k false (.slice Ae 0 ce) (.slice Ac nc cc)) 39)) := (Below.refl _ _).alloc (Nat.le_refl _) _
 obtain ⟨a0, a1, a2, a3⟩ := rs_cells (Blk.new w 39 (rsCs k false (.slice Ae 0 ce) (.slice Ac nc cc)))
 have HB := Lib.hid hb
 clear hb
 have e0 : (k != 0) = true := by simpa using h
 have e1 : (0 : Int) < (nc : Int) := by omega
 go_enter Try.func52, Try.ntmps52
 go_wp2
 go_ret
 exact ⟨rfl, HB.out⟩
set_option maxHeartbeats 4000000 in
theorem mayF6 (k : Int) (y : Bool) (Ae Ac : Option Addr) (ne ce nc cc : Nat) (w : World) (h : k ≠ 0) (h1 : y = false) (h2 : ne = 0) (h3 : nc = 0) (h4 : k < 0) : Calls Try.prog 52 #[rsVal k y (.slice Ae ne ce) (.slice Ac nc cc)] w fun e w' => e = .returned (.bool false) ∧ Below w.heap.size w w' := by
 subst h1; subst h2; subst h3
 have hb : Below w.heap.size w (w.alloc (.cells (rsCs k false (.slice Ae 0 ce) (.slice Ac 0 cc)) 39)) := (Below.refl _ _).alloc (Nat.le_refl _) _
 obtain ⟨a0, a1, a2, a3⟩ := rs_cells (Blk.new w 39 (rsCs k false (.slice Ae 0 ce) (.slice Ac 0 cc)))
 have HB := Lib.hid hb
 clear hb
 have e0 : (k != 0) = true := by simpa using h
 have e1 : ¬ (0 : Int) ≤ k := by omega
 go_enter Try.func52, Try.ntmps52
 go_wp2
 go_ret
 exact ⟨rfl, HB.out⟩
set_option maxHeartbeats 4000000 in
theorem mayF7 (k : Int) (y : Bool) (Ae Ac : Option Addr) (ne ce nc cc : Nat) (w : World) (h : k ≠ 0) (h1 : y = false) (h2 : ne = 0) (h3 : nc = 0) (h4 : 0 ≤ k) (h5 : 14 < k) : Calls Try.prog 52 #[rsVal k y (.slice Ae ne ce) (.slice Ac nc cc)] w fun e w' => e = .returned (.bool false) ∧ Below w.heap.size w w' := by
 subst h1; subst h2; subst h3
 have hb : Below w.heap.size w (w.alloc (.cells (rsCs k false (.slice Ae 0 ce) (.slice Ac 0 cc)) 39)) := (Below.refl _ _).alloc (Nat.le_refl _) _
 obtain ⟨a0, a1, a2, a3⟩ := rs_cells (Blk.new w 39 (rsCs k false (.slice Ae 0 ce) (.slice Ac 0 cc)))
 have HB := Lib.hid hb
 clear hb
 have e0 : (k != 0) = true := by simpa using h
 have e1 : ¬ k ≤ (14 : Int) := by omega
 go_enter Try.func52, Try.ntmps52
 go_wp2
 go_ret
 exact ⟨rfl, HB.out⟩
set_option maxHeartbeats 4000000 in
theorem mayF8 (k : Int) (y : Bool) (Ae Ac : Option Addr) (ne ce nc cc : Nat) (w : World) (h : k ≠ 0) (h1 : y = false) (h2 : ne = 0) (h3 : nc = 0) (h4 : 0 ≤ k) (h5 : k ≤ 14) : Calls Try.prog 52 #[rsVal k y (.slice Ae ne ce) (.slice Ac nc cc)] w fun e w' => e = .returned (.bool true) ∧ Below w.heap.size w w' := by
 subst h1; subst h2; subst h3
 have hb : Below w.heap.size w (w.alloc (.cells (rsCs k false (.slice Ae 0 ce) (.slice Ac 0 cc)) 39)) := (Below.refl _ _).alloc (Nat.le_refl _) _
 obtain ⟨a0, a1, a2, a3⟩ := rs_cells (Blk.new w 39 (rsCs k false (.slice Ae 0 ce) (.slice Ac 0 cc)))
 have HB := Lib.hid hb
 clear hb
 have e0 : (k != 0) = true := by simpa using h
 go_enter Try.func52, Try.ntmps52
 go_wp2
 go_ret
 exact ⟨rfl, HB.out⟩
theorem mayF_any (k : Int) (y : Bool) (Ae Ac : Option Addr) (ne ce nc cc : Nat) (w : World) : Calls Try.prog 52 #[rsVal k y (.slice Ae ne ce) (.slice Ac nc cc)] w fun e w' => e = .returned (.bool (mayF k y ne nc)) ∧ Below w.heap.size w w' := by
 have key : ∀ b, mayF k y ne nc = b → (Calls Try.prog 52 #[rsVal k y (.slice Ae ne ce) (.slice Ac nc cc)] w fun e w' => e = .returned (.bool b) ∧ Below w.heap.size w w') → Calls Try.prog 52 #[rsVal k y (.slice Ae ne ce) (.slice Ac nc cc)] w fun e w' => e = .returned (.bool (mayF k y ne nc)) ∧ Below w.heap.size w w' := fun b h h2 => by rw [h]; exact h2
 by_cases h0 : k = 0
 · by_cases h1 : ne ≤ 1000
   · by_cases h2 : nc ≤ 4000
     · exact key true (by simp [mayF, h0, h1, h2]) (mayF2 k y Ae Ac ne ce nc cc w h0 h1 h2)
     · exact key false (by simp [mayF, h2]) (mayF1 k y Ae Ac ne ce nc cc w h0 h1 (by omega))
   · exact key false (by simp [mayF, h1]) (mayF0 k y Ae Ac ne ce nc cc w h0 (by omega))
 · cases hy : y with
   | true => subst hy; exact key false (by simp [mayF, h0]) (mayF3 k true Ae Ac ne ce nc cc w h0 rfl)
   | false =>
     subst hy
     by_cases h1 : ne = 0
     · by_cases h2 : nc = 0
       · by_cases h3 : 0 ≤ k
         · by_cases h4 : k ≤ 14
           · exact key true (by simp [mayF, h1, h2, h3, h4]) (mayF8 k false Ae Ac ne ce nc cc w h0 rfl h1 h2 h3 h4)
           · exact key false (by simp [mayF, h4]) (mayF7 k false Ae Ac ne ce nc cc w h0 rfl h1 h2 h3 (by omega))
         · exact key false (by simp [mayF, h3]) (mayF6 k false Ae Ac ne ce nc cc w h0 rfl h1 h2 (by omega))
       · exact key false (by simp [mayF, h0, h2]) (mayF5 k false Ae Ac ne ce nc cc w h0 rfl h1 (by omega))
     · exact key false (by simp [mayF, h0, h1]) (mayF4 k false Ae Ac ne ce nc cc w h0 rfl (by omega))
end Go.Proofs.Ytidkpdoiblomjaa.Tlv
