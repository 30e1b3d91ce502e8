/- Equal texts, equal bytes. -/
import Derived.Test.YtcjiofhjognklaaGreatY32
import Derived.Test.YtcjiofhjognklaaGreatY16
import Derived.Laws.BytesArg
namespace Go.Proofs.YtcjiofhjognklaaGreat.Tlv
open Go.RowKit
set_option maxRecDepth 100000
set_option linter.unusedVariables false
set_option linter.unusedSimpArgs false
theorem ext_getS {a b : List (List UInt8)} (h : a.length = b.length) (h2 : ∀ j, j < a.length → a.getD j default = b.getD j default) : a = b := by
 apply List.ext_getElem h
 intro j h3 h4
 have := h2 j h3
 simpa [List.getD_eq_getElem?_getD, List.getElem?_eq_getElem h3, List.getElem?_eq_getElem h4] using this
theorem ne_getS {a b : List (List UInt8)} {k : Nat} (h : a.getD k default ≠ b.getD k default) : a ≠ b := fun e => h (by rw [e])
set_option maxHeartbeats 2000000 in
theorem equal_str (a b : List (List UInt8)) (va vb : Value) (w : World) (hva : RdP w va a) (hvb : RdP w vb b) (ha : a.length ≤ 9223372036854775807) (hb : b.length ≤ 9223372036854775807) :
   Calls Tryz.prog 75 #[va, vb] w fun e w' => e = .returned (.bool (decide (a = b))) ∧ Below w.heap.size w w' := by
 obtain ⟨A, c, rfl, _, hr⟩ := hva
 obtain ⟨B, d, rfl, _, hr2⟩ := hvb
 by_cases hlen : a.length = b.length
 · have HR := Lib.hid (And.intro hr hr2)
   rw [← hlen]
   obtain ⟨n, hn⟩ : ∃ n, n = a.length := ⟨_, rfl⟩
   rw [← hn] at ha ⊢
   have HN := Lib.hid (And.intro hn (hn.trans hlen))
   clear hr hr2 hn hlen hb
   go_enter Tryz.func75, Tryz.ntmps75
   go_wp2
   go_loopw [13] (fun i wr => ∃ k : Nat, i = .int .i64 k ∧ k ≤ n ∧ Hid (Below w.heap.size w wr) ∧ Hid (∀ j, j < k → a.getD j default = b.getD j default)) (fun i _ => n - (intOf i).toNat)
   case atStart => exact ⟨0, rfl, Nat.zero_le _, Lib.hid (Below.refl _ _), Lib.hid fun j hj => absurd hj (Nat.not_lt_zero _)⟩
   case round =>
     obtain ⟨k, rfl, hk, HB, HA⟩ := hrel
     by_cases hlt : k < n
     · obtain ⟨b1, o1, rfl, _, c0⟩ := str_cell HR.out.1 HB.out (show k < a.length by have := HN.out; omega)
       obtain ⟨b2, o2, rfl, _, d0⟩ := str_cell HR.out.2 HB.out (show k < b.length by have := HN.out; omega)
       have g1 := YtcjiofhjognklaaGreat.sx_beq (a.getD k default) (b.getD k default)
       generalize hx : a.getD k default = x at c0 g1
       generalize hy : b.getD k default = y at d0 g1
       have HXY := Lib.hid (And.intro hx hy)
       clear hx hy
       generalize hxy : decide (x = y) = bb at g1
       cases bb with
       | true =>
         have HE := Lib.hid (of_decide_eq_true hxy)
         clear hxy
         go_wp2_with fail
         go_region
         go_wp2
         go_roundw
         case rel => exact ⟨k + 1, by go_num, by omega, Lib.hid (below_drew HB.out), Lib.hid fun j hj => by
           by_cases e : j = k
           · subst e; rw [HXY.out.1, HXY.out.2]; exact HE.out
           · exact HA.out j (by omega)⟩
         case measure => simp [intOf]; omega
       | false =>
         have HF : Hid (decide (a = b) = false) := Lib.hid (decide_eq_false (ne_getS (k := k) (by rw [HXY.out.1, HXY.out.2]; exact of_decide_eq_false hxy)))
         clear hxy
         go_wp2_with fail
         go_region
         go_wp2
         go_ret
         exact ⟨by rw [HF.out]; rfl, below_drew HB.out⟩
     · have hkn : k = n := by omega
       have HF : Hid (decide (a = b) = true) := Lib.hid (decide_eq_true (ext_getS (by rw [← HN.out.1, ← HN.out.2]) (by rw [← HN.out.1, ← hkn]; exact HA.out)))
       go_wp2
       go_ret
       exact ⟨by rw [HF.out]; rfl, HB.out⟩
 · have HF : Hid (decide (a = b) = false) := Lib.hid (decide_eq_false fun e => hlen (by rw [e]))
   obtain ⟨n, hn⟩ : ∃ n, n = a.length := ⟨_, rfl⟩
   obtain ⟨m, hm⟩ : ∃ m, m = b.length := ⟨_, rfl⟩
   rw [← hn] at ha hlen ⊢
   rw [← hm] at hb hlen ⊢
   clear hr hr2 hn hm
   go_enter Tryz.func75, Tryz.ntmps75
   go_wp2
   go_ret
   exact ⟨by rw [HF.out]; rfl, Below.refl _ _⟩
def cx (l : List Int) : List UInt8 := l.map fun n => UInt8.ofNat n.toNat
theorem cx_inj : ∀ {a b : List Int}, Byt a → Byt b → cx a = cx b → a = b
 | [], [], _, _, _ => rfl
 | [], _ :: _, _, _, h => by simp [cx] at h
 | _ :: _, [], _, _, h => by simp [cx] at h
 | x :: a, y :: b, ha, hb, h => by
   simp only [cx, List.map_cons, List.cons.injEq] at h
   have h1 := ha x (List.mem_cons_self ..)
   have h2 := hb y (List.mem_cons_self ..)
   have e := congrArg UInt8.toNat h.1
   simp only [UInt8.toNat_ofNat'] at e
   have e2 : x = y := by omega
   rw [e2, cx_inj (fun z hz => ha z (List.mem_cons_of_mem _ hz)) (fun z hz => hb z (List.mem_cons_of_mem _ hz)) h.2]
theorem cx_beq {a b : List Int} (ha : Byt a) (hb : Byt b) : ((sx (cx a)).toList == (sx (cx b)).toList) = decide (a = b) := by
 rw [YtcjiofhjognklaaGreat.sx_beq]
 by_cases h : a = b
 · simp [h]
 · have : cx a ≠ cx b := fun e => h (cx_inj ha hb e)
   simp [h, this]
theorem conv_bytes {A : Option Addr} {c n : Nat} {l : List Int} {w : World} (hr : Rd w w.heap.size A l) (hn : n = l.length) : (convert 25 9 (.slice A n c)).run Tryz.prog w = .ok (.string (sx (cx l))) w := by
 subst hn
 cases A with
 | none =>
   have hl : l = [] := by
     cases l with
     | nil => rfl
     | cons x t => obtain ⟨b, off, e, _⟩ := hr (by simp); cases e
   subst hl
   exact run_convert_bytes_nil (P := Tryz.prog) w 25 5 Tryz.underlying25 Tryz.underlying5 _ c 9 Tryz.underlying9
 | some ad =>
   by_cases hp : 0 < l.length
   · obtain ⟨b, off, e, _, hc⟩ := hr hp
     injection e with e
     subst e
     exact run_convert_bytes_arg (P := Tryz.prog) w 25 5 Tryz.underlying25 Tryz.underlying5 b off l.length c l rfl hc 9 Tryz.underlying9
   · have hl : l = [] := List.eq_nil_of_length_eq_zero (by omega)
     subst hl
     have h := run_convert_bytes_string (P := Tryz.prog) w 25 9 5 (some ad) 0 c Tryz.underlying25 Tryz.underlying5 Tryz.underlying9
     rw [show ([] : List Int).length = 0 from rfl, h, run_bytesToString w ad 0 c [] rfl]
     rfl
theorem equal_byt (a b : List Int) (va vb : Value) (w : World) (hva : RdC w va a) (hvb : RdC w vb b) (ha : Byt a) (hb : Byt b) :
   Calls Tryz.prog 76 #[va, vb] w fun e w' => e = .returned (.bool (decide (a = b))) ∧ Below w.heap.size w w' := by
 obtain ⟨A, c, rfl, _, hr⟩ := hva
 obtain ⟨B, d, rfl, _, hr2⟩ := hvb
 have h1 := conv_bytes (c := c) hr rfl
 have h2 := conv_bytes (c := d) hr2 rfl
 have g := cx_beq ha hb
 generalize decide (a = b) = r at g ⊢
 generalize a.length = n at h1 ⊢
 generalize b.length = m at h2 ⊢
 generalize sx (cx a) = s1 at h1 g
 generalize sx (cx b) = s2 at h2 g
 clear hr hr2 ha hb
 go_enter Tryz.func76, Tryz.ntmps76
 go_wp2
 go_ret
 exact ⟨by rw [← g]; rfl, Below.refl _ _⟩
abbrev rsCs (k : Int) (y : Bool) (ve vc : Value) : Array Value := #[.int .i64 k, .bool y, ve, vc]
abbrev rsVal (k : Int) (y : Bool) (ve vc : Value) : Value := .agg (rsCs k y ve vc)
theorem rs_cells {W : World} {B : Nat} {k : Int} {y : Bool} {ve vc : Value} (h : Blk W B 43 (rsCs k y ve vc)) : W.cell? ⟨B, 0, none⟩ = some (.int .i64 k) ∧ W.cell? ⟨B, 1, none⟩ = some (.bool y) ∧ W.cell? ⟨B, 2, none⟩ = some ve ∧ W.cell? ⟨B, 3, none⟩ = some vc :=
 ⟨h.cell 0, h.cell 1, h.cell 2, h.cell 3⟩
def mayF (k : Int) (y : Bool) (ne nc : Nat) : Bool := (decide (k = 0) || (!y && (decide (ne = 0) && decide (nc = 0)))) && (decide (0 ≤ k) && (decide (k ≤ 14) && (decide (ne ≤ 1000) && decide (nc ≤ 4000))))
set_option maxHeartbeats 4000000 in
theorem mayF0 (k : Int) (y : Bool) (Ae Ac : Option Addr) (ne ce nc cc : Nat) (w : World) (h : k = 0) (h1 : 1000 < ne) : Calls Tryz.prog 82 #[rsVal k y (.slice Ae ne ce) (.slice Ac nc cc)] w fun e w' => e = .returned (.bool false) ∧ Below w.heap.size w w' := by
 subst h
 have hb : Below w.heap.size w (w.alloc (.cells (rsCs 0 y (.slice Ae ne ce) (.slice Ac nc cc)) 43)) := (Below.refl _ _).alloc (Nat.le_refl _) _
 obtain ⟨a0, a1, a2, a3⟩ := rs_cells (Blk.new w 43 (rsCs 0 y (.slice Ae ne ce) (.slice Ac nc cc)))
 have HB := Lib.hid hb
 clear hb
 have e1 : ¬ (ne : Int) ≤ 1000 := by omega
 go_enter Tryz.func82, Tryz.ntmps82
 go_wp2
 go_ret
 exact ⟨rfl, HB.out⟩
set_option maxHeartbeats 4000000 in
theorem mayF1 (k : Int) (y : Bool) (Ae Ac : Option Addr) (ne ce nc cc : Nat) (w : World) (h : k = 0) (h1 : ne ≤ 1000) (h2 : 4000 < nc) : Calls Tryz.prog 82 #[rsVal k y (.slice Ae ne ce) (.slice Ac nc cc)] w fun e w' => e = .returned (.bool false) ∧ Below w.heap.size w w' := by
 subst h
 have hb : Below w.heap.size w (w.alloc (.cells (rsCs 0 y (.slice Ae ne ce) (.slice Ac nc cc)) 43)) := (Below.refl _ _).alloc (Nat.le_refl _) _
 obtain ⟨a0, a1, a2, a3⟩ := rs_cells (Blk.new w 43 (rsCs 0 y (.slice Ae ne ce) (.slice Ac nc cc)))
 have HB := Lib.hid hb
 clear hb
 have e1 : (ne : Int) ≤ 1000 := by omega
 have e2 : ¬ (nc : Int) ≤ 4000 := by omega
 go_enter Tryz.func82, Tryz.ntmps82
 go_wp2
 go_ret
 exact ⟨rfl, HB.out⟩
set_option maxHeartbeats 4000000 in
theorem mayF2 (k : Int) (y : Bool) (Ae Ac : Option Addr) (ne ce nc cc : Nat) (w : World) (h : k = 0) (h1 : ne ≤ 1000) (h2 : nc ≤ 4000) : Calls Tryz.prog 82 #[rsVal k y (.slice Ae ne ce) (.slice Ac nc cc)] w fun e w' => e = .returned (.bool true) ∧ Below w.heap.size w w' := by
 subst h
 have hb : Below w.heap.size w (w.alloc (.cells (rsCs 0 y (.slice Ae ne ce) (.slice Ac nc cc)) 43)) := (Below.refl _ _).alloc (Nat.le_refl _) _
 obtain ⟨a0, a1, a2, a3⟩ := rs_cells (Blk.new w 43 (rsCs 0 y (.slice Ae ne ce) (.slice Ac nc cc)))
 have HB := Lib.hid hb
 clear hb
 have e1 : (ne : Int) ≤ 1000 := by omega
 have e2 : (nc : Int) ≤ 4000 := by omega
 go_enter Tryz.func82, Tryz.ntmps82
 go_wp2
 go_ret
 exact ⟨rfl, HB.out⟩
set_option maxHeartbeats 4000000 in
theorem mayF3 (k : Int) (y : Bool) (Ae Ac : Option Addr) (ne ce nc cc : Nat) (w : World) (h : k ≠ 0) (h1 : y = true) : Calls Tryz.prog 82 #[rsVal k y (.slice Ae ne ce) (.slice Ac nc cc)] w fun e w' => e = .returned (.bool false) ∧ Below w.heap.size w w' := by
 subst h1
 have hb : Below w.heap.size w (w.alloc (.cells (rsCs k true (.slice Ae ne ce) (.slice Ac nc cc)) 43)) := (Below.refl _ _).alloc (Nat.le_refl _) _
 obtain ⟨a0, a1, a2, a3⟩ := rs_cells (Blk.new w 43 (rsCs k true (.slice Ae ne ce) (.slice Ac nc cc)))
 have HB := Lib.hid hb
 clear hb
 have e0 : (k != 0) = true := by simpa using h
 go_enter Tryz.func82, Tryz.ntmps82
 go_wp2
 go_ret
 exact ⟨rfl, HB.out⟩
set_option maxHeartbeats 4000000 in
theorem mayF4 (k : Int) (y : Bool) (Ae Ac : Option Addr) (ne ce nc cc : Nat) (w : World) (h : k ≠ 0) (h1 : y = false) (h2 : 0 < ne) : Calls Tryz.prog 82 #[rsVal k y (.slice Ae ne ce) (.slice Ac nc cc)] w fun e w' => e = .returned (.bool false) ∧ Below w.heap.size w w' := by
 subst h1
 have hb : Below w.heap.size w (w.alloc (.cells (rsCs k false (.slice Ae ne ce) (.slice Ac nc cc)) 43)) := (Below.refl _ _).alloc (Nat.le_refl _) _
 obtain ⟨a0, a1, a2, a3⟩ := rs_cells (Blk.new w 43 (rsCs k false (.slice Ae ne ce) (.slice Ac nc cc)))
 have HB := Lib.hid hb
 clear hb
 have e0 : (k != 0) = true := by simpa using h
 have e1 : (0 : Int) < (ne : Int) := by omega
 go_enter Tryz.func82, Tryz.ntmps82
 go_wp2
 go_ret
 exact ⟨rfl, HB.out⟩
set_option maxHeartbeats 4000000 in
theorem mayF5 (k : Int) (y : Bool) (Ae Ac : Option Addr) (ne ce nc cc : Nat) (w : World) (h : k ≠ 0) (h1 : y = false) (h2 : ne = 0) (h3 : 0 < nc) : Calls Tryz.prog 82 #[rsVal k y (.slice Ae ne ce) (.slice Ac nc cc)] w fun e w' => e = .returned (.bool false) ∧ Below w.heap.size w w' := by
 subst h1; subst h2
 have hb : Below w.heap.size w (w.alloc (.cells (rsCs k false (.slice Ae 0 ce) (.slice Ac nc cc)) 43)) := (Below.refl _ _).alloc (Nat.le_refl _) _
 obtain ⟨a0, a1, a2, a3⟩ := rs_cells (Blk.new w 43 (rsCs k false (.slice Ae 0 ce) (.slice Ac nc cc)))
 have HB := Lib.hid hb
 clear hb
 have e0 : (k != 0) = true := by simpa using h
 have e1 : (0 : Int) < (nc : Int) := by omega
 go_enter Tryz.func82, Tryz.ntmps82
 go_wp2
 go_ret
 exact ⟨rfl, HB.out⟩
set_option maxHeartbeats 4000000 in
theorem mayF6 (k : Int) (y : Bool) (Ae Ac : Option Addr) (ne ce nc cc : Nat) (w : World) (h : k ≠ 0) (h1 : y = false) (h2 : ne = 0) (h3 : nc = 0) (h4 : k < 0) : Calls Tryz.prog 82 #[rsVal k y (.slice Ae ne ce) (.slice Ac nc cc)] w fun e w' => e = .returned (.bool false) ∧ Below w.heap.size w w' := by
 subst h1; subst h2; subst h3
 have hb : Below w.heap.size w (w.alloc (.cells (rsCs k false (.slice Ae 0 ce) (.slice Ac 0 cc)) 43)) := (Below.refl _ _).alloc (Nat.le_refl _) _
 obtain ⟨a0, a1, a2, a3⟩ := rs_cells (Blk.new w 43 (rsCs k false (.slice Ae 0 ce) (.slice Ac 0 cc)))
 have HB := Lib.hid hb
 clear hb
 have e0 : (k != 0) = true := by simpa using h
 have e1 : ¬ (0 : Int) ≤ k := by omega
 go_enter Tryz.func82, Tryz.ntmps82
 go_wp2
 go_ret
 exact ⟨rfl, HB.out⟩
set_option maxHeartbeats 4000000 in
theorem mayF7 (k : Int) (y : Bool) (Ae Ac : Option Addr) (ne ce nc cc : Nat) (w : World) (h : k ≠ 0) (h1 : y = false) (h2 : ne = 0) (h3 : nc = 0) (h4 : 0 ≤ k) (h5 : 14 < k) : Calls Tryz.prog 82 #[rsVal k y (.slice Ae ne ce) (.slice Ac nc cc)] w fun e w' => e = .returned (.bool false) ∧ Below w.heap.size w w' := by
 subst h1; subst h2; subst h3
 have hb : Below w.heap.size w (w.alloc (.cells (rsCs k false (.slice Ae 0 ce) (.slice Ac 0 cc)) 43)) := (Below.refl _ _).alloc (Nat.le_refl _) _
 obtain ⟨a0, a1, a2, a3⟩ := rs_cells (Blk.new w 43 (rsCs k false (.slice Ae 0 ce) (.slice Ac 0 cc)))
 have HB := Lib.hid hb
 clear hb
 have e0 : (k != 0) = true := by simpa using h
 have e1 : ¬ k ≤ (14 : Int) := by omega
 go_enter Tryz.func82, Tryz.ntmps82
 go_wp2
 go_ret
 exact ⟨rfl, HB.out⟩
set_option maxHeartbeats 4000000 in
theorem mayF8 (k : Int) (y : Bool) (Ae Ac : Option Addr) (ne ce nc cc : Nat) (w : World) (h : k ≠ 0) (h1 : y = false) (h2 : ne = 0) (h3 : nc = 0) (h4 : 0 ≤ k) (h5 : k ≤ 14) : Calls Tryz.prog 82 #[rsVal k y (.slice Ae ne ce) (.slice Ac nc cc)] w fun e w' => e = .returned (.bool true) ∧ Below w.heap.size w w' := by
 subst h1; subst h2; subst h3
 have hb : Below w.heap.size w (w.alloc (.cells (rsCs k false (.slice Ae 0 ce) (.slice Ac 0 cc)) 43)) := (Below.refl _ _).alloc (Nat.le_refl _) _
 obtain ⟨a0, a1, a2, a3⟩ := rs_cells (Blk.new w 43 (rsCs k false (.slice Ae 0 ce) (.slice Ac 0 cc)))
 have HB := Lib.hid hb
 clear hb
 have e0 : (k != 0) = true := by simpa using h
 go_enter Tryz.func82, Tryz.ntmps82
 go_wp2
 go_ret
 exact ⟨rfl, HB.out⟩
theorem mayF_any (k : Int) (y : Bool) (Ae Ac : Option Addr) (ne ce nc cc : Nat) (w : World) : Calls Tryz.prog 82 #[rsVal k y (.slice Ae ne ce) (.slice Ac nc cc)] w fun e w' => e = .returned (.bool (mayF k y ne nc)) ∧ Below w.heap.size w w' := by
 have key : ∀ b, mayF k y ne nc = b → (Calls Tryz.prog 82 #[rsVal k y (.slice Ae ne ce) (.slice Ac nc cc)] w fun e w' => e = .returned (.bool b) ∧ Below w.heap.size w w') → Calls Tryz.prog 82 #[rsVal k y (.slice Ae ne ce) (.slice Ac nc cc)] w fun e w' => e = .returned (.bool (mayF k y ne nc)) ∧ Below w.heap.size w w' := fun b h h2 => by rw [h]; exact h2
 by_cases h0 : k = 0
 · by_cases h1 : ne ≤ 1000
   · by_cases h2 : nc ≤ 4000
     · exact key true (by simp [mayF, h0, h1, h2]) (mayF2 k y Ae Ac ne ce nc cc w h0 h1 h2)
     · exact key false (by simp [mayF, h2]) (mayF1 k y Ae Ac ne ce nc cc w h0 h1 (by omega))
   · exact key false (by simp [mayF, h1]) (mayF0 k y Ae Ac ne ce nc cc w h0 (by omega))
 · cases hy : y with
   | true => subst hy; exact key false (by simp [mayF, h0]) (mayF3 k true Ae Ac ne ce nc cc w h0 rfl)
   | false =>
     subst hy
     by_cases h1 : ne = 0
     · by_cases h2 : nc = 0
       · by_cases h3 : 0 ≤ k
         · by_cases h4 : k ≤ 14
           · exact key true (by simp [mayF, h1, h2, h3, h4]) (mayF8 k false Ae Ac ne ce nc cc w h0 rfl h1 h2 h3 h4)
           · exact key false (by simp [mayF, h4]) (mayF7 k false Ae Ac ne ce nc cc w h0 rfl h1 h2 h3 (by omega))
         · exact key false (by simp [mayF, h3]) (mayF6 k false Ae Ac ne ce nc cc w h0 rfl h1 h2 (by omega))
       · exact key false (by simp [mayF, h0, h2]) (mayF5 k false Ae Ac ne ce nc cc w h0 rfl h1 (by omega))
     · exact key false (by simp [mayF, h0, h1]) (mayF4 k false Ae Ac ne ce nc cc w h0 rfl (by omega))
end Go.Proofs.YtcjiofhjognklaaGreat.Tlv
