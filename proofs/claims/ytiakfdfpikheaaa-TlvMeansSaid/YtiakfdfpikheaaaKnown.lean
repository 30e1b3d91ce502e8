/- The chapter's row of layer 2. -/
import Derived.Test.YtiakfdfpikheaaaWrite
namespace Go.Proofs.Ytiakfdfpikheaaa
open Go.RowKit
set_option linter.unusedVariables false

theorem num_any (x : Int) (w : World) : Calls Try.prog 12 #[.int .i64 x] w fun e w' => e = .returned (.int .i64 x) ∧ w = w' := by
  go_enter Try.func12, Try.ntmps12
  go_wp2
  go_ret
  exact ⟨rfl, rfl⟩

theorem make8 (W : World) : (Instr.makeSlice 25 (.int .i64 8) (.int .i64 8)).run Try.prog W = .ok (.slice (some ⟨W.heap.size, 0, none⟩) 8 8)
    (W.alloc (.cells #[.int .u8 0, .int .u8 0, .int .u8 0, .int .u8 0, .int .u8 0, .int .u8 0, .int .u8 0, .int .u8 0] 5)) := by kernel_rfl

set_option maxHeartbeats 4000000 in
theorem number_258 (g base : Nat) (w : World) (hblk : Blk w g 48 #[.slice none 0 0, .int .i64 0, .int .i64 0]) (hb : base ≤ w.heap.size) (hgb : base ≤ g) :
    Calls Try.prog 20 #[.pointer (some ⟨g, 0, none⟩), .int .u8 7, .int .u64 258] w fun e w' => e = .returned (.pointer (some ⟨g, 0, none⟩)) ∧
      ∃ v', Blk w' g 48 #[v', .int .i64 1, .int .i64 0] ∧ Row w' base v' [7, 0, 0, 0, 8, 0, 0, 0, 0, 0, 0, 1, 2] ∧ Below base w w' := by
  have hmk := make8
  go_enter Try.func20, Try.ntmps20
  go_wp2
  refine wp_loop_rounds 9 ?_
  iterate 8
    rw [rounds_succ]
    go_wp2
  rw [rounds_succ]
  go_wp2_with fail
  have hap : Apart (w.alloc (.cells #[.int .u8 0, .int .u8 0, .int .u8 0, .int .u8 0, .int .u8 0, .int .u8 0, .int .u8 1, .int .u8 2] 5)) (some ⟨w.heap.size, 0, none⟩) [0, 0, 0, 0, 0, 0, 1, 2] g (.slice none 0 0) := by
    refine ⟨fun _ => ⟨w.heap.size, 0, rfl, by simp, fun j hj => ?_⟩, fun ad e => ?_⟩
    · rw [World.cell?_alloc_at _ _ _ _ rfl]
      simp only [List.length_cons, List.length_nil] at hj
      have : j = 0 ∨ j = 1 ∨ j = 2 ∨ j = 3 ∨ j = 4 ∨ j = 5 ∨ j = 6 ∨ j = 7 := by omega
      rcases this with rfl | rfl | rfl | rfl | rfl | rfl | rfl | rfl <;> rfl
    · injection e with e
      subst e
      have := hblk.lt
      exact ⟨by show w.heap.size ≠ g; omega, by simp [Value.ownBlock]⟩
  refine (bytes_ok g (.slice none 0 0) 0 [] [0, 0, 0, 0, 0, 0, 1, 2] 7 (some ⟨w.heap.size, 0, none⟩) 8 base _ (hblk.alloc _) (World.ownsRow_nil _ _ _ _) (Nat.le_trans hb (by simp)) hap (by omega) (by omega) (by decide) (by simp) (by omega) rfl hgb).mono ?_
  rintro e w1 ⟨rfl, v1, hblk1, hrow1, hb1⟩
  go_wp2
  go_ret
  exact ⟨rfl, v1, hblk1, hrow1, ((Below.refl base w).alloc hb _).trans hb1⟩

set_option maxHeartbeats 1000000 in
/-- All bytes of a writer that has not failed. -/
theorem end_ok (g : Nat) (v : Value) (m : Int) (l : List Int) (base : Nat) (w : World) (hblk : Blk w g 48 #[v, .int .i64 m, .int .i64 0]) (hrow : Row w base v l) (hl : l.length ≤ 1000000000000) :
    Calls Try.prog 11 #[.pointer (some ⟨g, 0, none⟩)] w fun e w' => ∃ v', e = .returned (.tuple #[v', .int .i64 0]) ∧ Row w' w.heap.size v' l ∧ Below w.heap.size w w' := by
  obtain ⟨A, c, rfl, hc, hrd⟩ := hrow.rd
  have c0 : w.cell? ⟨g, 0, none⟩ = some (.slice A l.length c) := hblk.cell 0
  have c2 : w.cell? ⟨g, 2, none⟩ = some (.int .i64 0) := hblk.cell 2
  go_enter Try.func11, Try.ntmps11
  go_wp2_with (go_at_call 29; refine (clone_any A c l w hrd (by omega)).mono ?_; rintro e w1 ⟨v1, rfl, hrow1, hb1⟩)
  go_ret2
  exact ⟨v1, rfl, hrow1, hb1⟩

def mkS (l : List Int) : ByteArray := l.foldl (fun r n => r.push (UInt8.ofNat n.toNat)) ByteArray.empty
theorem conv_of (W : World) (A : Option Addr) (cap B : Nat) (l : List Int) (h : Rd W B A l) (hs : A.isSome = true ∨ A = none) :
    (convert 25 9 (.slice A l.length cap)).run Try.prog W = .ok (.string (mkS l)) W := by
  rw [run_convert_bytes_string (P := Try.prog) W 25 9 5 A _ _ Try.underlying25 Try.underlying5 Try.underlying9]
  cases A with
  | none =>
    have : l = [] := by
      cases l with
      | nil => rfl
      | cons a t => obtain ⟨b, off, e, _⟩ := h (by simp); cases e
    subst this
    simp [Conv.bytesToString, mkS, Sem.run_pure]
  | some a =>
    refine run_bytesToString W a l.length cap l ?_
    have := run_loadCells_list (P := Try.prog) (w := W) a (l.map (Value.int .u8)) (fun j u hu => by
      have hj : j < l.length := by
        rcases Nat.lt_or_ge j l.length with h | h
        · exact h
        · rw [List.getElem?_eq_none (by simpa using h)] at hu; cases hu
      obtain ⟨b, off, e, hlt, hc⟩ := h (by omega)
      injection e with e
      subst e
      rw [show (⟨b, off, none⟩ : Addr).add j = ⟨b, off + j, none⟩ from by unfold Addr.add; by_cases h : j = 0 <;> simp [h], hc j hj]
      simp [List.getElem?_map, List.getElem?_eq_getElem hj] at hu
      simp [List.getD_eq_getElem?_getD, List.getElem?_eq_getElem hj, hu])
    simpa using this
theorem conv_row {w : World} {base : Nat} {v : Value} {l : List Int} (h : Row w base v l) : (convert 25 9 v).run Try.prog w = .ok (.string (mkS l)) w := by
  obtain ⟨A, c, rfl, _, hr⟩ := h.rd
  exact conv_of w A c _ l hr (by cases A <;> simp)

theorem known_row : mkS [7, 0, 0, 0, 8, 0, 0, 0, 0, 0, 0, 1, 2] = ⟨#[7, 0, 0, 0, 8, 0, 0, 0, 0, 0, 0, 1, 2]⟩ := by decide +kernel

set_option maxHeartbeats 1000000 in
theorem known_any (w : World) : Calls Try.prog 8 #[] w fun e w' => e = .returned (.bool true) ∧ Below w.heap.size w w' := by
  have hn := Lib.hid (number_258 w.heap.size w.heap.size (w.alloc (.cells #[.slice none 0 0, .int .i64 0, .int .i64 0] 48)) (Blk.new w 48 _) (by simp) (Nat.le_refl _))
  have hb0 := Lib.hid ((Below.refl w.heap.size w).alloc (Nat.le_refl _) (.cells #[.slice none 0 0, .int .i64 0, .int .i64 0] 48))
  go_enter Try.func8, Try.ntmps8
  go_wp2_with fail
  refine hn.out.mono ?_
  rintro e w1 ⟨rfl, v1, hblk1, hrow1, hb1⟩
  have HB1 := Lib.hid (hb0.out.trans hb1)
  clear hb1
  go_wp2_with fail
  refine (end_ok _ _ _ _ _ _ hblk1 hrow1 (by simp)).mono ?_
  rintro e w2 ⟨v2, rfl, hrow2, hb2⟩
  have HB2 := Lib.hid (HB1.out.trans (hb2.mono HB1.out.size))
  have hcv := conv_row hrow2
  rw [known_row] at hcv
  clear hb2 hblk1 hrow1 hrow2
  go_wp2_with (go_at_call 12; refine (num_any _ _).mono ?_; rintro e w' ⟨rfl, rfl⟩)
  go_ret
  exact ⟨rfl, HB2.out⟩
end Go.Proofs.Ytiakfdfpikheaaa
