/- RangesNil: the closed sentence. -/
import Derived.Test.YtpghnoadeamplaaKnown
namespace Go.Proofs.Ytpghnoadeamplaa
open Go.RowKit
set_option linter.unusedVariables false
set_option linter.unusedSimpArgs false

theorem get_empty (p c : Nat) (A : Option Addr) (r : Int) (w : World) (hm : w.cell? ⟨p, 1, none⟩ = some (.slice A 0 c)) :
    Calls Try.prog 11 #[.pointer (some ⟨p, 0, none⟩), .int .i32 r] w fun e w' => e = .returned (.tuple #[.int .i64 0, .bool false]) ∧ Below w.heap.size w w' := by
  go_enter Try.func11, Try.ntmps11
  go_wp2
  refine wp_scope_jumps 0 (fun _ _ => False) (fun _ _ => 0) rfl ?_ ?_
  rotate_left
  · exact fun _ _ h => h.elim
  · go_wp2
    go_quiet (fail)
    go_wp2
    have hq : Below w.heap.size w (w.drewN nq) := ⟨rfl, rfl, rfl, Nat.le_refl _, fun _ _ => rfl⟩
    go_step3
    rename_i hK
    refine hK _ _ ?_
    clear hK
    go_wp2
    refine wp_loop_rounds 1 ?_
    rw [rounds_succ]
    go_wp2
    simp only [Exit.jump]
    go_ret2
    exact ⟨rfl, hq⟩

theorem rise_rises {l : List Rg} (h : Rise l) : Rises l := fun i j hij hj => by
  have := List.pairwise_iff_getElem.1 h i j (by omega) hj hij
  rwa [List.getD_eq_getElem?_getD, List.getD_eq_getElem?_getD, List.getElem?_eq_getElem hj, List.getElem?_eq_getElem (show i < l.length by omega)]

/-- Get of a map that is there. -/
theorem get_map (g : Nat) (l : List Rg) (r : Int) (w : World) (hm : MapV w g l) (hl : l.length ≤ 1000000) (hc : Canon l) :
    Calls Try.prog 11 #[.pointer (some ⟨g, 0, none⟩), .int .i32 r] w fun e w' => e = .returned (.tuple #[.int .i64 (getV l r), .bool (getB l r)]) ∧ Below w.heap.size w w' := by
  obtain ⟨A, c, hblk, hrd, hcap⟩ := hm
  cases l with
  | nil => exact get_empty g c A r w (hblk.cell 1)
  | cons x t =>
    obtain ⟨rb, off, rfl, hlt, hcs⟩ := hrd (by simp)
    exact get_found g off c rb (x :: t) r w hblk.lt hlt (hblk.cell 1) hcs (by omega) hcap (rise_rises (canon_rise hc)) (fun j hj => (hc.1 _ (getD_mem hj)).2)

theorem len_map (g : Nat) (l : List Rg) (w : World) (hm : MapV w g l) : Calls Try.prog 13 #[.pointer (some ⟨g, 0, none⟩)] w fun e w' => e = .returned (.int .i64 l.length) ∧ w' = w := by
  obtain ⟨A, c, hblk, _, _⟩ := hm
  exact len_any g A l.length c w (hblk.cell 1)

def n2 : List Rg := [⟨2147483647, 2147483647, 7⟩, ⟨0, 2147483646, 7⟩]
def n1 : List Rg := [⟨0, 2147483647, 7⟩]
theorem in32_n2 : In32 n2 := fun j hj => by
  have : j = 0 ∨ j = 1 := by simp [n2] at hj; omega
  rcases this with rfl | rfl <;> decide
theorem canon_n1 : Canon n1 := ⟨fun x hx => by simp [n1] at hx; subst hx; decide, List.pairwise_singleton _ _⟩

set_option maxHeartbeats 8000000 in
theorem nil_walk (w : World) : Calls Try.prog 5 #[] w fun e w' => e = .returned (.bool true) ∧ Below w.heap.size w w' := by
  have hof : ∀ B W, RdR W W.heap.size (some ⟨B, 0, none⟩) n2 → Calls Try.prog 8 #[.slice (some ⟨B, 0, none⟩) 2 2] W fun e w' => ∃ g, e = .returned (.tuple #[.pointer (some ⟨g, 0, none⟩), .int .i64 0]) ∧ Below W.heap.size W w' ∧ MapV w' g n1 ∧ W.heap.size ≤ g := fun B W h =>
    of_fine _ _ _ n2 W rfl h (by decide) in32_n2 (by decide) (by decide)
  have Hof := Lib.hid hof
  clear hof
  go_enter Try.func5, Try.ntmps5
  go_wp2_with fail
  refine (get_nil _ _).mono ?_
  rintro e w1 ⟨rfl, rfl⟩
  have hz := Blk.new w 47 #[.bool false, .slice none 0 0]
  have Hz := Lib.hid hz
  clear hz
  go_wp2_with fail
  refine (with_zero w.heap.size ⟨0, 0, 0⟩ _ Hz.out.lt (Hz.out.cell 0)).mono ?_
  rintro e w2 ⟨rfl, hb2⟩
  go_wp2_with fail
  refine (Hof.out _ _ (rd_block (Blk.new _ _ _) rfl)).mono ?_
  rintro e w3 ⟨g, rfl, hb3, hm3, hg3⟩
  have H3 := Lib.hid hm3
  clear hm3
  go_wp2_with fail
  refine (get_map g n1 2147483647 _ H3.out (by decide) canon_n1).mono ?_
  rintro e w4 ⟨rfl, hb4⟩
  have e1 : getV n1 2147483647 = 7 := by decide
  have e2 : getB n1 2147483647 = true := by decide
  rw [e1, e2]
  have H4 := Lib.hid (H3.out.on hb4)
  clear e1 e2
  go_wp2_with fail
  refine (get_map g n1 (-1) _ H4.out (by decide) canon_n1).mono ?_
  rintro e w5 ⟨rfl, hb5⟩
  have e1 : getV n1 (-1) = 0 := by decide
  have e2 : getB n1 (-1) = false := by decide
  rw [e1, e2]
  have H5 := Lib.hid (H4.out.on hb5)
  clear e1 e2
  go_wp2_with fail
  have Z2 := Hz.out.below hb2 Hz.out.lt
  have Z3 := (Z2.alloc (.cells #[.int .i32 2147483647, .int .i32 2147483647, .int .i64 7, .int .i32 0, .int .i32 2147483646, .int .i64 7] 24)).below hb3 (by have := Z2.lt; simp; omega)
  have Z4 := Z3.below hb4 Z3.lt
  have Z5 := Lib.hid (Z4.below hb5 Z4.lt)
  have B1 : Below w.heap.size w (w.alloc (.cells #[.bool false, .slice none 0 0] 47)) := (Below.refl _ _).alloc (Nat.le_refl _) _
  have B2 := B1.trans (hb2.mono B1.size)
  have B3 := B2.trans (((Below.refl _ _).alloc (B2.size) (.cells #[.int .i32 2147483647, .int .i32 2147483647, .int .i64 7, .int .i32 0, .int .i32 2147483646, .int .i64 7] 24)).trans (hb3.mono (by have := B2.size; simp; omega)))
  have B4 := B3.trans (hb4.mono B3.size)
  have B5 := Lib.hid (B4.trans (hb5.mono B4.size))
  clear Z2 Z3 Z4 B1 B2 B3 B4
  refine (num_any _ _).mono ?_
  rintro e w5 ⟨rfl, rfl⟩
  go_wp2_with fail
  refine (len_nil _).mono ?_
  rintro e w5 ⟨rfl, rfl⟩
  go_wp2_with fail
  have hR5 : ∀ W, Blk W w.heap.size 47 #[.bool false, .slice none 0 0] → MapR W W.heap.size (some ⟨w.heap.size, 0, none⟩) [] := fun W h => .inr ⟨w.heap.size, none, 0, rfl, h.lt, h.cell 1, fun h => by simp at h⟩
  have HR5 := Lib.hid hR5
  clear hR5
  refine (many_any (some ⟨w.heap.size, 0, none⟩) [] _ (HR5.out _ Z5.out) (by decide) (fun j hj => by simp at hj)).mono ?_
  rintro e w6 ⟨rfl, hb6⟩
  have e1 : manyL [] = 0 := rfl
  rw [e1]
  clear e1
  go_wp2_with fail
  refine (once_any none [] none 0 0 _ (.inl ⟨rfl, rfl⟩) (by decide) (fun h => by simp at h)).mono ?_
  rintro e w7 ⟨rfl, hb7⟩
  have Z6 := Z5.out.below hb6 Z5.out.lt
  have Z7 := Lib.hid (Z6.below hb7 Z6.lt)
  clear Z6
  go_wp2_with fail
  refine (once_any (some ⟨w.heap.size, 0, none⟩) [] none 0 0 _ (HR5.out _ Z7.out) (by decide) (fun h => by simp at h)).mono ?_
  rintro e w8 ⟨rfl, hb8⟩
  have H8 := Lib.hid (((H5.out.on hb6).on hb7).on hb8)
  go_wp2_with fail
  refine (num_any _ _).mono ?_
  rintro e w8 ⟨rfl, rfl⟩
  go_wp2_with fail
  refine (len_map g n1 _ H8.out).mono ?_
  rintro e w8 ⟨rfl, rfl⟩
  have e1 : ((n1.length : Nat) : Int) = 1 := rfl
  rw [e1]
  clear e1
  go_wp2_with fail
  refine (known_any _).mono ?_
  rintro e w9 ⟨rfl, hb9⟩
  go_wp2_with fail
  go_ret
  have B6 := B5.out.trans (hb6.mono B5.out.size)
  have B7 := B6.trans (hb7.mono B6.size)
  have B8 := B7.trans (hb8.mono B7.size)
  exact ⟨rfl, B8.trans (hb9.mono B8.size)⟩
end Go.Proofs.Ytpghnoadeamplaa
