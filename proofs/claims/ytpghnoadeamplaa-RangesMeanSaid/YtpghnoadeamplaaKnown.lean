/- known: the chapter's row. -/
import Derived.Test.YtpghnoadeamplaaWith2
import Derived.Test.YtpghnoadeamplaaOnce
namespace Go.Proofs.Ytpghnoadeamplaa
open Go.RowKit
set_option linter.unusedVariables false
set_option linter.unusedSimpArgs false

/-- A block of ranges that the call laid. -/
theorem rd_block {w : World} {g : Nat} {l : List Rg} {cs : Array Value} (h : Blk w g 24 cs) (e : cs.toList = flat l) : RdR w w.heap.size (some ⟨g, 0, none⟩) l := fun hp => by
  refine ⟨g, 0, rfl, h.lt, fun j hj i v hv => ?_⟩
  have hi : i < 3 := by
    rcases Nat.lt_or_ge i 3 with h | h
    · exact h
    · rw [List.getElem?_eq_none (by simpa [Rg.cells] using h)] at hv; cases hv
  rw [h.cell, ← Array.getElem?_toList, e, show 0 + j * 3 + i = j * 3 + i from by omega]
  clear e h hp
  induction l generalizing j with
  | nil => simp at hj
  | cons x t ih =>
    have h3 : x.cells.length = 3 := rfl
    rw [show flat (x :: t) = x.cells ++ flat t from by simp [flat]]
    cases j with
    | zero => rw [List.getElem?_append_left (by omega)]; simpa using hv
    | succ j =>
      rw [List.getElem?_append_right (by omega), h3, show (j + 1) * 3 + i - 3 = j * 3 + i from by omega]
      exact ih j (by simpa using hj) (by simpa using hv)

/-- Of, where the ranges may be, and have no number in common. -/
theorem of_fine (A : Option Addr) (c n : Nat) (l : List Rg) (w : World) (hn : n = l.length) (hr : RdR w w.heap.size A l) (hl : l.length ≤ 1000000) (h32 : In32 l) (hg : l.all goodB = true) (ha : Apart l) :
    Calls Try.prog 8 #[.slice A n c] w fun e w' => ∃ g, e = .returned (.tuple #[.pointer (some ⟨g, 0, none⟩), .int .i64 0]) ∧ Below w.heap.size w w' ∧ MapV w' g (ofL l) ∧ w.heap.size ≤ g := by
  refine (of_end A c n l w hn hr hl h32).mono ?_
  rintro e w' ⟨q, n, rfl, hb, ⟨h1, _⟩ | ⟨_, h1, _⟩ | ⟨_, _, rfl, g, v, rfl, h2, h3⟩⟩
  · rw [hg] at h1; cases h1
  · exact absurd ha h1
  · exact ⟨g, rfl, hb, h3.mapV, h2⟩

def k3 : List Rg := [⟨5, 9, 1⟩, ⟨2, 4, 1⟩, ⟨12, 12, 1⟩]
def k2 : List Rg := [⟨2, 9, 1⟩, ⟨12, 12, 1⟩]
theorem in32_k3 : In32 k3 := fun j hj => by
  have : j = 0 ∨ j = 1 ∨ j = 2 := by simp [k3] at hj; omega
  rcases this with rfl | rfl | rfl <;> decide

set_option maxHeartbeats 4000000 in
theorem known_any (w : World) : Calls Try.prog 7 #[] w fun e w' => e = .returned (.bool true) ∧ Below w.heap.size w w' := by
  have hof : ∀ W, RdR W W.heap.size (some ⟨w.heap.size, 0, none⟩) k3 → Calls Try.prog 8 #[.slice (some ⟨w.heap.size, 0, none⟩) 3 3] W fun e w' => ∃ g, e = .returned (.tuple #[.pointer (some ⟨g, 0, none⟩), .int .i64 0]) ∧ Below W.heap.size W w' ∧ MapV w' g k2 ∧ W.heap.size ≤ g := fun W h =>
    of_fine _ _ _ k3 W rfl h (by decide) in32_k3 (by decide) (by decide)
  have Hof := Lib.hid hof
  clear hof
  go_enter Try.func7, Try.ntmps7
  go_wp2_with fail
  refine (Hof.out _ (rd_block (Blk.new _ _ _) rfl)).mono ?_
  rintro e w1 ⟨g, rfl, hb1, hm, hg⟩
  go_wp2_with (go_at_call 10; refine (num_any _ _).mono ?_; rintro e w1 ⟨rfl, rfl⟩)
  have hb2 := (Below.refl w1.heap.size w1).alloc (Nat.le_refl _) (.cells #[.int .i32 2, .int .i32 9, .int .i64 1, .int .i32 12, .int .i32 12, .int .i64 1] 24)
  refine (once_any (some ⟨g, 0, none⟩) k2 (some ⟨w1.heap.size, 0, none⟩) 2 0 _ (hm.on hb2).mapR (by decide) (rd_block (Blk.new _ _ _) rfl)).mono ?_
  rintro e w2 ⟨rfl, hb3⟩
  go_wp2
  go_ret
  exact ⟨rfl, (((Below.refl _ _).alloc (Nat.le_refl _) _).trans (hb1.mono (by simp))).trans (((Below.refl _ _).alloc (by have := hb1.size; simp at this; omega) _).trans (hb3.mono (by have := hb1.size; simp at this ⊢; omega)))⟩
end Go.Proofs.Ytpghnoadeamplaa
