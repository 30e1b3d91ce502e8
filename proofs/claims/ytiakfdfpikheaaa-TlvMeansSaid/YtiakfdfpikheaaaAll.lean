/- tlv.All, ref.All: their contracts. -/
import Derived.Test.YtiakfdfpikheaaaIter
namespace Go.Proofs.Ytiakfdfpikheaaa
open Go.RowKit Go.Shelf
set_option linter.unusedVariables false
set_option linter.unusedSimpArgs false

theorem Row.rdc {w : World} {base : Nat} {v : Value} {l : List Int} (h : Row w base v l) : ∃ A cap, v = .slice A l.length cap ∧ l.length ≤ cap ∧ cap ≤ 9223372036854775807 ∧ Rd w w.heap.size A l := by
  obtain ⟨A, cap, rfl, h1, h2⟩ := h.rd
  refine ⟨A, cap, rfl, h1, ?_, h2⟩
  rcases h.2 with ⟨e, _⟩ | ⟨g, cap', cur, e, _, _, _, h5, _⟩
  · injection e with _ _ e3
    omega
  · injection e with _ _ e3
    subst e3
    exact h5

set_option maxHeartbeats 1000000 in
theorem all_any (A : Option Addr) (c : Nat) (l : List Int) (w : World) (hr : Rd w w.heap.size A l) (hn : l.length ≤ 70368744177664) :
    Calls Try.prog 18 #[.slice A l.length c] w fun e w' => ∃ B A' c', e = .returned (.func (.func 38) #[] #[.pointer (some ⟨B, 0, none⟩)]) ∧ Blk w' B 25 #[.slice A' l.length c'] ∧ Rd w' w'.heap.size A' l ∧ l.length ≤ c' ∧ c' ≤ 9223372036854775807 ∧ Below w.heap.size w w' := by
  have HC := Lib.hid (clone_any A c l w hr hn)
  clear hr
  go_enter Try.func18, Try.ntmps18
  go_wp2_with fail
  refine HC.out.mono ?_
  rintro e w1 ⟨v, rfl, hrow, hb⟩
  obtain ⟨A', c', rfl, h1, h2, h3⟩ := hrow.rdc
  have hB := Blk.new w1 25 #[.slice A' l.length c']
  have hb1 : Below w1.heap.size w1 (w1.alloc (.cells #[.slice A' l.length c'] 25)) := (Below.refl _ _).alloc (Nat.le_refl _) _
  have hr1 := (h3.below hb1).more hb1.size
  have hb2 : Below w.heap.size w (w1.alloc (.cells #[.slice A' l.length c'] 25)) := hb.trans (hb1.mono hb.size)
  clear hrow h3 hb1
  have H := Lib.hid (And.intro hB (And.intro hr1 hb2))
  clear hB hr1 hb2
  go_wp2
  go_ret
  exact ⟨_, _, _, rfl, H.out.1, H.out.2.1, h1, h2, H.out.2.2⟩
end Go.Proofs.Ytiakfdfpikheaaa
