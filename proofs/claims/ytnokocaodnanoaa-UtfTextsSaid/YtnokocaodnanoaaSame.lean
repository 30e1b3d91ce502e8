/- The document's Same, of two lists that are the same. -/
import Derived.Test.YtnokocaodnanoaaEnc
import Derived.Test.YtnokocaodnanoaaDecode
namespace Go.Proofs.Ytnokocaodnanoaa
open Go.RowKit
set_option linter.unusedVariables false

theorem row_in {w : World} {base : Nat} {v : Value} {l : List Int} (h : Row32 w base v l) : ∃ A cap, v = .slice A l.length cap ∧ In32 w w.heap.size A l := by
  rcases h.2 with ⟨rfl, hn⟩ | ⟨g, cap, cur, rfl, h3, hg, r⟩
  · exact ⟨none, 0, by rw [hn], fun h => by omega⟩
  · refine ⟨_, cap, rfl, fun hp => ⟨g, 0, rfl, (Array.getElem?_eq_some_iff.1 hg).1, fun j hj => ?_⟩⟩
    have := World.ownsRow.cells (w := w) (base := base) (e := 21) (size := 1) (v := .slice (some ⟨g, 0, none⟩) l.length cap) (n := l.length) (xs := l.map (Value.int .i32)) ⟨h.1, .inr ⟨g, cap, cur, rfl, h3, hg, r⟩⟩ (g := g) rfl j (.int .i32 (l.getD j 0))
      (by simp [List.getElem?_map, List.getElem?_eq_getElem hj, List.getD_eq_getElem?_getD])
    rwa [show (⟨g, 0, none⟩ : Addr).add j = ⟨g, 0 + j, none⟩ from by unfold Addr.add; by_cases h : j = 0 <;> simp [h]] at this
theorem in_below {w w' : World} {A : Option Addr} {l : List Int} (h : In32 w w.heap.size A l) (hb : Below w.heap.size w w') : In32 w' w'.heap.size A l := fun hp => by
  obtain ⟨b, off, e, hlt, hc⟩ := h hp
  exact ⟨b, off, e, by have := hb.size; omega, fun j hj => (hb.cell (p := ⟨b, off + j, none⟩) hlt).trans (hc j hj)⟩

set_option maxHeartbeats 2000000 in
theorem same_eq (zs : List Int) (A B : Option Addr) (ca cb : Nat) (w : World) (hA : In32 w w.heap.size A zs) (hB : In32 w w.heap.size B zs) (hn : zs.length ≤ 9000) :
    Calls Try.prog 22 #[.slice A zs.length ca, .slice B zs.length cb] w fun e w' => e = .returned (.bool true) ∧ Below w.heap.size w w' := by
  go_enter Try.func22, Try.ntmps22
  go_wp2
  go_loopw [5] (fun i wr => ∃ k m : Nat, i = .int .i64 k ∧ k ≤ zs.length ∧ wr = w.drewN m) (fun i _ => zs.length - (intOf i).toNat)
  case atStart => exact ⟨0, 0, rfl, Nat.zero_le _, rfl⟩
  case round =>
    obtain ⟨k, m, rfl, hk, rfl⟩ := hrel
    by_cases hlt : k < zs.length
    · obtain ⟨b1, o1, rfl, _, hc1⟩ := hA (by omega)
      obtain ⟨b2, o2, rfl, _, hc2⟩ := hB (by omega)
      have c1 := hc1 k hlt
      have c2 := hc2 k hlt
      generalize zs.getD k 0 = z at *
      clear hc1 hc2 hA hB
      have hne : (z != z) = false := by simp
      go_wp2
      go_quiet (fail)
      go_wp2
      go_roundw
      case rel => exact ⟨k + 1, _, by go_num, by omega, rfl⟩
      case measure => simp [intOf]; omega
    · go_wp2
      go_ret
      exact ⟨rfl, ⟨rfl, rfl, rfl, Nat.le_refl _, fun _ _ => rfl⟩⟩
end Go.Proofs.Ytnokocaodnanoaa
