/- A writer's end. -/
import Derived.Test.YtknjlholbelpbaaTFlag
import Derived.Test.YtknjlholbelpbaaTFillO
namespace Go.Proofs.Ytknjlholbelpbaa.Tlv
open Go.RowKit
set_option maxRecDepth 100000
set_option linter.unusedVariables false
set_option linter.unusedSimpArgs false

theorem puts_app {q xs : List Int} {tag : Int} (h : tag ≠ 0) : putS (some q) tag xs = some (q ++ valB tag xs) := by
  unfold putS valB
  simp [h]
theorem ws_new (w : World) : WS (w.alloc (.cells #[.slice none 0 0, .int .i64 0, .int .i64 0] 76)) w.heap.size w.heap.size (some []) 0 := ⟨_, Blk.new w 76 #[.slice none 0 0, .int .i64 0, .int .i64 0], World.ownsRow_nil _ _ _ _⟩
theorem Row.lowB {w : World} {base base' : Nat} {v : Value} {l : List Int} (h : Row w base v l) (hb : base' ≤ base) : Row w base' v l := by
  refine ⟨h.1, ?_⟩
  rcases h.2 with h0 | ⟨g, cap, cur, hv, hg, rest⟩
  · exact .inl h0
  · exact .inr ⟨g, cap, cur, hv, Nat.le_trans hb hg, rest⟩
/-- A writer's end. -/
theorem end_ws (g m base : Nat) (q : List Int) (w : World) (h : WS w base g (some q) m) (hl : q.length ≤ 1000000000000) :
    Calls Try.prog 49 #[.pointer (some ⟨g, 0, none⟩)] w fun e w' => ∃ v', e = .returned (.tuple #[v', .int .i64 0]) ∧ Row w' w.heap.size v' q ∧ Below w.heap.size w w' := by
  obtain ⟨v, h1, h2⟩ := h
  exact end_ok g v m q base w h1 h2 hl
theorem ended_ws (g m base : Nat) (q : List Int) (w : World) (h : WS w base g (some q) m) (hl : q.length ≤ 1000000000000) :
    Calls Try.prog 37 #[.pointer (some ⟨g, 0, none⟩)] w fun e w' => ∃ v', e = .returned (.tuple #[v', .int .i64 0]) ∧ Row w' w.heap.size v' q ∧ Below w.heap.size w w' := by
  have HE := Lib.hid (end_ws g m base q w h hl)
  clear h
  go_enter Try.func37, Try.ntmps37
  go_wp2_with fail
  refine HE.out.mono ?_
  rintro e w1 ⟨v1, rfl, hr, hb⟩
  have H := Lib.hid (And.intro hr hb)
  obtain ⟨A, c, rfl, _, _⟩ := hr.rd
  clear hr hb
  go_wp2_with fail
  go_ret2
  exact ⟨_, rfl, H.out⟩
end Go.Proofs.Ytknjlholbelpbaa.Tlv
