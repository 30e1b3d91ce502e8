/- The reference's Sound, at the shape of five keys. -/
import Derived.Test.YtpldeobobfbkiaaV3
namespace Go.Proofs.Ytpldeobobfbkiaa.Tlv
open Go.RowKit
set_option maxRecDepth 100000
set_option linter.unusedVariables false
set_option linter.unusedSimpArgs false

set_option maxHeartbeats 4000000 in
theorem sound_any (gS cS g1 c1 g2 c2 : Nat) (w : World) (s0 : w.cell? ⟨gS, 0, none⟩ = some (.slice (some ⟨g1, 0, none⟩) 1 c1)) (s1 : w.cell? ⟨gS, 1, none⟩ = some (.slice (some ⟨g2, 0, none⟩) 2 c2))
    (a0 : w.cell? ⟨g1, 0, none⟩ = some (.int .i64 1)) (b0 : w.cell? ⟨g2, 0, none⟩ = some (.int .i64 1)) (b1 : w.cell? ⟨g2, 1, none⟩ = some (.int .i64 3)) :
    Calls Try.prog 26 #[.slice (some ⟨gS, 0, none⟩) 2 cS, .int .i64 5, .int .i64 2] w fun e w' => e = .returned (.bool true) ∧ w = w' := by
  have hw : ∀ x ∈ [(0 : Int), 1, 2, 3, 4, 5, 6, 8], IntKind.i64.wrap x = x := by decide
  have w0 := hw 0 (by decide)
  have w1 := hw 1 (by decide)
  have w2 := hw 2 (by decide)
  have w3 := hw 3 (by decide)
  have w4 := hw 4 (by decide)
  have w5 := hw 5 (by decide)
  have w6 := hw 6 (by decide)
  clear hw
  go_enter Try.func26, Try.ntmps26
  go_wp2
  refine wp_loop_rounds 3 ?_
  rw [rounds_succ]
  go_wp2
  refine wp_loop_rounds 2 ?_
  rw [rounds_succ]
  go_wp2
  rw [rounds_succ]
  go_wp2
  rw [rounds_succ]
  go_wp2
  refine wp_loop_rounds 3 ?_
  rw [rounds_succ]
  go_wp2
  rw [rounds_succ]
  go_wp2
  rw [rounds_succ]
  go_wp2
  rw [rounds_succ]
  go_wp2
  go_ret
  exact ⟨rfl, rfl⟩
end Go.Proofs.Ytpldeobobfbkiaa.Tlv
