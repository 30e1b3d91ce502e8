/- The law of what comes and goes in any order. -/
import Derived.Test.YtgjcomnljonffaaB36
namespace Go.Proofs.Ytgjcomnljonffaa.Tlv
open Go.RowKit
set_option maxRecDepth 100000
set_option linter.unusedVariables false
set_option linter.unusedSimpArgs false
set_option maxHeartbeats 8000000 in
theorem grows_bad (a0 a1 a2 a3 : Int) (w : World) (h : a0 < 2 ∨ 8 < a0 ∨ a1 < 0 ∨ 300 < a1 ∨ a2 < 1 ∨ 1000 < a2 ∨ a3 < 1 ∨ 1000 < a3) : Calls Try.prog 4 #[.int .i64 a0, .int .i64 a1, .int .i64 a2, .int .i64 a3] w fun e w' => e = .returned (.bool true) ∧ Below w.heap.size w w' := by
  have HK := Lib.hid (known_any w)
  by_cases c0 : a0 < 2
  · clear h
    go_enter Try.func4, Try.ntmps4
    go_wp2_with (go_at_call 8; (with_reducible refine HK.out.mono ?_); rintro e w1 ⟨rfl, hb⟩; dsimp only)
    go_ret
    exact ⟨rfl, hb⟩
  by_cases c1 : 8 < a0
  · clear h
    go_enter Try.func4, Try.ntmps4
    go_wp2_with (go_at_call 8; (with_reducible refine HK.out.mono ?_); rintro e w1 ⟨rfl, hb⟩; dsimp only)
    go_ret
    exact ⟨rfl, hb⟩
  by_cases c2 : a1 < 0
  · clear h
    go_enter Try.func4, Try.ntmps4
    go_wp2_with (go_at_call 8; (with_reducible refine HK.out.mono ?_); rintro e w1 ⟨rfl, hb⟩; dsimp only)
    go_ret
    exact ⟨rfl, hb⟩
  by_cases c3 : 300 < a1
  · clear h
    go_enter Try.func4, Try.ntmps4
    go_wp2_with (go_at_call 8; (with_reducible refine HK.out.mono ?_); rintro e w1 ⟨rfl, hb⟩; dsimp only)
    go_ret
    exact ⟨rfl, hb⟩
  by_cases c4 : a2 < 1
  · clear h
    go_enter Try.func4, Try.ntmps4
    go_wp2_with (go_at_call 8; (with_reducible refine HK.out.mono ?_); rintro e w1 ⟨rfl, hb⟩; dsimp only)
    go_ret
    exact ⟨rfl, hb⟩
  by_cases c5 : 1000 < a2
  · clear h
    go_enter Try.func4, Try.ntmps4
    go_wp2_with (go_at_call 8; (with_reducible refine HK.out.mono ?_); rintro e w1 ⟨rfl, hb⟩; dsimp only)
    go_ret
    exact ⟨rfl, hb⟩
  by_cases c6 : a3 < 1
  · clear h
    go_enter Try.func4, Try.ntmps4
    go_wp2_with (go_at_call 8; (with_reducible refine HK.out.mono ?_); rintro e w1 ⟨rfl, hb⟩; dsimp only)
    go_ret
    exact ⟨rfl, hb⟩
  by_cases c7 : 1000 < a3
  · clear h
    go_enter Try.func4, Try.ntmps4
    go_wp2_with (go_at_call 8; (with_reducible refine HK.out.mono ?_); rintro e w1 ⟨rfl, hb⟩; dsimp only)
    go_ret
    exact ⟨rfl, hb⟩
  omega
end Go.Proofs.Ytgjcomnljonffaa.Tlv
