/- The document's bytes of a rune (blazonref01.Put), and its first rune of a text (blazonref01.Next). -/
import Derived.Test.YtidkpdoiblomjaaZ08
import Derived.RegionTactic
import Derived.Deep.RegionWith
import Derived.Deep.RegionHeld3
import Derived.StillTailTactics
import Derived.Deep.DeepCutAuto
namespace Go.Proofs.Ytidkpdoiblomjaa.Utf
open Go.RowKit
set_option linter.unusedVariables false
def putI (r : Int) : List Int :=
 if r ≤ 127 then [r] else if r ≤ 2047 then [192 + r / 64, 128 + r % 64]
 else if r ≤ 65535 then [224 + r / 4096, 128 + r / 64 % 64, 128 + r % 64]
 else [240 + r / 262144, 128 + r / 4096 % 64, 128 + r / 64 % 64, 128 + r % 64]
set_option maxHeartbeats 400000 in
theorem put_any (r : Int) (w : World) (hm : mayB r = true) :
   Calls Try.prog 98 #[.int .i32 r] w fun e w' => e = .returned (.slice (some ⟨w.heap.size, 0, none⟩) (putI r).length (putI r).length) ∧ w.alloc (.cells ((putI r).map (Value.int .u8)).toArray 5) = w' := by
 have h : 0 ≤ r ∧ r ≤ 1114111 := by unfold mayB at hm; simp at hm; omega
 obtain ⟨h0, h1⟩ := h
 clear hm
 by_cases a1 : r ≤ 127
 · have e : putI r = [r] := by unfold putI; rw [if_pos a1]
   rw [e]; clear e
   go_enter Try.func98, Try.ntmps98
   go_wp2
   go_ret
   exact ⟨rfl, rfl⟩
 by_cases a2 : r ≤ 2047
 · have e : putI r = [192 + r / 64, 128 + r % 64] := by unfold putI; rw [if_neg a1, if_pos a2]
   rw [e]; clear e
   go_enter Try.func98, Try.ntmps98
   go_wp2
   go_ret
   exact ⟨rfl, rfl⟩
 by_cases a3 : r ≤ 65535
 · have e : putI r = [224 + r / 4096, 128 + r / 64 % 64, 128 + r % 64] := by unfold putI; rw [if_neg a1, if_neg a2, if_pos a3]
   rw [e]; clear e
   go_enter Try.func98, Try.ntmps98
   go_wp2
   go_ret
   exact ⟨rfl, rfl⟩
 · have e : putI r = [240 + r / 262144, 128 + r / 4096 % 64, 128 + r / 64 % 64, 128 + r % 64] := by unfold putI; rw [if_neg a1, if_neg a2, if_neg a3]
   rw [e]; clear e
   go_enter Try.func98, Try.ntmps98
   go_wp2
   go_ret
   exact ⟨rfl, rfl⟩
end Go.Proofs.Ytidkpdoiblomjaa.Utf
