/- The map's own small functions. -/
import Derived.Test.YtpghnoadeamplaaSmall
import Derived.Deep.QuietTactic
import Derived.LoopTactic
import Derived.LoopN
import Derived.Lib.Hide
import Derived.WalkSpells
import Derived.ScopeJumps
import Derived.OwnWalk
namespace Go.Proofs.Ytpghnoadeamplaa
open Go.RowKit
set_option linter.unusedVariables false

theorem len_nil (w : World) : Calls Try.prog 13 #[.pointer none] w fun e w' => e = .returned (.int .i64 0) ∧ w' = w := by
  go_enter Try.func13, Try.ntmps13
  go_wp2
  go_ret
  all_goals simp

theorem len_any (b : Nat) (A : Option Addr) (n c : Nat) (w : World) (hc : w.cell? ⟨b, 1, none⟩ = some (.slice A n c)) :
    Calls Try.prog 13 #[.pointer (some ⟨b, 0, none⟩)] w fun e w' => e = .returned (.int .i64 n) ∧ w' = w := by
  go_enter Try.func13, Try.ntmps13
  go_wp2
  go_ret
  all_goals simp

theorem get_nil (r : Int) (w : World) : Calls Try.prog 11 #[.pointer none, .int .i32 r] w fun e w' => e = .returned (.tuple #[.int .i64 0, .bool false]) ∧ w' = w := by
  go_enter Try.func11, Try.ntmps11
  go_wp2
  refine wp_scope_jumps 0 (fun _ _ => False) (fun _ _ => 0) rfl ?_ ?_
  · go_wp2
    simp only [Exit.jump]
    go_ret2
    all_goals simp
  · exact fun _ _ h => h.elim
end Go.Proofs.Ytpghnoadeamplaa
