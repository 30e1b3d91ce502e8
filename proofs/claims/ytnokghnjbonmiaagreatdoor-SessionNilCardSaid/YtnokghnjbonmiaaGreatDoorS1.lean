/- The chapter's names: may they be? -/
import Derived.Test.YtnokghnjbonmiaaGreatDoorProg
import Derived.WalkKit
import Derived.ProofKit
import Derived.Below
import Derived.BigQuiet
import Derived.Deep.QuietTactic
import Derived.IntWalk
import Derived.Lib.Hide
import Derived.Scope
import Derived.LoopTactic
import Derived.LoopN
import Derived.ScopeJumps
import Derived.WalkSpells
import Derived.Outline
import Derived.WalkLawsBesides
namespace Go.Proofs.YtnokghnjbonmiaaGreatDoor.Tlv
open Go.RowKit
set_option maxRecDepth 100000
set_option linter.unusedVariables false
set_option linter.unusedSimpArgs false

theorem head_a (w : World) : Calls Tryz.prog 127 #[.string ⟨#[97]⟩] w fun e w' => e = .returned (.tuple #[.int .i64 1, .int .i32 97]) ∧ w = w' := by
  go_enter Tryz.func127, Tryz.ntmps127
  go_wp2
  go_ret2
  exact ⟨rfl, rfl⟩
theorem may_97 (w : World) : Calls Tryz.prog 133 #[.int .i32 97] w fun e w' => e = .returned (.bool true) ∧ w = w' := by
  go_enter Tryz.func133, Tryz.ntmps133
  go_wp2
  go_ret
  exact ⟨rfl, rfl⟩
theorem size_97 (w : World) : Calls Tryz.prog 128 #[.int .i32 97] w fun e w' => e = .returned (.int .i64 1) ∧ w = w' := by
  go_enter Tryz.func128, Tryz.ntmps128
  go_wp2_with (go_at_call 133; (with_reducible refine (may_97 _).mono ?_); rintro e w' ⟨rfl, rfl⟩)
  go_ret
  exact ⟨rfl, rfl⟩
theorem next_a (w : World) : Calls Tryz.prog 113 #[.string ⟨#[97]⟩] w fun e w' => e = .returned (.tuple #[.int .i32 97, .int .i64 1, .int .i64 0]) ∧ w = w' := by
  go_enter Tryz.func113, Tryz.ntmps113
  go_wp2
  refine wp_scope_jumps 0 (fun _ _ => False) (fun _ _ => 0) rfl ?_ ?_
  · go_wp2_with (go_at_call 127; (with_reducible refine (head_a _).mono ?_); rintro e w' ⟨rfl, rfl⟩)
    refine wp_loop_rounds 1 ?_; rw [rounds_succ]
    go_wp2_with (go_at_call 128; (with_reducible refine (size_97 _).mono ?_); rintro e w' ⟨rfl, rfl⟩)
    simp only [Exit.jump]
    go_ret3
    exact ⟨rfl, rfl⟩
  · exact fun _ _ h => h.elim
theorem ext_a : (⟨#[97]⟩ : ByteArray).extract 0 1 = ⟨#[97]⟩ := by kernel_rfl
theorem where_a (w : World) : Calls Tryz.prog 95 #[.string ⟨#[97]⟩] w fun e w' => e = .returned (.int .i64 1) ∧ w = w' := by
  have hx := ext_a
  go_enter Tryz.func95, Tryz.ntmps95
  go_wp2
  refine wp_loop_rounds 2 ?_
  rw [rounds_succ]
  go_wp2_with (go_at_call 113; (with_reducible refine (next_a _).mono ?_); rintro e w' ⟨rfl, rfl⟩)
  rw [rounds_succ]
  go_wp2
  go_ret
  exact ⟨rfl, rfl⟩
theorem where_no (w : World) : Calls Tryz.prog 95 #[.string ⟨#[]⟩] w fun e w' => e = .returned (.int .i64 0) ∧ w = w' := by
  go_enter Tryz.func95, Tryz.ntmps95
  go_wp2
  refine wp_loop_rounds 1 ?_
  rw [rounds_succ]
  go_wp2
  go_ret
  exact ⟨rfl, rfl⟩
theorem valid_a (w : World) : Calls Tryz.prog 60 #[.string ⟨#[97]⟩] w fun e w' => e = .returned (.bool true) ∧ w = w' := by
  go_enter Tryz.func60, Tryz.ntmps60
  go_wp2_with (go_at_call 95; (with_reducible refine (where_a _).mono ?_); rintro e w' ⟨rfl, rfl⟩)
  go_ret
  exact ⟨rfl, rfl⟩
theorem valid_no (w : World) : Calls Tryz.prog 60 #[.string ⟨#[]⟩] w fun e w' => e = .returned (.bool true) ∧ w = w' := by
  go_enter Tryz.func60, Tryz.ntmps60
  go_wp2_with (go_at_call 95; (with_reducible refine (where_no _).mono ?_); rintro e w' ⟨rfl, rfl⟩)
  go_ret
  exact ⟨rfl, rfl⟩
theorem mayName_a (w : World) : Calls Tryz.prog 34 #[.string ⟨#[97]⟩] w fun e w' => e = .returned (.bool true) ∧ w = w' := by
  go_enter Tryz.func34, Tryz.ntmps34
  go_wp2_with (go_at_call 60; (with_reducible refine (valid_a _).mono ?_); rintro e w' ⟨rfl, rfl⟩)
  go_ret
  exact ⟨rfl, rfl⟩
theorem mayName_no (w : World) : Calls Tryz.prog 34 #[.string ⟨#[]⟩] w fun e w' => e = .returned (.bool true) ∧ w = w' := by
  go_enter Tryz.func34, Tryz.ntmps34
  go_wp2_with (go_at_call 60; (with_reducible refine (valid_no _).mono ?_); rintro e w' ⟨rfl, rfl⟩)
  go_ret
  exact ⟨rfl, rfl⟩
end Go.Proofs.YtnokghnjbonmiaaGreatDoor.Tlv
