/- The chapter's requests: items of them. -/
import Derived.Test.YtnokghnjbonmiaaGreatDoorL3
namespace Go.Proofs.YtnokghnjbonmiaaGreatDoor.Tlv
open Go.RowKit
set_option maxRecDepth 100000
set_option linter.unusedVariables false
set_option linter.unusedSimpArgs false

theorem cloneA_nil (w : World) : Calls Tryz.prog 41 #[.slice none 0 0] w fun e w' => e = .returned (.slice none 0 0) ∧ w = w' := by
  have h1 : ∀ W, (binOp BinOp.eql 24 (Value.slice none 0 0) (Value.slice none 0 0)).run Tryz.prog W = .ok (.bool true) W := fun _ => rfl
  go_enter Tryz.func41, Tryz.ntmps41
  go_wp2
  go_ret
  exact ⟨rfl, rfl⟩
theorem cloneS_nil (w : World) : Calls Tryz.prog 42 #[.slice none 0 0] w fun e w' => e = .returned (.slice none 0 0) ∧ w = w' := by
  have h1 : ∀ W, (binOp BinOp.eql 25 (Value.slice none 0 0) (Value.slice none 0 0)).run Tryz.prog W = .ok (.bool true) W := fun _ => rfl
  go_enter Tryz.func42, Tryz.ntmps42
  go_wp2
  go_ret
  exact ⟨rfl, rfl⟩
theorem cloneB_nil (w : World) : Calls Tryz.prog 33 #[.slice none 0 0] w fun e w' => e = .returned (.slice none 0 0) ∧ w = w' := by
  have h1 : ∀ W, (binOp BinOp.eql 26 (Value.slice none 0 0) (Value.slice none 0 0)).run Tryz.prog W = .ok (.bool true) W := fun _ => rfl
  go_enter Tryz.func33, Tryz.ntmps33
  go_wp2
  go_ret
  exact ⟨rfl, rfl⟩
set_option maxHeartbeats 8000000 in
theorem copyOp6 (w : World) : Calls Tryz.prog 27 #[opV] w fun e w' => e = .returned opV ∧ Below w.heap.size w w' := by
  go_enter Tryz.func27, Tryz.ntmps27
  go_wp2_with fail
  go_region_law (first
    | (go_simp; (with_reducible refine (cloneA_nil _).mono ?_); rintro e w5 ⟨rfl, rfl⟩; dsimp only)
    | (go_simp; (with_reducible refine (cloneS_nil _).mono ?_); rintro e w5 ⟨rfl, rfl⟩; dsimp only)
    | (go_simp; (with_reducible refine (cloneB_nil _).mono ?_); rintro e w5 ⟨rfl, rfl⟩; dsimp only))
  all_goals
    go_wp2
    exact bodyPost_ret (v := opV) (by simp [results, Tryz.f27, go_sem]) rfl ⟨rfl, below_drew (((Below.refl _ _).alloc (Nat.le_refl _) _).alloc (by simp) _)⟩
end Go.Proofs.YtnokghnjbonmiaaGreatDoor.Tlv
