/- Stage 4's sort: slices.SortFunc at a range, with its closure. -/
import Derived.Test.YtpghnoadeamplaaProg
import Derived.WalkKit
import Derived.ProofKit
import Derived.Below
import Derived.BigQuiet
import Derived.IntWalk
namespace Go.Proofs.Ytpghnoadeamplaa
open Go.RowKit
set_option linter.unusedVariables false
set_option linter.unusedSimpArgs false

/-- A range: from, to, value. -/
structure Rg where
  lo : Int
  hi : Int
  val : Int
deriving DecidableEq, Inhabited
def Rg.cells (x : Rg) : List Value := [.int .i32 x.lo, .int .i32 x.hi, .int .i64 x.val]

def cmpI (a b : Int) : Int := if a < b then -1 else if b < a then 1 else 0
theorem nan_any (a : Int) (w : World) : Calls Try.prog 27 #[.int .i32 a] w fun e w' => e = .returned (.bool false) ∧ w' = w := by
  go_enter Try.func27, Try.ntmps27
  go_wp2
  go_ret
  all_goals simp

theorem compare_any (a b : Int) (w : World) : Calls Try.prog 22 #[.int .i32 a, .int .i32 b] w fun e w' => e = .returned (.int .i64 (cmpI a b)) ∧ w' = w := by
  have hn := fun a W => nan_any a W
  unfold cmpI
  by_cases h1 : a < b
  · go_enter Try.func22, Try.ntmps22
    go_wp2_with (go_at_call 27; refine (hn _ _).mono ?_; rintro e w' ⟨rfl, rfl⟩)
    go_ret
    all_goals simp
  · by_cases h2 : b < a
    · go_enter Try.func22, Try.ntmps22
      go_wp2_with (go_at_call 27; refine (hn _ _).mono ?_; rintro e w' ⟨rfl, rfl⟩)
      go_ret
      all_goals simp
    · go_enter Try.func22, Try.ntmps22
      go_wp2_with (go_at_call 27; refine (hn _ _).mono ?_; rintro e w' ⟨rfl, rfl⟩)
      go_ret
      all_goals simp


theorem num_any (a : Int) (w : World) : Calls Try.prog 10 #[.int .i64 a] w fun e w' => e = .returned (.int .i64 a) ∧ w' = w := by
  go_enter Try.func10, Try.ntmps10
  go_wp2
  go_ret
  all_goals simp

/-- The closure of the sort: two boxes, nothing else. -/
theorem less_any (x y : Rg) (w : World) : Calls Try.prog 21 #[.agg #[.int .i32 x.lo, .int .i32 x.hi, .int .i64 x.val], .agg #[.int .i32 y.lo, .int .i32 y.hi, .int .i64 y.val]] w fun e w' =>
    e = .returned (.int .i64 (cmpI x.lo y.lo)) ∧ ∃ o o', w' = (w.alloc o).alloc o' := by
  have hc := fun W => compare_any x.lo y.lo W
  generalize cmpI x.lo y.lo = r at hc ⊢
  go_enter Try.func21, Try.ntmps21
  go_wp2_with (go_at_call 22; refine (hc _).mono ?_; rintro e w' ⟨rfl, rfl⟩)
  go_ret
  exact ⟨rfl, _, _, rfl⟩

/-- A map of ranges that is there: whether it was made, and its ranges' slice. -/
def MapAt (w : World) (p : Addr) (made : Bool) (A : Option Addr) (n c : Nat) : Prop :=
  w.cell? p = some (.bool made) ∧ w.cell? (p.add 1) = some (.slice A n c)
end Go.Proofs.Ytpghnoadeamplaa
