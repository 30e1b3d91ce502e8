/- RangesSplit: the walk. -/
import Derived.Test.YtpghnoadeamplaaParts
import Derived.Test.YtpghnoadeamplaaMakes
namespace Go.Proofs.Ytpghnoadeamplaa
open Go.RowKit
set_option linter.unusedVariables false
set_option linter.unusedSimpArgs false

/-- The law is about these alone. -/
def Asks (l : List Rg) (x : Rg) (a : Int) : Prop := l.length ≤ 200 ∧ 0 ≤ x.lo ∧ x.lo ≤ x.hi ∧ x.hi - x.lo ≤ 99 ∧ x.lo ≤ a ∧ a < x.hi ∧ x.hi ≤ 1073741824

set_option maxHeartbeats 8000000 in
set_option maxRecDepth 100000 in
theorem split_out (A : Option Addr) (c : Nat) (l : List Rg) (x : Rg) (a : Int) (w : World) (hx : In1 x) (ha : -2147483648 ≤ a ∧ a ≤ 2147483647) (h : ¬ Asks l x a) :
    Calls Try.prog 6 #[.slice A l.length c, .agg #[.int .i32 x.lo, .int .i32 x.hi, .int .i64 x.val], .int .i32 a] w fun e w' => e = .returned (.bool true) ∧ Below w.heap.size w w' := by
  have hcases : (200 < l.length) ∨ (l.length ≤ 200 ∧ x.lo < 0) ∨ (l.length ≤ 200 ∧ 0 ≤ x.lo ∧ x.hi < x.lo) ∨ (l.length ≤ 200 ∧ 0 ≤ x.lo ∧ x.lo ≤ x.hi ∧ 99 < x.hi - x.lo) ∨ (l.length ≤ 200 ∧ 0 ≤ x.lo ∧ x.lo ≤ x.hi ∧ x.hi - x.lo ≤ 99 ∧ a < x.lo) ∨
      (l.length ≤ 200 ∧ 0 ≤ x.lo ∧ x.lo ≤ x.hi ∧ x.hi - x.lo ≤ 99 ∧ x.lo ≤ a ∧ x.hi ≤ a) ∨ (l.length ≤ 200 ∧ 0 ≤ x.lo ∧ x.lo ≤ x.hi ∧ x.hi - x.lo ≤ 99 ∧ x.lo ≤ a ∧ a < x.hi ∧ 1073741824 < x.hi) := by
    unfold Asks at h
    omega
  have hB := Blk.new w 24 #[.int .i32 x.lo, .int .i32 x.hi, .int .i64 x.val]
  have c0 := hB.cell 0
  have c1 := hB.cell 1
  have hB0 : Below w.heap.size w (w.alloc (.cells #[.int .i32 x.lo, .int .i32 x.hi, .int .i64 x.val] 24)) := (Below.refl _ _).alloc (Nat.le_refl _) _
  unfold In1 at hx
  clear h
  have hfin : ∀ w1, Below (w.alloc (.cells #[.int .i32 x.lo, .int .i32 x.hi, .int .i64 x.val] 24)).heap.size (w.alloc (.cells #[.int .i32 x.lo, .int .i32 x.hi, .int .i64 x.val] 24)) w1 → Below w.heap.size w w1 := fun w1 hb => hB0.trans (hb.mono hB0.size)
  rcases hcases with h | ⟨g1, h⟩ | ⟨g1, g2, h⟩ | ⟨g1, g2, g3, h⟩ | ⟨g1, g2, g3, g4, h⟩ | ⟨g1, g2, g3, g4, g5, h⟩ | ⟨g1, g2, g3, g4, g5, g6, h⟩
  · have d2 : decide ((200 : Int) < l.length) = true := by simp only [decide_eq_true_eq]; omega
    go_enter Try.func6, Try.ntmps6
    go_wp2_with fail
    refine (known_any _).mono ?_
    rintro e w1 ⟨rfl, hb⟩
    go_wp2_with fail
    go_ret
    exact ⟨rfl, hfin _ hb⟩
  all_goals
    have d1 : decide ((200 : Int) < l.length) = false := by simp only [decide_eq_false_iff_not]; omega
    have e1 : decide (200 < l.length) = false := by simp only [decide_eq_false_iff_not]; omega
  · have d2 : decide (x.lo < 0) = true := by simp only [decide_eq_true_eq]; omega
    go_enter Try.func6, Try.ntmps6
    go_wp2_with fail
    refine (known_any _).mono ?_
    rintro e w1 ⟨rfl, hb⟩
    go_wp2_with fail
    go_ret
    exact ⟨rfl, hfin _ hb⟩
  all_goals
    have d2 : decide (x.lo < 0) = false := by simp only [decide_eq_false_iff_not]; omega
  · have d3 : decide (x.hi < x.lo) = true := by simp only [decide_eq_true_eq]; omega
    go_enter Try.func6, Try.ntmps6
    go_wp2_with fail
    refine (known_any _).mono ?_
    rintro e w1 ⟨rfl, hb⟩
    go_wp2_with fail
    go_ret
    exact ⟨rfl, hfin _ hb⟩
  all_goals
    have d3 : decide (x.hi < x.lo) = false := by simp only [decide_eq_false_iff_not]; omega
    have hw : IntKind.i32.wrap (x.hi - x.lo) = x.hi - x.lo := IntWalk.i32_in _ (by omega)
  · have d4 : decide (99 < x.hi - x.lo) = true := by simp only [decide_eq_true_eq]; omega
    go_enter Try.func6, Try.ntmps6
    go_wp2_with fail
    refine (known_any _).mono ?_
    rintro e w1 ⟨rfl, hb⟩
    go_wp2_with fail
    go_ret
    exact ⟨rfl, hfin _ hb⟩
  all_goals
    have d4 : decide (99 < x.hi - x.lo) = false := by simp only [decide_eq_false_iff_not]; omega
  · have d5 : decide (a < x.lo) = true := by simp only [decide_eq_true_eq]; omega
    go_enter Try.func6, Try.ntmps6
    go_wp2_with fail
    refine (known_any _).mono ?_
    rintro e w1 ⟨rfl, hb⟩
    go_wp2_with fail
    go_ret
    exact ⟨rfl, hfin _ hb⟩
  all_goals
    have d5 : decide (a < x.lo) = false := by simp only [decide_eq_false_iff_not]; omega
  · have d6 : decide (x.hi ≤ a) = true := by simp only [decide_eq_true_eq]; omega
    go_enter Try.func6, Try.ntmps6
    go_wp2_with fail
    refine (known_any _).mono ?_
    rintro e w1 ⟨rfl, hb⟩
    go_wp2_with fail
    go_ret
    exact ⟨rfl, hfin _ hb⟩
  · have d6 : decide (x.hi ≤ a) = false := by simp only [decide_eq_false_iff_not]; omega
    have d7 : decide (1073741824 < x.hi) = true := by simp only [decide_eq_true_eq]; omega
    go_enter Try.func6, Try.ntmps6
    go_wp2_with fail
    refine (known_any _).mono ?_
    rintro e w1 ⟨rfl, hb⟩
    go_wp2_with fail
    go_ret
    exact ⟨rfl, hfin _ hb⟩
end Go.Proofs.Ytpghnoadeamplaa
