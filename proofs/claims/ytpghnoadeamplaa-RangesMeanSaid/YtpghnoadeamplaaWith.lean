/- With, of a map that is not there. -/
import Derived.Test.YtpghnoadeamplaaAll
namespace Go.Proofs.Ytpghnoadeamplaa
open Go.RowKit
set_option linter.unusedVariables false
set_option linter.unusedSimpArgs false

theorem with_nil (x : Rg) (w : World) : Calls Try.prog 17 #[.pointer none, .agg #[.int .i32 x.lo, .int .i32 x.hi, .int .i64 x.val]] w fun e w' => e = .returned (.tuple #[.pointer none, .int .i64 1]) ∧ Below w.heap.size w w' := by
  go_enter Try.func17, Try.ntmps17
  go_wp2
  go_ret2
  exact ⟨rfl, (Below.refl _ _).alloc (Nat.le_refl _) _⟩

theorem with_zero (b : Nat) (x : Rg) (w : World) (hb : b < w.heap.size) (h0 : w.cell? ⟨b, 0, none⟩ = some (.bool false)) : Calls Try.prog 17 #[.pointer (some ⟨b, 0, none⟩), .agg #[.int .i32 x.lo, .int .i32 x.hi, .int .i64 x.val]] w fun e w' => e = .returned (.tuple #[.pointer none, .int .i64 1]) ∧ Below w.heap.size w w' := by
  have hb1 : Below w.heap.size w (w.alloc (.cells #[.int .i32 x.lo, .int .i32 x.hi, .int .i64 x.val] 24)) := (Below.refl _ _).alloc (Nat.le_refl _) _
  have h1 := (hb1.cell (p := ⟨b, 0, none⟩) hb).trans h0
  go_enter Try.func17, Try.ntmps17
  go_wp2
  go_ret2
  exact ⟨rfl, hb1⟩
end Go.Proofs.Ytpghnoadeamplaa
