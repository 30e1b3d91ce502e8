/- Two arrays of four numbers: are they the same? -/
import Derived.Test.YtlemiejmjdhcgaaRow
import Derived.Laws.StructEq
import Derived.DeepKeys
namespace Go.Proofs.Ytlemiejmjdhcgaa
open Go.RowKit
set_option linter.unusedSimpArgs false
theorem info29 : ∃ i : TypeInfo, Try.prog.info? 29 = some i ∧ i.size = 1 := by
  have h : (Try.prog.info? 29).map (fun i => (i.size)) = some 1 := by kernel_rfl
  cases hi : Try.prog.info? 29 with
  | none => rw [hi] at h; cases h
  | some i => rw [hi] at h; exact ⟨i, rfl, by injection h⟩
theorem part29 (xs : Array Value) (k : Nat) (v : Value) (W : World) (h : xs[k]? = some v) : (part 29 xs k).run Try.prog W = .ok v W := by
  simp [part, isAgg, run_underlying Try.underlying29, h]
theorem eq31 (d : Nat) (a b c e a' b' c' e' : Int) (W : World) : (Op.equalIn (d + 2) 31 (.agg #[.int .u16 a, .int .u16 b, .int .u16 c, .int .u16 e]) (.agg #[.int .u16 a', .int .u16 b', .int .u16 c', .int .u16 e'])).run Try.prog W = .ok (a == a' && (b == b' && (c == c' && e == e'))) W := by
  obtain ⟨i, hi, hs⟩ := info29
  have hc : Try.prog.cellsOf 29 = 1 := by kernel_rfl
  rw [run_equalIn_array W (d + 1) _ _ Try.underlying31 hi]
  rw [hc]
  have hq : ∀ u v W, (Op.equalIn (d + 1) 29 (.int .u16 u) (.int .u16 v)).run Try.prog W = .ok (u == v) W := fun u v W => run_equalIn_int (P := Try.prog) W d 29 .u16 .u16 u v Try.underlying29
  have p0 : ∀ (x y z u : Value) W, (part 29 #[x, y, z, u] 0).run Try.prog W = .ok x W := fun x y z u W => part29 _ 0 _ W rfl
  have p1 : ∀ (x y z u : Value) W, (part 29 #[x, y, z, u] 1).run Try.prog W = .ok y W := fun x y z u W => part29 _ 1 _ W rfl
  have p2 : ∀ (x y z u : Value) W, (part 29 #[x, y, z, u] 2).run Try.prog W = .ok z W := fun x y z u W => part29 _ 2 _ W rfl
  have p3 : ∀ (x y z u : Value) W, (part 29 #[x, y, z, u] 3).run Try.prog W = .ok u W := fun x y z u W => part29 _ 3 _ W rfl
  simp only [show List.range 4 = [0, 1, 2, 3] from rfl, Op.eqItems, Sem.run_bind, Nat.mul_one, p0, p1, p2, p3, Result.andThen_ok, hq]
  cases h1 : (a == a') <;> cases h2 : (b == b') <;> cases h3 : (c == c') <;> cases h4 : (e == e') <;> simp only [h1, h2, h3, h4, p0, p1, p2, p3, hq, Sem.run_bind, Sem.run_pure, Result.andThen_ok, Bool.not_true, Bool.not_false, Bool.false_eq_true, if_true, if_false, reduceIte, Bool.and_true, Bool.true_and, Bool.and_false, Bool.false_and]
theorem neq31 (a b c e a' b' c' e' : Int) (W : World) : (binOp BinOp.neq 31 (.agg #[.int .u16 a, .int .u16 b, .int .u16 c, .int .u16 e]) (.agg #[.int .u16 a', .int .u16 b', .int .u16 c', .int .u16 e'])).run Try.prog W = .ok (.bool (!(a == a' && (b == b' && (c == c' && e == e'))))) W := by
  have h := eq31 9998 a b c e a' b' c' e' W
  simp [binOp, Op.equal, Op.maxDepth, h]
end Go.Proofs.Ytlemiejmjdhcgaa
