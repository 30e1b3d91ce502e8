/- What came in: a slice of ranges, a range. -/
import Derived.Test.YtpghnoadeamplaaApp
import Derived.Deep.Slices
import Derived.Lib.SmallJoins
import Derived.OpenShut
namespace Go.Proofs.Ytpghnoadeamplaa
open Go.RowKit Go.ChangeShapes Go.WideShapes Go.Deep Go.Joins
set_option linter.unusedVariables false
set_option linter.unusedSimpArgs false

def Fits (x : Rg) : Prop := (x.lo ≤ 2147483647 ∧ x.hi ≤ 2147483647 ∧ -2147483648 ≤ x.lo ∧ -2147483648 ≤ x.hi) ∧ -9223372036854775808 ≤ x.val ∧ x.val ≤ 9223372036854775807

section
variable {H : Type} {enc : TypeId × Value → H} {w : World} {base : Nat} {spare : Nat → Bool} {held : Bool}
theorem wf32 {n : Int} (h : (Lit.int .i32 n).wf = true) : -2147483648 ≤ n ∧ n ≤ 2147483647 := by
  have e1 : IntKind.i32.min = -2147483648 := by decide
  have e2 : IntKind.i32.max = 2147483647 := by decide
  simp only [Lit.wf, e1, e2, Bool.and_eq_true, decide_eq_true_eq] at h
  exact h
theorem wf64 {n : Int} (h : (Lit.int .i64 n).wf = true) : -9223372036854775808 ≤ n ∧ n ≤ 9223372036854775807 := by
  have e1 : IntKind.i64.min = -9223372036854775808 := by decide
  have e2 : IntKind.i64.max = 9223372036854775807 := by decide
  simp only [Lit.wf, e1, e2, Bool.and_eq_true, decide_eq_true_eq] at h
  exact h
theorem open_rg {fuel : Nat} {cs : List Value} {x : DataW H × List MemPlace} (h : DataW.trod enc Try.prog w base spare held fuel 24 cs = some x) : ∃ r : Rg, cs = r.cells ∧ Fits r := by
  obtain ⟨y0, y1, y2, n, _, hl, h0, h1, h2⟩ := trod_struct3 Try.underlying24 h
  have e0 : Try.prog.cellsOf 21 = 1 := by kernel_rfl
  have e1 : Try.prog.cellsOf 3 = 1 := by kernel_rfl
  have e2 : Try.prog.cellsOf 24 = 3 := by kernel_rfl
  simp only [e0, e1] at h0 h1 h2
  rw [e2] at hl
  match cs, hl with
  | [a, b, c], _ =>
    obtain ⟨n0, z0, _, f0⟩ := DataW.trod_int Try.underlying21 h0
    obtain ⟨n1, z1, _, f1⟩ := DataW.trod_int Try.underlying21 h1
    obtain ⟨n2, z2, _, f2⟩ := DataW.trod_int Try.underlying3 h2
    simp at z0 z1 z2
    subst z0; subst z1; subst z2
    have g0 := wf32 f0
    have g1 := wf32 f1
    have g2 := wf64 f2
    exact ⟨⟨n0, n1, n2⟩, rfl, ⟨g0.2, g1.2, g0.1, g1.1⟩, g2.1, g2.2⟩
theorem open_rgs {v : Value} {d : DataW H} {p : List MemPlace} (hv : ∃ A n c, v = .slice A n c) (h : DataW.Trod enc Try.prog w base spare held 22 v d p) :
    ∃ (A : Option Addr) (c : Nat) (l : List Rg), v = .slice A l.length c ∧ (A = none → c = 0) ∧ RdR w w.heap.size A l ∧ l.length ≤ maxLen ∧ ∀ x ∈ l, Fits x := by
  obtain ⟨A, n, c, rfl⟩ := hv
  obtain ⟨fuel, hf⟩ := h
  have e2 : Try.prog.cellsOf 24 = 3 := by kernel_rfl
  rcases open_slice Try.underlying22 hf with ⟨hcs, _⟩ | ⟨a, len, cap, m, k, D, Pl, hcs, hb, hl, hm, hmm, _, hi⟩
  · simp [Value.cells] at hcs
    obtain ⟨rfl, rfl, rfl⟩ := hcs
    exact ⟨none, 0, [], rfl, fun _ => rfl, fun h => by simp at h, by simp [maxLen], fun x hx => by simp at hx⟩
  · simp [Value.cells] at hcs
    obtain ⟨rfl, rfl, rfl⟩ := hcs
    rw [e2] at hi
    have hle : n ≤ m := by rw [hmm]; split <;> omega
    have hel : ∀ i, i < n → ∃ r : Rg, Fits r ∧ ∀ j u, r.cells[j]? = some u → w.cell? (a.add (i * 3 + j)) = some u := fun i hin => by
      obtain ⟨cs', hc, ht⟩ := hi i (by omega)
      obtain ⟨r, rfl, hr⟩ := open_rg ht
      obtain ⟨_, _, hat⟩ := World.cells?_some hc
      refine ⟨r, hr, fun j u hu => ?_⟩
      have hj : j < 3 := (List.getElem?_eq_some_iff.1 hu).1
      rw [← Go.Deep.add_add, hat j hj, hu]
    have hch : ∃ l : List Rg, l.length = n ∧ ∀ i, i < n → Fits (l.getD i default) ∧ ∀ j u, (l.getD i default).cells[j]? = some u → w.cell? (a.add (i * 3 + j)) = some u := by
      clear hi hle hl hm hmm hf
      rename_i hxx
      clear hxx
      induction n with
      | zero => exact ⟨[], rfl, fun i hi => by omega⟩
      | succ n ih =>
        obtain ⟨l, hl, h1⟩ := ih (fun i hi => hel i (by omega))
        obtain ⟨r, hr, h2⟩ := hel n (by omega)
        refine ⟨l ++ [r], by simp [hl], fun i hi => ?_⟩
        rcases Nat.lt_or_ge i n with hin | hin
        · have e : (l ++ [r]).getD i default = l.getD i default := by rw [List.getD_eq_getElem?_getD, List.getD_eq_getElem?_getD, List.getElem?_append_left (by omega)]
          rw [e]; exact h1 i hin
        · have e : (l ++ [r]).getD i default = r := by rw [List.getD_eq_getElem?_getD, List.getElem?_append_right (by omega), show i - l.length = 0 from by omega]; rfl
          rw [e]
          have : i = n := by omega
          subst this
          exact ⟨hr, h2⟩
    obtain ⟨l, hll, hle2⟩ := hch
    refine ⟨some a, c, l, by rw [hll], fun h => (by cases h), fun hp => ?_, by omega, fun x hx => ?_⟩
    · obtain ⟨b, off, spot⟩ := a
      have hc := (hle2 0 (by omega)).2 0 _ rfl
      have hspot : spot = none := by simpa [Addr.add] using World.cell?_spot hc
      subst hspot
      have hb : b < w.heap.size := World.block_lt_of_cell? w _ hc
      refine ⟨b, off, rfl, hb, fun j hj i u hu => ?_⟩
      have := (hle2 j (by omega)).2 i u hu
      rw [Addr.add_mid, ← Nat.add_assoc] at this
      exact this
    · obtain ⟨i, hi', rfl⟩ := List.getElem_of_mem hx
      have := (hle2 i (by omega)).1
      rwa [List.getD_eq_getElem?_getD, List.getElem?_eq_getElem hi'] at this
theorem open_rg1 {r : Reach} {b0 : Nat} {v : Value} {d : DataW H} {p : List MemPlace} (hv : Value.okWide Try.prog w r b0 24 v) (h : DataW.Trod enc Try.prog w base spare held 24 v d p) :
    ∃ x : Rg, v = .agg #[.int .i32 x.lo, .int .i32 x.hi, .int .i64 x.val] ∧ Fits x := by
  obtain ⟨cs, rfl, hsz⟩ := okWide_struct Try.underlying24 hv
  obtain ⟨fuel, hf⟩ := h
  obtain ⟨x, hx, hfit⟩ := open_rg hf
  refine ⟨x, ?_, hfit⟩
  have : cs.toList = x.cells := by simpa [Value.cells] using hx
  rw [show cs = x.cells.toArray from by rw [← this]]
  rfl
end
end Go.Proofs.Ytpghnoadeamplaa
