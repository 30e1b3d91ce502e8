/- What came in: a slice of elements, an element, options. -/
import Derived.Test.YtlemiejmjdhcgaaSmall
import Derived.Deep.Slices
import Derived.Lib.SmallJoins
import Derived.OpenShut
namespace Go.Proofs.Ytlemiejmjdhcgaa
open Go.RowKit Go.ChangeShapes Go.WideShapes Go.Deep Go.Joins
set_option linter.unusedVariables false
set_option linter.unusedSimpArgs false

section
variable {H : Type} {enc : TypeId × Value → H} {w : World} {base : Nat} {spare : Nat → Bool} {held : Bool}
theorem open_el {fuel : Nat} {cs : List Value} {x : DataW H × List MemPlace} (h : DataW.trod enc Try.prog w base spare held fuel 42 cs = some x) : ∃ r : El, cs = r.cells := by
  obtain ⟨y0, y1, y2, y3, n, _, hl, h0, h1, h2, h3⟩ := trod_struct4 Try.underlying42 h
  have e0 : Try.prog.cellsOf 29 = 1 := by kernel_rfl
  have e1 : Try.prog.cellsOf 4 = 1 := by kernel_rfl
  have e2 : Try.prog.cellsOf 42 = 4 := by kernel_rfl
  simp only [e0, e1] at h0 h1 h2 h3
  rw [e2] at hl
  match cs, hl with
  | [a, b, c, d], _ =>
    obtain ⟨n0, z0, _, _⟩ := DataW.trod_int Try.underlying29 h0
    obtain ⟨n1, z1, _, _⟩ := DataW.trod_int Try.underlying29 h1
    obtain ⟨n2, z2, _, _⟩ := DataW.trod_int Try.underlying29 h2
    obtain ⟨n3, z3, _⟩ := DataW.trod_bool Try.underlying4 h3
    simp at z0 z1 z2 z3
    subst z0; subst z1; subst z2; subst z3
    exact ⟨⟨n0, n1, n2, n3⟩, rfl⟩
theorem open_opts {r : Reach} {b0 : Nat} {v : Value} {d : DataW H} {p : List MemPlace} (hv : Value.okWide Try.prog w r b0 23 v) (h : DataW.Trod enc Try.prog w base spare held 23 v d p) : ∃ sh lv, v = .agg #[.bool sh, .int .i64 lv] := by
  obtain ⟨cs, rfl, hsz⟩ := okWide_struct Try.underlying23 hv
  obtain ⟨fuel, hf⟩ := h
  obtain ⟨y0, y1, n, _, hl, h0, h1⟩ := trod_struct2 Try.underlying23 hf
  have e0 : Try.prog.cellsOf 3 = 1 := by kernel_rfl
  have e1 : Try.prog.cellsOf 4 = 1 := by kernel_rfl
  have e2 : Try.prog.cellsOf 23 = 2 := by kernel_rfl
  simp only [e0, e1] at h0 h1
  rw [e2] at hl
  obtain ⟨cs⟩ := cs
  simp only [Value.cells] at hl h0 h1
  match cs, hl with
  | [a, b], _ =>
    obtain ⟨n0, z0, _⟩ := DataW.trod_bool Try.underlying4 h0
    obtain ⟨n1, z1, _, _⟩ := DataW.trod_int Try.underlying3 h1
    simp at z0 z1
    subst z0; subst z1
    exact ⟨n0, n1, rfl⟩
theorem open_els {v : Value} {d : DataW H} {p : List MemPlace} (hv : ∃ A n c, v = .slice A n c) (h : DataW.Trod enc Try.prog w base spare held 24 v d p) :
    ∃ (A : Option Addr) (c : Nat) (l : List El), v = .slice A l.length c ∧ (A = none → c = 0) ∧ RdK kE w w.heap.size A l ∧ l.length ≤ maxLen := by
  obtain ⟨A, n, c, rfl⟩ := hv
  obtain ⟨fuel, hf⟩ := h
  have e2 : Try.prog.cellsOf 42 = 4 := by kernel_rfl
  rcases open_slice Try.underlying24 hf with ⟨hcs, _⟩ | ⟨a, len, cap, m, k, D, Pl, hcs, hb, hl, hm, hmm, _, hi⟩
  · simp [Value.cells] at hcs
    obtain ⟨rfl, rfl, rfl⟩ := hcs
    exact ⟨none, 0, [], rfl, fun _ => rfl, fun h => by simp at h, by simp [maxLen]⟩
  · simp [Value.cells] at hcs
    obtain ⟨rfl, rfl, rfl⟩ := hcs
    rw [e2] at hi
    have hle : n ≤ m := by rw [hmm]; split <;> omega
    have hel : ∀ i, i < n → ∃ r : El, ∀ j u, r.cells[j]? = some u → w.cell? (a.add (i * 4 + j)) = some u := fun i hin => by
      obtain ⟨cs', hc, ht⟩ := hi i (by omega)
      obtain ⟨r, rfl⟩ := open_el ht
      obtain ⟨_, _, hat⟩ := World.cells?_some hc
      refine ⟨r, fun j u hu => ?_⟩
      have hj : j < 4 := (List.getElem?_eq_some_iff.1 hu).1
      rw [← Go.Deep.add_add, hat j hj, hu]
    have hch : ∃ l : List El, l.length = n ∧ ∀ i, i < n → ∀ j u, (l.getD i default).cells[j]? = some u → w.cell? (a.add (i * 4 + j)) = some u := by
      clear hi hle hl hm hmm hf
      rename_i hxx
      clear hxx
      induction n with
      | zero => exact ⟨[], rfl, fun i hi => by omega⟩
      | succ n ih =>
        obtain ⟨l, hl, h1⟩ := ih (fun i hi => hel i (by omega))
        obtain ⟨r, h2⟩ := hel n (by omega)
        refine ⟨l ++ [r], by simp [hl], fun i hi => ?_⟩
        rcases Nat.lt_or_ge i n with hin | hin
        · have e : (l ++ [r]).getD i default = l.getD i default := by rw [List.getD_eq_getElem?_getD, List.getD_eq_getElem?_getD, List.getElem?_append_left (by omega)]
          rw [e]; exact h1 i hin
        · have e : (l ++ [r]).getD i default = r := by rw [List.getD_eq_getElem?_getD, List.getElem?_append_right (by omega), show i - l.length = 0 from by omega]; rfl
          rw [e]
          have : i = n := by omega
          subst this
          exact h2
    obtain ⟨l, hll, hle2⟩ := hch
    refine ⟨some a, c, l, by rw [hll], fun h => (by cases h), fun hp => ?_, by omega⟩
    obtain ⟨b, off, spot⟩ := a
    have hc := hle2 0 (by omega) 0 _ rfl
    have hspot : spot = none := by simpa [Addr.add] using World.cell?_spot hc
    subst hspot
    have hb : b < w.heap.size := World.block_lt_of_cell? w _ hc
    refine ⟨b, off, rfl, hb, fun j hj i u hu => ?_⟩
    have := hle2 j (by omega) i u hu
    rw [Addr.add_mid, ← Nat.add_assoc] at this
    exact this
theorem open_el1 {r : Reach} {b0 : Nat} {v : Value} {d : DataW H} {p : List MemPlace} (hv : Value.okWide Try.prog w r b0 42 v) (h : DataW.Trod enc Try.prog w base spare held 42 v d p) : ∃ x : El, v = x.agg := by
  obtain ⟨cs, rfl, hsz⟩ := okWide_struct Try.underlying42 hv
  obtain ⟨fuel, hf⟩ := h
  obtain ⟨x, hx⟩ := open_el hf
  refine ⟨x, ?_⟩
  have : cs.toList = x.cells := by simpa [Value.cells] using hx
  rw [show cs = x.cells.toArray from by rw [← this]]
  rfl
end
end Go.Proofs.Ytlemiejmjdhcgaa
