/- What came in: a slice of parts. -/
import Derived.Test.YtiakfdfpikheaaaMuch
import Derived.Deep.Slices
import Derived.Deep.Strs
import Derived.Lib.SmallJoins
import Derived.OpenShut
namespace Go.Proofs.Ytiakfdfpikheaaa
open Go.RowKit Go.ChangeShapes Go.WideShapes Go.Deep Go.Joins
set_option linter.unusedVariables false
set_option linter.unusedSimpArgs false

theorem spot_none {w : World} {x : Addr} {v : Value} (hc : w.cell? (x.add 0) = some v) : ∃ b off, x = ⟨b, off, none⟩ ∧ b < w.heap.size := by
  obtain ⟨b, off, spot⟩ := x
  have hspot : spot = none := by simpa [Addr.add] using World.cell?_spot hc
  subst hspot
  exact ⟨b, off, rfl, World.block_lt_of_cell? w _ hc⟩
section
variable {H : Type} {enc : TypeId × Value → H} {w : World} {base : Nat} {spare : Nat → Bool} {held : Bool}
theorem open_bytes {fuel : Nat} {cs : List Value} {x : DataW H × List MemPlace} (h : DataW.trod enc Try.prog w base spare held fuel 25 cs = some x) :
    ∃ (A : Option Addr) (c : Nat) (l : List Int), cs = [.slice A l.length c] ∧ (A = none → c = 0) ∧ Rd w w.heap.size A l ∧ Byt l ∧ l.length ≤ c ∧ c ≤ maxLen := by
  rcases open_ints Try.underlying25 Try.underlying5 (by kernel_rfl) h with ⟨hcs, _⟩ | ⟨a, len, cap, zs, hcs, _, hl, hm, hz, _, hcell, hwz⟩
  · exact ⟨none, 0, [], hcs, fun _ => rfl, Rd.nil, fun x hx => by simp at hx, Nat.le_refl _, Nat.zero_le _⟩
  · have hz1 : len ≤ zs.length := by rw [hz]; split <;> omega
    have hll : (zs.take len).length = len := by rw [List.length_take]; omega
    refine ⟨some a, cap, zs.take len, by rw [hll]; exact hcs, fun e => (by cases e), fun hp => ?_, fun n hn => ?_, by omega, hm⟩
    · obtain ⟨b, off, rfl, hb⟩ := spot_none (hcell 0 (by omega))
      refine ⟨b, off, rfl, hb, fun j hj => ?_⟩
      have := hcell j (by omega)
      rw [show (⟨b, off, none⟩ : Addr).add j = ⟨b, off + j, none⟩ from by unfold Addr.add; by_cases h : j = 0 <;> simp [h]] at this
      rw [this, List.getD_eq_getElem?_getD, List.getD_eq_getElem?_getD, List.getElem?_take_of_lt (by omega)]
    · have := hwz n (List.mem_of_mem_take hn)
      simp [Lit.wf, IntKind.min, IntKind.max, IntKind.signed, IntKind.bits] at this
      omega
theorem open_texts {fuel : Nat} {cs : List Value} {x : DataW H × List MemPlace} (h : DataW.trod enc Try.prog w base spare held fuel 29 cs = some x) :
    ∃ (A : Option Addr) (c : Nat) (l : List ByteArray), cs = [.slice A l.length c] ∧ RdS w w.heap.size A l ∧ l.length ≤ maxLen := by
  rcases open_strs Try.underlying29 Try.underlying9 (by kernel_rfl) h with ⟨hcs, _⟩ | ⟨a, len, cap, m, Sx, hcs, _, hl, hm, hmm, _, hcell⟩
  · exact ⟨none, 0, [], hcs, fun h => by simp at h, by simp [maxLen]⟩
  · have hle : len ≤ m := by rw [hmm]; split <;> omega
    refine ⟨some a, cap, (List.range len).map Sx, by rw [List.length_map, List.length_range]; exact hcs, fun hp => ?_, by rw [List.length_map, List.length_range]; omega⟩
    rw [List.length_map, List.length_range] at hp
    obtain ⟨b, off, rfl, hb⟩ := spot_none (hcell 0 (by omega)).1
    refine ⟨b, off, rfl, hb, fun j hj => ?_⟩
    rw [List.length_map, List.length_range] at hj
    have := (hcell j (by omega)).1
    rw [show (⟨b, off, none⟩ : Addr).add j = ⟨b, off + j, none⟩ from by unfold Addr.add; by_cases h : j = 0 <;> simp [h]] at this
    rw [this, List.getD_eq_getElem?_getD, List.getElem?_map, List.getElem?_range hj]
    rfl
theorem trod_struct5 {P : Program} {t : TypeId} {f0 f1 f2 f3 f4 : Field} {fuel : Nat} {cs : List Value} {x : DataW H × List MemPlace} (ht : P.underlying t = some (.struct #[f0, f1, f2, f3, f4])) (h : DataW.trod enc P w base spare held fuel t cs = some x) :
    ∃ y0 y1 y2 y3 y4 n, cs.length = P.cellsOf t ∧ DataW.trod enc P w base spare held n f0.type ((cs.drop f0.offset).take (P.cellsOf f0.type)) = some y0 ∧
      DataW.trod enc P w base spare held n f1.type ((cs.drop f1.offset).take (P.cellsOf f1.type)) = some y1 ∧ DataW.trod enc P w base spare held n f2.type ((cs.drop f2.offset).take (P.cellsOf f2.type)) = some y2 ∧
      DataW.trod enc P w base spare held n f3.type ((cs.drop f3.offset).take (P.cellsOf f3.type)) = some y3 ∧ DataW.trod enc P w base spare held n f4.type ((cs.drop f4.offset).take (P.cellsOf f4.type)) = some y4 := by
  obtain ⟨xs, n, _, rfl, hl, hlen, hf⟩ := DataW.trod_struct ht h
  match xs, hlen with
  | [y0, y1, y2, y3, y4], _ => exact ⟨y0, y1, y2, y3, y4, n, hl, by simpa using hf 0 f0 rfl, by simpa using hf 1 f1 rfl, by simpa using hf 2 f2 rfl, by simpa using hf 3 f3 rfl, by simpa using hf 4 f4 rfl⟩
theorem open_pt {fuel : Nat} {cs : List Value} {x : DataW H × List MemPlace} (h : DataW.trod enc Try.prog w base spare held fuel 31 cs = some x) : ∃ p : Pt, cs = p.cells ∧ PtOk w w.heap.size p ∧ p.b.length ≤ maxLen ∧ p.ls.length ≤ maxLen := by
  obtain ⟨y0, y1, y2, y3, y4, n, hl, h0, h1, h2, h3, h4⟩ := trod_struct5 Try.underlying31 h
  have e0 : Try.prog.cellsOf 3 = 1 := by kernel_rfl
  have e1 : Try.prog.cellsOf 5 = 1 := by kernel_rfl
  have e2 : Try.prog.cellsOf 28 = 1 := by kernel_rfl
  have e3 : Try.prog.cellsOf 25 = 1 := by kernel_rfl
  have e4 : Try.prog.cellsOf 29 = 1 := by kernel_rfl
  have e5 : Try.prog.cellsOf 31 = 5 := by kernel_rfl
  simp only [e0] at h0
  simp only [e1] at h1
  simp only [e2] at h2
  simp only [e3] at h3
  simp only [e4] at h4
  rw [e5] at hl
  match cs, hl with
  | [a, b, c, d, e], _ =>
    obtain ⟨kind, z0, _, wk⟩ := DataW.trod_int Try.underlying3 h0
    obtain ⟨tag, z1, _, wt⟩ := DataW.trod_int Try.underlying5 h1
    obtain ⟨nn, z2, _, wn⟩ := DataW.trod_int Try.underlying28 h2
    obtain ⟨A, cc, bs, z3, hA, hr, hby, hlc, hcm⟩ := open_bytes h3
    obtain ⟨LA, lc, ls, z4, hs, hlm⟩ := open_texts h4
    simp at z0 z1 z2 z3 z4
    subst z0; subst z1; subst z2; subst z3; subst z4
    simp [Lit.wf, IntKind.min, IntKind.max, IntKind.signed, IntKind.bits] at wt wn
    exact ⟨⟨kind, tag, nn, A, cc, bs, LA, lc, ls⟩, rfl, ⟨hr, hA, hs, by show 0 ≤ tag ∧ tag ≤ 255; omega, by show 0 ≤ nn ∧ nn < 18446744073709551616; omega, hby⟩, by show bs.length ≤ maxLen; omega, hlm⟩
theorem open_pts {v : Value} {d : DataW H} {p : List MemPlace} (hv : ∃ A n c, v = .slice A n c) (h : DataW.Trod enc Try.prog w base spare held 22 v d p) :
    ∃ (A : Option Addr) (c : Nat) (l : List Pt), v = .slice A l.length c ∧ (A = none → c = 0) ∧ RdK kP w w.heap.size A l ∧ (∀ q ∈ l, PtOk w w.heap.size q) ∧ l.length ≤ maxLen ∧ ∀ q ∈ l, q.b.length ≤ maxLen ∧ q.ls.length ≤ maxLen := by
  obtain ⟨A, n, c, rfl⟩ := hv
  obtain ⟨fuel, hf⟩ := h
  have e2 : Try.prog.cellsOf 31 = 5 := by kernel_rfl
  rcases open_slice Try.underlying22 hf with ⟨hcs, _⟩ | ⟨a, len, cap, m, k, D, Pl, hcs, hb, hl, hm, hmm, _, hi⟩
  · simp [Value.cells] at hcs
    obtain ⟨rfl, rfl, rfl⟩ := hcs
    exact ⟨none, 0, [], rfl, fun _ => rfl, fun h => by simp at h, fun q hq => by simp at hq, by simp [maxLen], fun q hq => by simp at hq⟩
  · simp [Value.cells] at hcs
    obtain ⟨rfl, rfl, rfl⟩ := hcs
    rw [e2] at hi
    have hle : n ≤ m := by rw [hmm]; split <;> omega
    have hel : ∀ i, i < n → ∃ r : Pt, (PtOk w w.heap.size r ∧ r.b.length ≤ maxLen ∧ r.ls.length ≤ maxLen) ∧ ∀ j u, r.cells[j]? = some u → w.cell? (a.add (i * 5 + j)) = some u := fun i hin => by
      obtain ⟨cs', hc, ht⟩ := hi i (by omega)
      obtain ⟨r, rfl, hok⟩ := open_pt ht
      obtain ⟨_, _, hat⟩ := World.cells?_some hc
      refine ⟨r, hok, fun j u hu => ?_⟩
      have hj : j < 5 := (List.getElem?_eq_some_iff.1 hu).1
      rw [← Go.Deep.add_add, hat j hj, hu]
    have hch : ∃ l : List Pt, l.length = n ∧ (∀ q ∈ l, PtOk w w.heap.size q ∧ q.b.length ≤ maxLen ∧ q.ls.length ≤ maxLen) ∧ ∀ i, i < n → ∀ j u, (l.getD i default).cells[j]? = some u → w.cell? (a.add (i * 5 + j)) = some u := by
      clear hi hle hl hm hmm hf
      rename_i hxx
      clear hxx
      induction n with
      | zero => exact ⟨[], rfl, fun q hq => by simp at hq, fun i hi => by omega⟩
      | succ n ih =>
        obtain ⟨l, hl, h0, h1⟩ := ih (fun i hi => hel i (by omega))
        obtain ⟨r, hr, h2⟩ := hel n (by omega)
        refine ⟨l ++ [r], by simp [hl], fun q hq => ?_, fun i hi => ?_⟩
        · rcases List.mem_append.1 hq with h | h
          · exact h0 q h
          · rw [List.mem_singleton.1 h]; exact hr
        rcases Nat.lt_or_ge i n with hin | hin
        · have e : (l ++ [r]).getD i default = l.getD i default := by rw [List.getD_eq_getElem?_getD, List.getD_eq_getElem?_getD, List.getElem?_append_left (by omega)]
          rw [e]; exact h1 i hin
        · have e : (l ++ [r]).getD i default = r := by rw [List.getD_eq_getElem?_getD, List.getElem?_append_right (by omega), show i - l.length = 0 from by omega]; rfl
          rw [e]
          have : i = n := by omega
          subst this
          exact h2
    obtain ⟨l, hll, hok, hle2⟩ := hch
    refine ⟨some a, c, l, by rw [hll], fun h => (by cases h), fun hp => ?_, fun q hq => (hok q hq).1, by omega, fun q hq => (hok q hq).2⟩
    have hc := hle2 0 (by omega) 0 _ rfl
    obtain ⟨b, off, rfl, hbw⟩ := spot_none hc
    refine ⟨b, off, rfl, hbw, fun j hj i u hu => ?_⟩
    have := hle2 j (by omega) i u hu
    rw [Addr.add_mid, ← Nat.add_assoc] at this
    exact this
end
end Go.Proofs.Ytiakfdfpikheaaa
