/- What comes in: operations, bytes. -/
import Derived.Test.YtcjiofhjognklaaGreatW50
import Derived.Deep.Slices
import Derived.Deep.Strs
import Derived.Lib.SmallJoins
import Derived.SliceStrings
import Derived.WideShapes
import Derived.Test.YtcjiofhjognklaaGreatW37
import Derived.Test.YtcjiofhjognklaaGreatW40
import Derived.Test.YtcjiofhjognklaaGreatW47
import Derived.Test.YtcjiofhjognklaaGreatW49

namespace Go.Proofs.YtcjiofhjognklaaGreat
open Go.RowKit Go.ChangeShapes Go.WideShapes Go.Deep Go.Joins
set_option maxRecDepth 100000
set_option linter.unusedVariables false
set_option linter.unusedSimpArgs false

section
variable {H : Type} {enc : TypeId × Value → H} {w : World} {base : Nat} {spare : Nat → Bool} {held : Bool}
theorem open_at {fuel : Nat} {cs : List Value} {x : DataW H × List MemPlace} (h : DataW.trod enc Tryz.prog w base spare held fuel 67 cs = some x) : ∃ r : At, cs = r.cells ∧ r.t.length ≤ 9223372036854775807 ∧ r.v.length ≤ 9223372036854775807 := by
  obtain ⟨y0, y1, n, _, hl, h0, h1⟩ := trod_struct2 Tryz.underlying67 h
  have e0 : Tryz.prog.cellsOf 9 = 1 := by kernel_rfl
  have e2 : Tryz.prog.cellsOf 67 = 2 := by kernel_rfl
  simp only [e0] at h0 h1
  rw [e2] at hl
  match cs, hl with
  | [a, b], _ =>
    obtain ⟨s0, z0, _, g0⟩ := DataW.trod_string Tryz.underlying9 h0
    obtain ⟨s1, z1, _, g1⟩ := DataW.trod_string Tryz.underlying9 h1
    simp at z0 z1
    subst z0; subst z1
    refine ⟨⟨s0.data.toList, s1.data.toList⟩, by unfold At.cells; rw [data_sx, data_sx], ?_, ?_⟩
    · show s0.data.toList.length ≤ _
      rw [Array.length_toList]
      exact g0
    · show s1.data.toList.length ≤ _
      rw [Array.length_toList]
      exact g1
theorem open_atsC {fuel : Nat} {cs : List Value} {x : DataW H × List MemPlace} (hf : DataW.trod enc Tryz.prog w base spare held fuel 23 cs = some x) :
    ∃ (v : Value) (l : List At), cs = [v] ∧ RdV w v l ∧ l.length ≤ 9223372036854775807 ∧ Sm l := by
  have e2 : Tryz.prog.cellsOf 67 = 2 := by kernel_rfl
  rcases open_slice Tryz.underlying23 hf with ⟨hcs, _⟩ | ⟨a, n, c, m, k, D, Pl, hcs, hb, hl, hm, hmm, hxe, hi⟩
  · exact ⟨_, [], hcs, RdV.nil _, by simp, fun x hx => by simp at hx⟩
  · rw [e2] at hi
    have hl0 := hl
    have hm0 := hm
    have hle : n ≤ m := by rw [hmm]; split <;> omega
    have hel : ∀ i, i < n → ∃ r : At, (r.t.length ≤ 9223372036854775807 ∧ r.v.length ≤ 9223372036854775807) ∧ ∀ j u, r.cells[j]? = some u → w.cell? (a.add (i * 2 + j)) = some u := fun i hin => by
      obtain ⟨cs', hc, ht⟩ := hi i (by omega)
      obtain ⟨r, rfl, hr⟩ := open_at ht
      obtain ⟨_, _, hat⟩ := World.cells?_some hc
      refine ⟨r, hr, fun j u hu => ?_⟩
      have hj : j < 2 := (List.getElem?_eq_some_iff.1 hu).1
      rw [← Go.Deep.add_add, hat j hj, hu]
    have hch : ∃ l : List At, l.length = n ∧ Sm l ∧ ∀ i, i < n → ∀ j u, (l.getD i default).cells[j]? = some u → w.cell? (a.add (i * 2 + j)) = some u := by
      have hnm : n ≤ 9223372036854775807 := Nat.le_trans hl hm
      clear hi hle hl hm hmm hf hcs hxe hl0
      induction n with
      | zero => exact ⟨[], rfl, fun q hq => by simp at hq, fun i hi => by omega⟩
      | succ n ih =>
        obtain ⟨l, hl, h0, h1⟩ := ih (fun i hi => hel i (by omega)) (by omega)
        obtain ⟨r, hr, h2⟩ := hel n (by omega)
        refine ⟨l ++ [r], by simp [hl], fun q hq => ?_, fun i hi => ?_⟩
        · rcases List.mem_append.1 hq with h | h
          · exact h0 q h
          · rw [List.mem_singleton.1 h]; exact hr
        rcases Nat.lt_or_ge i n with hin | hin
        · have e : (l ++ [r]).getD i default = l.getD i default := by rw [List.getD_eq_getElem?_getD, List.getD_eq_getElem?_getD, List.getElem?_append_left (by omega)]
          rw [e]; exact h1 i hin
        · have e : (l ++ [r]).getD i default = r := by rw [List.getD_eq_getElem?_getD, List.getElem?_append_right (by omega), show i - l.length = 0 from by omega]; rfl
          rw [e]
          have : i = n := by omega
          subst this
          exact h2
    obtain ⟨l, hll, hsm, hle2⟩ := hch
    refine ⟨.slice (some a) n c, l, hcs, ⟨some a, c, by rw [hll], ⟨fun h => (by cases h), by rw [hll]; exact hl0, hm0⟩, fun hp => ?_⟩, by rw [hll]; exact Nat.le_trans hl hm, hsm⟩
    obtain ⟨b, off, spot⟩ := a
    have hc := hle2 0 (by omega) 0 _ rfl
    have hspot : spot = none := by simpa [Addr.add] using World.cell?_spot hc
    subst hspot
    have hb : b < w.heap.size := World.block_lt_of_cell? w _ hc
    refine ⟨b, off, rfl, hb, fun j hj i u hu => ?_⟩
    have := hle2 j (by omega) i u hu
    rw [Addr.add_mid, ← Nat.add_assoc] at this
    exact this
theorem trod_struct7 {P : Program} {t : TypeId} {f0 f1 f2 f3 f4 f5 f6 : Field} {fuel : Nat} {cs : List Value} {x : DataW H × List MemPlace} (ht : P.underlying t = some (.struct #[f0, f1, f2, f3, f4, f5, f6])) (h : DataW.trod enc P w base spare held fuel t cs = some x) :
    ∃ (y0 y1 y2 y3 y4 y5 y6 : DataW H × List MemPlace) (n : Nat), cs.length = P.cellsOf t ∧ DataW.trod enc P w base spare held n f0.type ((cs.drop f0.offset).take (P.cellsOf f0.type)) = some y0 ∧ DataW.trod enc P w base spare held n f1.type ((cs.drop f1.offset).take (P.cellsOf f1.type)) = some y1 ∧ DataW.trod enc P w base spare held n f2.type ((cs.drop f2.offset).take (P.cellsOf f2.type)) = some y2 ∧ DataW.trod enc P w base spare held n f3.type ((cs.drop f3.offset).take (P.cellsOf f3.type)) = some y3 ∧ DataW.trod enc P w base spare held n f4.type ((cs.drop f4.offset).take (P.cellsOf f4.type)) = some y4 ∧ DataW.trod enc P w base spare held n f5.type ((cs.drop f5.offset).take (P.cellsOf f5.type)) = some y5 ∧ DataW.trod enc P w base spare held n f6.type ((cs.drop f6.offset).take (P.cellsOf f6.type)) = some y6 := by
  obtain ⟨xs, n, _, rfl, hl, hlen, hf⟩ := DataW.trod_struct ht h
  match xs, hlen with
  | [y0, y1, y2, y3, y4, y5, y6], _ => exact ⟨y0, y1, y2, y3, y4, y5, y6, n, hl, by simpa using hf 0 f0 rfl, by simpa using hf 1 f1 rfl, by simpa using hf 2 f2 rfl, by simpa using hf 3 f3 rfl, by simpa using hf 4 f4 rfl, by simpa using hf 5 f5 rfl, by simpa using hf 6 f6 rfl⟩
end
end Go.Proofs.YtcjiofhjognklaaGreat
namespace Go.Proofs.YtcjiofhjognklaaGreat.Tlv
open Go.RowKit Go.ChangeShapes Go.WideShapes Go.Deep Go.Joins
set_option maxRecDepth 100000
set_option linter.unusedVariables false
set_option linter.unusedSimpArgs false

theorem spot_none {w : World} {x : Addr} {v : Value} (hc : w.cell? (x.add 0) = some v) : ∃ b off, x = ⟨b, off, none⟩ ∧ b < w.heap.size := by
  obtain ⟨b, off, spot⟩ := x
  have hspot : spot = none := by simpa [Addr.add] using World.cell?_spot hc
  subst hspot
  exact ⟨b, off, rfl, World.block_lt_of_cell? w _ hc⟩
section
variable {H : Type} {enc : TypeId × Value → H} {w : World} {base : Nat} {spare : Nat → Bool} {held : Bool}
theorem open_bytes {fuel : Nat} {cs : List Value} {x : DataW H × List MemPlace} (h : DataW.trod enc Tryz.prog w base spare held fuel 25 cs = some x) :
    ∃ (A : Option Addr) (c : Nat) (l : List Int), cs = [.slice A l.length c] ∧ Rd w w.heap.size A l ∧ Byt l ∧ l.length ≤ c ∧ c ≤ maxLen := by
  rcases open_ints Tryz.underlying25 Tryz.underlying5 (by kernel_rfl) h with ⟨hcs, _⟩ | ⟨a, len, cap, zs, hcs, _, hl, hm, hz, _, hcell, hwz⟩
  · exact ⟨none, 0, [], hcs, Rd.nil, fun x hx => by simp at hx, Nat.le_refl _, Nat.zero_le _⟩
  · have hz1 : len ≤ zs.length := by rw [hz]; split <;> omega
    have hll : (zs.take len).length = len := by rw [List.length_take]; omega
    refine ⟨some a, cap, zs.take len, by rw [hll]; exact hcs, fun hp => ?_, fun n hn => ?_, by omega, hm⟩
    · obtain ⟨b, off, rfl, hb⟩ := spot_none (hcell 0 (by omega))
      refine ⟨b, off, rfl, hb, fun j hj => ?_⟩
      have := hcell j (by omega)
      rw [show (⟨b, off, none⟩ : Addr).add j = ⟨b, off + j, none⟩ from by unfold Addr.add; by_cases h : j = 0 <;> simp [h]] at this
      rw [this, List.getD_eq_getElem?_getD, List.getD_eq_getElem?_getD, List.getElem?_take_of_lt (by omega)]
    · have := hwz n (List.mem_of_mem_take hn)
      simp [Lit.wf, IntKind.min, IntKind.max, IntKind.signed, IntKind.bits] at this
      omega
theorem open_bytes2 {v : Value} {d : DataW H} {p : List MemPlace} (hv : ∃ A n c, v = .slice A n c) (h : DataW.Trod enc Tryz.prog w base spare held 25 v d p) :
    ∃ (A : Option Addr) (c : Nat) (l : List Int), v = .slice A l.length c ∧ Rd w w.heap.size A l ∧ Byt l ∧ l.length ≤ c ∧ c ≤ 9223372036854775807 := by
  obtain ⟨A, n, c, rfl⟩ := hv
  obtain ⟨fuel, hf⟩ := h
  obtain ⟨A', c', l, e, h1, h2, h3, h4⟩ := open_bytes hf
  simp only [Value.cells, List.cons.injEq, and_true] at e
  exact ⟨A', c', l, e, h1, h2, h3, h4⟩
theorem open_bytesN {fuel : Nat} {cs : List Value} {x : DataW H × List MemPlace} (h : DataW.trod enc Tryz.prog w base spare held fuel 25 cs = some x) :
    ∃ (A : Option Addr) (c : Nat) (l : List Int), cs = [.slice A l.length c] ∧ Rd w w.heap.size A l ∧ Byt l ∧ l.length ≤ c ∧ c ≤ maxLen ∧ (A = none → c = 0) := by
  rcases open_ints Tryz.underlying25 Tryz.underlying5 (by kernel_rfl) h with ⟨hcs, _⟩ | ⟨a, len, cap, zs, hcs, _⟩
  · exact ⟨none, 0, [], hcs, Rd.nil, fun x hx => by simp at hx, Nat.le_refl _, Nat.zero_le _, fun _ => rfl⟩
  · obtain ⟨A, c, l, e, h1, h2, h3, h4⟩ := open_bytes h
    refine ⟨A, c, l, e, h1, h2, h3, h4, fun hA => ?_⟩
    rw [e] at hcs
    simp only [List.cons.injEq, Value.slice.injEq, and_true] at hcs
    rw [hA] at hcs
    cases hcs.1
theorem open_parts {fuel : Nat} {cs : List Value} {x : DataW H × List MemPlace} (h : DataW.trod enc Tryz.prog w base spare held fuel 24 cs = some x) :
    ∃ (v : Value) (l : List (List UInt8)), cs = [v] ∧ RdP w v l ∧ l.length ≤ 9223372036854775807 ∧ ∀ s ∈ l, s.length ≤ 9223372036854775807 := by
  rcases open_strings Tryz.underlying24 Tryz.underlying9 (by kernel_rfl) h with ⟨hcs, _⟩ | ⟨a, len, cap, ss, hcs, _, hl, hm, hz, _, hcell, hws⟩
  · exact ⟨_, [], hcs, RdP.nil _, Nat.zero_le _, fun s hs => by simp at hs⟩
  · have hz1 : len ≤ ss.length := by rw [hz]; split <;> omega
    have hll : ((ss.take len).map fun s => s.data.toList).length = len := by rw [List.length_map, List.length_take]; omega
    refine ⟨.slice (some a) len cap, (ss.take len).map fun s => s.data.toList, hcs, ⟨some a, cap, by rw [hll], ⟨fun h => (by cases h), by rw [hll]; exact hl, hm⟩, fun hp => ?_⟩, by rw [hll]; unfold maxLen at hm; omega, fun s hs => ?_⟩
    · rw [hll] at hp
      obtain ⟨b, off, rfl, hb⟩ := spot_none (hcell 0 (by omega))
      refine ⟨b, off, rfl, hb, fun j hj i u hu => ?_⟩
      rw [hll] at hj
      have h1 := hcell j (by omega)
      rw [show (⟨b, off, none⟩ : Addr).add j = ⟨b, off + j, none⟩ from by unfold Addr.add; by_cases h : j = 0 <;> simp [h]] at h1
      have hi : i < 1 := by have := (Array.getElem?_eq_some_iff.1 (by simpa [kStr] using hu : (#[Value.string (sx (((ss.take len).map fun s => s.data.toList).getD j default))] : Array Value)[i]? = some u)).1; simpa using this
      obtain rfl : i = 0 := by omega
      simp only [kStr, List.getElem?_cons_zero, Option.some.injEq] at hu
      subst hu
      have h2 : ((ss.take len).map fun s => s.data.toList).getD j default = (ss.getD j ByteArray.empty).data.toList := by
        rw [List.getD_eq_getElem?_getD, List.getElem?_map, List.getElem?_take_of_lt (by omega), List.getElem?_eq_getElem (by omega), List.getD_eq_getElem?_getD, List.getElem?_eq_getElem (by omega)]
        rfl
      rw [h2, data_sx]
      simpa [kStr] using h1
    · obtain ⟨t, ht, rfl⟩ := List.mem_map.1 hs
      have := hws t (List.mem_of_mem_take ht)
      unfold maxLen at this
      show t.data.toList.length ≤ _
      rw [Array.length_toList]
      exact this
theorem open_op {r : Reach} {b0 : Nat} {v : Value} {d : DataW H} {p : List MemPlace} (hv : Value.okWide Tryz.prog w r b0 27 v) (h : DataW.Trod enc Tryz.prog w base spare held 27 v d p) :
    ∃ (o : Opn) (va vp vc : Value), v = opVal o va vp vc ∧ OpAt w o va vp vc ∧ Lim0 o := by
  obtain ⟨cs, rfl, hsz⟩ := okWide_struct Tryz.underlying27 hv
  obtain ⟨fuel, hf⟩ := h
  obtain ⟨y0, y1, y2, y3, y4, y5, y6, n, hl, h0, h1, h2, h3, h4, h5, h6⟩ := YtcjiofhjognklaaGreat.trod_struct7 Tryz.underlying27 hf
  have e22 : Tryz.prog.cellsOf 22 = 1 := by kernel_rfl
  have e9 : Tryz.prog.cellsOf 9 = 1 := by kernel_rfl
  have e23 : Tryz.prog.cellsOf 23 = 1 := by kernel_rfl
  have e24 : Tryz.prog.cellsOf 24 = 1 := by kernel_rfl
  have e25 : Tryz.prog.cellsOf 25 = 1 := by kernel_rfl
  have e3 : Tryz.prog.cellsOf 3 = 1 := by kernel_rfl
  have e27 : Tryz.prog.cellsOf 27 = 7 := by kernel_rfl
  simp only [e22, e9, e23, e24, e25, e3] at h0 h1 h2 h3 h4 h5 h6
  rw [e27] at hl
  obtain ⟨cs⟩ := cs
  simp only [Value.cells] at hl h0 h1 h2 h3 h4 h5 h6
  match cs, hl with
  | [a0, a1, a2, a3, a4, a5, a6], _ =>
    obtain ⟨k, z0, _, g0⟩ := DataW.trod_int Tryz.underlying22 h0
    obtain ⟨s1, z1, _, g1⟩ := DataW.trod_string Tryz.underlying9 h1
    obtain ⟨s2, z2, _, g2⟩ := DataW.trod_string Tryz.underlying9 h2
    obtain ⟨va, la, z3, ga, gb, gc⟩ := YtcjiofhjognklaaGreat.open_atsC h3
    obtain ⟨vp, lp, z4, gd, ge, gf⟩ := open_parts h4
    obtain ⟨A, c, lc, z5, gg, gh, gi, gj, gk⟩ := open_bytesN h5
    obtain ⟨nn, z6, _, g6⟩ := DataW.trod_int Tryz.underlying3 h6
    simp at z0 z1 z2 z3 z4 z5 z6
    subst z0 z1 z2 z3 z4 z5 z6
    refine ⟨⟨k, s1.data.toList, s2.data.toList, la, lp, lc, nn⟩, _, _, _, ?_, ⟨ga, gd, ⟨A, c, rfl, ⟨gk, gi, gj⟩, gg⟩⟩, ⟨?_, ?_, gc, gb, ge, gf, ?_, gh⟩⟩
    · show Value.agg _ = Value.agg (opCs _ _ _ _)
      unfold opCs
      rw [data_sx, data_sx]
    · show s1.data.toList.length ≤ _
      rw [Array.length_toList]
      exact g1
    · show s2.data.toList.length ≤ _
      rw [Array.length_toList]
      exact g2
    · unfold maxLen at gj
      show lc.length ≤ _
      omega
end
end Go.Proofs.YtcjiofhjognklaaGreat.Tlv

namespace Go.Proofs.YtcjiofhjognklaaGreat.Tlv
open Go.RowKit Go.Lib Go.Sort
set_option maxRecDepth 100000
set_option linter.unusedVariables false
set_option linter.unusedSimpArgs false

theorem Calls_same {N : Nat} {args : Array Value} {v : Value} {w : World} (h : Calls Tryz.prog N args w fun e w' => e = .returned v ∧ w = w') : Calls Tryz.prog N args w fun e w' => e = .returned v ∧ Below w.heap.size w w' := h.mono fun e w' ⟨h1, h2⟩ => ⟨h1, by rw [← h2]; exact Below.refl _ _⟩
theorem opOf_yes (A : Option Addr) (c : Nat) (l : List Int) (ob : Opn) (w : World) (hr : Rd w w.heap.size A l) (hby : Byt l) (hn : l.length ≤ 100000000) (hm : mayO ob = true) (hl : l = opB ob) :
    Calls Tryz.prog 10 #[.slice A l.length c] w fun e w' => ∃ Aa na ca Ap np cp Ac nc cc, e = .returned (.tuple #[opVal ob (.slice Aa na ca) (.slice Ap np cp) (.slice Ac nc cc), .int .i64 0]) ∧ OpAt w' ob (.slice Aa na ca) (.slice Ap np cp) (.slice Ac nc cc) ∧ Lim ob ∧ Below w.heap.size w w' :=
  (opOf_any A c l w hr hby hn).mono fun e w' h => by
    rcases h with ⟨o, va, vp, vc, h1, h2, rfl, h4, h5, h6⟩ | ⟨h1, _⟩
    · obtain rfl := opB_inj hby h1 hm h2 hl
      obtain ⟨A1, c1, n1, rfl, _, _⟩ := rdv_len h4.a
      obtain ⟨A2, c2, n2, rfl⟩ := h4.p.len
      obtain ⟨A3, c3, n3, rfl, _⟩ := h4.c.len
      exact ⟨A1, n1, c1, A2, n2, c2, A3, n3, c3, rfl, h4, h5, h6⟩
    · exact absurd hl (h1 ob hm)
theorem opOf_no (A : Option Addr) (c : Nat) (l : List Int) (w : World) (hr : Rd w w.heap.size A l) (hby : Byt l) (hn : l.length ≤ 100000000) (hno : ∀ o, mayO o = true → l ≠ opB o) :
    Calls Tryz.prog 10 #[.slice A l.length c] w fun e w' => ∃ Aa na ca Ap np cp Ac nc cc, e = .returned (.tuple #[opVal (o0 0) (.slice Aa na ca) (.slice Ap np cp) (.slice Ac nc cc), .int .i64 4]) ∧ OpAt w' (o0 0) (.slice Aa na ca) (.slice Ap np cp) (.slice Ac nc cc) ∧ Lim (o0 0) ∧ Below w.heap.size w w' :=
  (opOf_any A c l w hr hby hn).mono fun e w' h => by
    rcases h with ⟨o, va, vp, vc, h1, h2, _⟩ | ⟨_, rfl, h3⟩
    · exact absurd h2 (hno o h1)
    · exact ⟨none, 0, 0, none, 0, 0, none, 0, 0, rfl, opNil w', limNil, h3⟩
theorem refOpOf_yes (A : Option Addr) (c : Nat) (l : List Int) (ob : Opn) (w : World) (hr : Rd w w.heap.size A l) (hby : Byt l) (hn : l.length ≤ 1000000) (hc : l.length ≤ c) (hcm : c ≤ 9223372036854775807) (hm : mayO ob = true) (hl : l = opB ob) :
    Calls Tryz.prog 11 #[.slice A l.length c] w fun e w' => ∃ Aa na ca Ap np cp Ac nc cc, e = .returned (.tuple #[opVal ob (.slice Aa na ca) (.slice Ap np cp) (.slice Ac nc cc), .bool true]) ∧ OpAt w' ob (.slice Aa na ca) (.slice Ap np cp) (.slice Ac nc cc) ∧ Lim ob ∧ Below w.heap.size w w' :=
  (refOpOf_any A c l w hr hby hn hc hcm).mono fun e w' h => by
    rcases h with ⟨o, va, vp, vc, h1, h2, rfl, h4, h5, h6⟩ | ⟨h1, _⟩
    · obtain rfl := opB_inj hby h1 hm h2 hl
      obtain ⟨A1, c1, n1, rfl, _, _⟩ := rdv_len h4.a
      obtain ⟨A2, c2, n2, rfl⟩ := h4.p.len
      obtain ⟨A3, c3, n3, rfl, _⟩ := h4.c.len
      exact ⟨A1, n1, c1, A2, n2, c2, A3, n3, c3, rfl, h4, h5, h6⟩
    · exact absurd hl (h1 ob hm)
theorem refOpOf_no (A : Option Addr) (c : Nat) (l : List Int) (w : World) (hr : Rd w w.heap.size A l) (hby : Byt l) (hn : l.length ≤ 1000000) (hc : l.length ≤ c) (hcm : c ≤ 9223372036854775807) (hno : ∀ o, mayO o = true → l ≠ opB o) :
    Calls Tryz.prog 11 #[.slice A l.length c] w fun e w' => ∃ Aa na ca Ap np cp Ac nc cc, e = .returned (.tuple #[opVal (o0 0) (.slice Aa na ca) (.slice Ap np cp) (.slice Ac nc cc), .bool false]) ∧ OpAt w' (o0 0) (.slice Aa na ca) (.slice Ap np cp) (.slice Ac nc cc) ∧ Lim (o0 0) ∧ Below w.heap.size w w' :=
  (refOpOf_any A c l w hr hby hn hc hcm).mono fun e w' h => by
    rcases h with ⟨o, va, vp, vc, h1, h2, _⟩ | ⟨_, rfl, h3⟩
    · exact absurd h2 (hno o h1)
    · exact ⟨none, 0, 0, none, 0, 0, none, 0, 0, rfl, opNil w', limNil, h3⟩
theorem sameO_refl (o : Opn) : sameO o o = true := by unfold sameO; simp
/-- Where the law stands: both operations in their boxes. -/
structure LB (w : World) (Bx By : Nat) (co cp : Array Value) (W : World) : Prop where
  bel : Below w.heap.size w W
  x : Blk W Bx 27 co
  y : Blk W By 27 cp
theorem LB.on {w W W' : World} {Bx By : Nat} {co cp : Array Value} (h : LB w Bx By co cp W) (hb : Below W.heap.size W W') : LB w Bx By co cp W' := ⟨h.bel.trans (hb.mono h.bel.size), h.x.on hb, h.y.on hb⟩
theorem op_cells {W : World} {B : Nat} {o : Opn} {va vp vc : Value} (h : Blk W B 27 (opCs o va vp vc)) : W.cell? ⟨B, 0, none⟩ = some (.int .i64 o.k) ∧ W.cell? ⟨B, 1, none⟩ = some (.string (sx o.name)) ∧ W.cell? ⟨B, 2, none⟩ = some (.string (sx o.dst)) ∧ W.cell? ⟨B, 3, none⟩ = some va ∧ W.cell? ⟨B, 4, none⟩ = some vp ∧ W.cell? ⟨B, 5, none⟩ = some vc ∧ W.cell? ⟨B, 6, none⟩ = some (.int .i64 o.n) :=
  ⟨h.cell 0, h.cell 1, h.cell 2, h.cell 3, h.cell 4, h.cell 5, h.cell 6⟩
theorem op_row {W : World} {B : Nat} {o : Opn} {va vp vc : Value} (h : Blk W B 27 (opCs o va vp vc)) : ∀ W', (∃ p : Regrown, W' = grow (redrawn W p.d) p.os) → (loadVar 27 ⟨B, 0, none⟩).run Tryz.prog W' = .ok (opVal o va vp vc) W' := by
  rintro _ ⟨p, rfl⟩
  have h : Blk (grow (redrawn W p.d) p.os) B 27 (opCs o va vp vc) := h.on (below_regrown W p.d p.os)
  exact run_loadVar_mid _ _ 0 27 _ _ (h.range 0 (opCs o va vp vc).toList rfl) rfl rfl (by kernel_rfl)
abbrev KnownOut (w : World) (e : Ending) (w' : World) : Prop := e = .returned (.bool true) ∧ Below w.heap.size w w'
end Go.Proofs.YtcjiofhjognklaaGreat.Tlv
