/- Operations of any lengths: are they big? -/
import Derived.Test.YtniaijgejljjbaaGreatY21
import Derived.Test.YtniaijgejljjbaaGreatY13
import Derived.Deep.Slices
import Derived.Deep.Strs
import Derived.Lib.SmallJoins
import Derived.SliceStrings
import Derived.WideShapes
namespace Go.Proofs.YtniaijgejljjbaaGreat.Tlv
open Go.RowKit
set_option maxRecDepth 100000
set_option linter.unusedVariables false
set_option linter.unusedSimpArgs false
structure Lim0 (o : Opn) : Prop where
 ln : o.name.length ≤ 9223372036854775807
 lt : o.dst.length ≤ 9223372036854775807
 sa : YtniaijgejljjbaaGreat.Sm o.attrs
 la : o.attrs.length ≤ 9223372036854775807
 lp : o.parts.length ≤ 9223372036854775807
 sp : ∀ s ∈ o.parts, s.length ≤ 9223372036854775807
 lc : o.cur.length ≤ 9223372036854775807
 byt : Byt o.cur
end Go.Proofs.YtniaijgejljjbaaGreat.Tlv
namespace Go.Proofs.YtniaijgejljjbaaGreat
open Go.RowKit Go.ChangeShapes Go.WideShapes Go.Deep Go.Joins
set_option maxRecDepth 100000
set_option linter.unusedVariables false
set_option linter.unusedSimpArgs false
section
variable {H : Type} {enc : TypeId × Value → H} {w : World} {base : Nat} {spare : Nat → Bool} {held : Bool}
theorem open_at {fuel : Nat} {cs : List Value} {x : DataW H × List MemPlace} (h : DataW.trod enc Tryz.prog w base spare held fuel 99 cs = some x) : ∃ r : At, cs = r.cells ∧ r.t.length ≤ 9223372036854775807 ∧ r.v.length ≤ 9223372036854775807 := by
 obtain ⟨y0, y1, n, _, hl, h0, h1⟩ := trod_struct2 Tryz.underlying99 h
 have e0 : Tryz.prog.cellsOf 9 = 1 := by kernel_rfl
 have e2 : Tryz.prog.cellsOf 99 = 2 := by kernel_rfl
 simp only [e0] at h0 h1
 rw [e2] at hl
 match cs, hl with
 | [a, b], _ =>
   obtain ⟨s0, z0, _, g0⟩ := DataW.trod_string Tryz.underlying9 h0
   obtain ⟨s1, z1, _, g1⟩ := DataW.trod_string Tryz.underlying9 h1
   simp at z0 z1
   subst z0; subst z1
   refine ⟨⟨s0.data.toList, s1.data.toList⟩, by unfold At.cells; rw [data_sx, data_sx], ?_, ?_⟩
   · show s0.data.toList.length ≤ _
     rw [Array.length_toList]
     exact g0
   · show s1.data.toList.length ≤ _
     rw [Array.length_toList]
     exact g1
theorem open_atsC {fuel : Nat} {cs : List Value} {x : DataW H × List MemPlace} (hf : DataW.trod enc Tryz.prog w base spare held fuel 40 cs = some x) :
   ∃ (v : Value) (l : List At), cs = [v] ∧ RdV w v l ∧ l.length ≤ 9223372036854775807 ∧ Sm l := by
 have e2 : Tryz.prog.cellsOf 99 = 2 := by kernel_rfl
 rcases open_slice Tryz.underlying40 hf with ⟨hcs, _⟩ | ⟨a, n, c, m, k, D, Pl, hcs, hb, hl, hm, hmm, hxe, hi⟩
 · exact ⟨_, [], hcs, RdV.nil _, by simp, fun x hx => by simp at hx⟩
 · rw [e2] at hi
   have hl0 := hl
   have hm0 := hm
   have hle : n ≤ m := by rw [hmm]; split <;> omega
   have hel : ∀ i, i < n → ∃ r : At, (r.t.length ≤ 9223372036854775807 ∧ r.v.length ≤ 9223372036854775807) ∧ ∀ j u, r.cells[j]? = some u → w.cell? (a.add (i * 2 + j)) = some u := fun i hin => by
     obtain ⟨cs', hc, ht⟩ := hi i (by omega)
     obtain ⟨r, rfl, hr⟩ := open_at ht
     obtain ⟨_, _, hat⟩ := World.cells?_some hc
     refine ⟨r, hr, fun j u hu => ?_⟩
     have hj : j < 2 := (List.getElem?_eq_some_iff.1 hu).1
     rw [← Go.Deep.add_add, hat j hj, hu]
   have hch : ∃ l : List At, l.length = n ∧ Sm l ∧ ∀ i, i < n → ∀ j u, (l.getD i default).cells[j]? = some u → w.cell? (a.add (i * 2 + j)) = some u := by
     have hnm : n ≤ 9223372036854775807 := Nat.le_trans hl hm
     clear hi hle hl hm hmm hf hcs hxe hl0
     induction n with
     | zero => exact ⟨[], rfl, fun q hq => by simp at hq, fun i hi => by omega⟩
     | succ n ih =>
       obtain ⟨l, hl, h0, h1⟩ := ih (fun i hi => hel i (by omega)) (by omega)
       obtain ⟨r, hr, h2⟩ := hel n (by omega)
       refine ⟨l ++ [r], by simp [hl], fun q hq => ?_, fun i hi => ?_⟩
       · rcases List.mem_append.1 hq with h | h
         · exact h0 q h
         · rw [List.mem_singleton.1 h]; exact hr
       rcases Nat.lt_or_ge i n with hin | hin
       · have e : (l ++ [r]).getD i default = l.getD i default := by rw [List.getD_eq_getElem?_getD, List.getD_eq_getElem?_getD, List.getElem?_append_left (by omega)]
         rw [e]; exact h1 i hin
       · have e : (l ++ [r]).getD i default = r := by rw [List.getD_eq_getElem?_getD, List.getElem?_append_right (by omega), show i - l.length = 0 from by omega]; rfl
         rw [e]
         have : i = n := by omega
         subst this
         exact h2
   obtain ⟨l, hll, hsm, hle2⟩ := hch
   refine ⟨.slice (some a) n c, l, hcs, ⟨some a, c, by rw [hll], ⟨fun h => (by cases h), by rw [hll]; exact hl0, hm0⟩, fun hp => ?_⟩, by rw [hll]; exact Nat.le_trans hl hm, hsm⟩
   obtain ⟨b, off, spot⟩ := a
   have hc := hle2 0 (by omega) 0 _ rfl
   have hspot : spot = none := by simpa [Addr.add] using World.cell?_spot hc
   subst hspot
   have hb : b < w.heap.size := World.block_lt_of_cell? w _ hc
   refine ⟨b, off, rfl, hb, fun j hj i u hu => ?_⟩
   have := hle2 j (by omega) i u hu
   rw [Addr.add_mid, ← Nat.add_assoc] at this
   exact this
theorem trod_struct7 {P : Program} {t : TypeId} {f0 f1 f2 f3 f4 f5 f6 : Field} {fuel : Nat} {cs : List Value} {x : DataW H × List MemPlace} (ht : P.underlying t = some (.struct #[f0, f1, f2, f3, f4, f5, f6])) (h : DataW.trod enc P w base spare held fuel t cs = some x) :
   ∃ (y0 y1 y2 y3 y4 y5 y6 : DataW H × List MemPlace) (n : Nat), cs.length = P.cellsOf t ∧ DataW.trod enc P w base spare held n f0.type ((cs.drop f0.offset).take (P.cellsOf f0.type)) = some y0 ∧ DataW.trod enc P w base spare held n f1.type ((cs.drop f1.offset).take (P.cellsOf f1.type)) = some y1 ∧ DataW.trod enc P w base spare held n f2.type ((cs.drop f2.offset).take (P.cellsOf f2.type)) = some y2 ∧ DataW.trod enc P w base spare held n f3.type ((cs.drop f3.offset).take (P.cellsOf f3.type)) = some y3 ∧ DataW.trod enc P w base spare held n f4.type ((cs.drop f4.offset).take (P.cellsOf f4.type)) = some y4 ∧ DataW.trod enc P w base spare held n f5.type ((cs.drop f5.offset).take (P.cellsOf f5.type)) = some y5 ∧ DataW.trod enc P w base spare held n f6.type ((cs.drop f6.offset).take (P.cellsOf f6.type)) = some y6 := by
 obtain ⟨xs, n, _, rfl, hl, hlen, hf⟩ := DataW.trod_struct ht h
 match xs, hlen with
 | [y0, y1, y2, y3, y4, y5, y6], _ => exact ⟨y0, y1, y2, y3, y4, y5, y6, n, hl, by simpa using hf 0 f0 rfl, by simpa using hf 1 f1 rfl, by simpa using hf 2 f2 rfl, by simpa using hf 3 f3 rfl, by simpa using hf 4 f4 rfl, by simpa using hf 5 f5 rfl, by simpa using hf 6 f6 rfl⟩
end
end Go.Proofs.YtniaijgejljjbaaGreat
namespace Go.Proofs.YtniaijgejljjbaaGreat.Tlv
open Go.RowKit Go.ChangeShapes Go.WideShapes Go.Deep Go.Joins
set_option maxRecDepth 100000
set_option linter.unusedVariables false
set_option linter.unusedSimpArgs false
theorem spot_none {w : World} {x : Addr} {v : Value} (hc : w.cell? (x.add 0) = some v) : ∃ b off, x = ⟨b, off, none⟩ ∧ b < w.heap.size := by
 obtain ⟨b, off, spot⟩ := x
 have hspot : spot = none := by simpa [Addr.add] using World.cell?_spot hc
 subst hspot
 exact ⟨b, off, rfl, World.block_lt_of_cell? w _ hc⟩
section
variable {H : Type} {enc : TypeId × Value → H} {w : World} {base : Nat} {spare : Nat → Bool} {held : Bool}
theorem open_bytes {fuel : Nat} {cs : List Value} {x : DataW H × List MemPlace} (h : DataW.trod enc Tryz.prog w base spare held fuel 42 cs = some x) :
   ∃ (A : Option Addr) (c : Nat) (l : List Int), cs = [.slice A l.length c] ∧ Rd w w.heap.size A l ∧ Byt l ∧ l.length ≤ c ∧ c ≤ maxLen := by
 rcases open_ints Tryz.underlying42 Tryz.underlying5 (by kernel_rfl) h with ⟨hcs, _⟩ | ⟨a, len, cap, zs, hcs, _, hl, hm, hz, _, hcell, hwz⟩
 · exact ⟨none, 0, [], hcs, Rd.nil, fun x hx => by simp at hx, Nat.le_refl _, Nat.zero_le _⟩
 · have hz1 : len ≤ zs.length := by rw [hz]; split <;> omega
   have hll : (zs.take len).length = len := by rw [List.length_take]; omega
   refine ⟨some a, cap, zs.take len, by rw [hll]; exact hcs, fun hp => ?_, fun n hn => ?_, by omega, hm⟩
   · obtain ⟨b, off, rfl, hb⟩ := spot_none (hcell 0 (by omega))
     refine ⟨b, off, rfl, hb, fun j hj => ?_⟩
     have := hcell j (by omega)
     rw [show (⟨b, off, none⟩ : Addr).add j = ⟨b, off + j, none⟩ from by unfold Addr.add; by_cases h : j = 0 <;> simp [h]] at this
     rw [this, List.getD_eq_getElem?_getD, List.getD_eq_getElem?_getD, List.getElem?_take_of_lt (by omega)]
   · have := hwz n (List.mem_of_mem_take hn)
     simp [Lit.wf, IntKind.min, IntKind.max, IntKind.signed, IntKind.bits] at this
     omega
theorem open_bytesN {fuel : Nat} {cs : List Value} {x : DataW H × List MemPlace} (h : DataW.trod enc Tryz.prog w base spare held fuel 42 cs = some x) :
   ∃ (A : Option Addr) (c : Nat) (l : List Int), cs = [.slice A l.length c] ∧ Rd w w.heap.size A l ∧ Byt l ∧ l.length ≤ c ∧ c ≤ maxLen ∧ (A = none → c = 0) := by
 rcases open_ints Tryz.underlying42 Tryz.underlying5 (by kernel_rfl) h with ⟨hcs, _⟩ | ⟨a, len, cap, zs, hcs, _⟩
 · exact ⟨none, 0, [], hcs, Rd.nil, fun x hx => by simp at hx, Nat.le_refl _, Nat.zero_le _, fun _ => rfl⟩
 · obtain ⟨A, c, l, e, h1, h2, h3, h4⟩ := open_bytes h
   refine ⟨A, c, l, e, h1, h2, h3, h4, fun hA => ?_⟩
   rw [e] at hcs
   simp only [List.cons.injEq, Value.slice.injEq, and_true] at hcs
   rw [hA] at hcs
   cases hcs.1
theorem open_parts {fuel : Nat} {cs : List Value} {x : DataW H × List MemPlace} (h : DataW.trod enc Tryz.prog w base spare held fuel 41 cs = some x) :
   ∃ (v : Value) (l : List (List UInt8)), cs = [v] ∧ RdP w v l ∧ l.length ≤ 9223372036854775807 ∧ ∀ s ∈ l, s.length ≤ 9223372036854775807 := by
 rcases open_strings Tryz.underlying41 Tryz.underlying9 (by kernel_rfl) h with ⟨hcs, _⟩ | ⟨a, len, cap, ss, hcs, _, hl, hm, hz, _, hcell, hws⟩
 · exact ⟨_, [], hcs, RdP.nil _, Nat.zero_le _, fun s hs => by simp at hs⟩
 · have hz1 : len ≤ ss.length := by rw [hz]; split <;> omega
   have hll : ((ss.take len).map fun s => s.data.toList).length = len := by rw [List.length_map, List.length_take]; omega
   refine ⟨.slice (some a) len cap, (ss.take len).map fun s => s.data.toList, hcs, ⟨some a, cap, by rw [hll], ⟨fun h => (by cases h), by rw [hll]; exact hl, hm⟩, fun hp => ?_⟩, by rw [hll]; unfold maxLen at hm; omega, fun s hs => ?_⟩
   · rw [hll] at hp
     obtain ⟨b, off, rfl, hb⟩ := spot_none (hcell 0 (by omega))
     refine ⟨b, off, rfl, hb, fun j hj i u hu => ?_⟩
     rw [hll] at hj
     have h1 := hcell j (by omega)
     rw [show (⟨b, off, none⟩ : Addr).add j = ⟨b, off + j, none⟩ from by unfold Addr.add; by_cases h : j = 0 <;> simp [h]] at h1
     have hi : i < 1 := by have := (Array.getElem?_eq_some_iff.1 (by simpa [kStr] using hu : (#[Value.string (sx (((ss.take len).map fun s => s.data.toList).getD j default))] : Array Value)[i]? = some u)).1; simpa using this
     obtain rfl : i = 0 := by omega
     simp only [kStr, List.getElem?_cons_zero, Option.some.injEq] at hu
     subst hu
     have h2 : ((ss.take len).map fun s => s.data.toList).getD j default = (ss.getD j ByteArray.empty).data.toList := by
       rw [List.getD_eq_getElem?_getD, List.getElem?_map, List.getElem?_take_of_lt (by omega), List.getElem?_eq_getElem (by omega), List.getD_eq_getElem?_getD, List.getElem?_eq_getElem (by omega)]
       rfl
     rw [h2, data_sx]
     simpa [kStr] using h1
   · obtain ⟨t, ht, rfl⟩ := List.mem_map.1 hs
     have := hws t (List.mem_of_mem_take ht)
     unfold maxLen at this
     show t.data.toList.length ≤ _
     rw [Array.length_toList]
     exact this
end
end Go.Proofs.YtniaijgejljjbaaGreat.Tlv
