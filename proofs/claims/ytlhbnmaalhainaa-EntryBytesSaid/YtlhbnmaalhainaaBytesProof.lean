/- EntryBytes: called with any entry, any bytes and any tag, in whatever memory, the law returns true and changes nothing that was there. No condition. -/
import Derived.Test.YtlhbnmaalhainaaTEB2
import Derived.Test.YtlhbnmaalhainaaTEB3
import Derived.Deep.Slices
import Derived.Lib.SmallJoins
import Derived.Test.YtlhbnmaalhainaaRows
import Derived.WalkKit
import Derived.ProofKit
import Derived.OpenShut
import Derived.ShutString
import Derived.ChangeOld
import Derived.Below
namespace Go.Proofs.Ytlhbnmaalhainaa
open Go.RowKit Go.ChangeShapes Go.WideShapes Go.Deep Go.Joins
set_option linter.unusedVariables false
set_option linter.unusedSimpArgs false

section
variable {H : Type} {enc : TypeId × Value → H} {w : World} {base : Nat} {spare : Nat → Bool} {held : Bool}
theorem open_at {fuel : Nat} {cs : List Value} {x : DataW H × List MemPlace} (h : DataW.trod enc Try.prog w base spare held fuel 29 cs = some x) : ∃ r : At, cs = r.cells ∧ r.t.length ≤ 9223372036854775807 ∧ r.v.length ≤ 9223372036854775807 := by
  obtain ⟨y0, y1, n, _, hl, h0, h1⟩ := trod_struct2 Try.underlying29 h
  have e0 : Try.prog.cellsOf 9 = 1 := by kernel_rfl
  have e2 : Try.prog.cellsOf 29 = 2 := by kernel_rfl
  simp only [e0] at h0 h1
  rw [e2] at hl
  match cs, hl with
  | [a, b], _ =>
    obtain ⟨s0, z0, _, g0⟩ := DataW.trod_string Try.underlying9 h0
    obtain ⟨s1, z1, _, g1⟩ := DataW.trod_string Try.underlying9 h1
    simp at z0 z1
    subst z0; subst z1
    refine ⟨⟨s0.data.toList, s1.data.toList⟩, by unfold At.cells; rw [data_sx, data_sx], ?_, ?_⟩
    · show s0.data.toList.length ≤ _
      rw [Array.length_toList]
      exact g0
    · show s1.data.toList.length ≤ _
      rw [Array.length_toList]
      exact g1
theorem open_atsC {fuel : Nat} {cs : List Value} {x : DataW H × List MemPlace} (hf : DataW.trod enc Try.prog w base spare held fuel 22 cs = some x) :
    ∃ (v : Value) (l : List At), cs = [v] ∧ RdV w v l ∧ l.length ≤ 9223372036854775807 ∧ Sm l := by
  have e2 : Try.prog.cellsOf 29 = 2 := by kernel_rfl
  rcases open_slice Try.underlying22 hf with ⟨hcs, _⟩ | ⟨a, n, c, m, k, D, Pl, hcs, hb, hl, hm, hmm, hxe, hi⟩
  · exact ⟨_, [], hcs, RdV.nil _, by simp, fun x hx => by simp at hx⟩
  · rw [e2] at hi
    have hl0 := hl
    have hm0 := hm
    have hle : n ≤ m := by rw [hmm]; split <;> omega
    have hel : ∀ i, i < n → ∃ r : At, (r.t.length ≤ 9223372036854775807 ∧ r.v.length ≤ 9223372036854775807) ∧ ∀ j u, r.cells[j]? = some u → w.cell? (a.add (i * 2 + j)) = some u := fun i hin => by
      obtain ⟨cs', hc, ht⟩ := hi i (by omega)
      obtain ⟨r, rfl, hr⟩ := open_at ht
      obtain ⟨_, _, hat⟩ := World.cells?_some hc
      refine ⟨r, hr, fun j u hu => ?_⟩
      have hj : j < 2 := (List.getElem?_eq_some_iff.1 hu).1
      rw [← Go.Deep.add_add, hat j hj, hu]
    have hch : ∃ l : List At, l.length = n ∧ Sm l ∧ ∀ i, i < n → ∀ j u, (l.getD i default).cells[j]? = some u → w.cell? (a.add (i * 2 + j)) = some u := by
      have hnm : n ≤ 9223372036854775807 := Nat.le_trans hl hm
      clear hi hle hl hm hmm hf hcs hxe hl0
      induction n with
      | zero => exact ⟨[], rfl, fun q hq => by simp at hq, fun i hi => by omega⟩
      | succ n ih =>
        obtain ⟨l, hl, h0, h1⟩ := ih (fun i hi => hel i (by omega)) (by omega)
        obtain ⟨r, hr, h2⟩ := hel n (by omega)
        refine ⟨l ++ [r], by simp [hl], fun q hq => ?_, fun i hi => ?_⟩
        · rcases List.mem_append.1 hq with h | h
          · exact h0 q h
          · rw [List.mem_singleton.1 h]; exact hr
        rcases Nat.lt_or_ge i n with hin | hin
        · have e : (l ++ [r]).getD i default = l.getD i default := by rw [List.getD_eq_getElem?_getD, List.getD_eq_getElem?_getD, List.getElem?_append_left (by omega)]
          rw [e]; exact h1 i hin
        · have e : (l ++ [r]).getD i default = r := by rw [List.getD_eq_getElem?_getD, List.getElem?_append_right (by omega), show i - l.length = 0 from by omega]; rfl
          rw [e]
          have : i = n := by omega
          subst this
          exact h2
    obtain ⟨l, hll, hsm, hle2⟩ := hch
    refine ⟨.slice (some a) n c, l, hcs, ⟨some a, c, by rw [hll], ⟨fun h => (by cases h), by rw [hll]; exact hl0, hm0⟩, fun hp => ?_⟩, by rw [hll]; exact Nat.le_trans hl hm, hsm⟩
    obtain ⟨b, off, spot⟩ := a
    have hc := hle2 0 (by omega) 0 _ rfl
    have hspot : spot = none := by simpa [Addr.add] using World.cell?_spot hc
    subst hspot
    have hb : b < w.heap.size := World.block_lt_of_cell? w _ hc
    refine ⟨b, off, rfl, hb, fun j hj i u hu => ?_⟩
    have := hle2 j (by omega) i u hu
    rw [Addr.add_mid, ← Nat.add_assoc] at this
    exact this
theorem open_ats {v : Value} {d : DataW H} {p : List MemPlace} (hv : ∃ A n c, v = .slice A n c) (h : DataW.Trod enc Try.prog w base spare held 22 v d p) :
    ∃ l : List At, RdV w v l ∧ l.length ≤ 9223372036854775807 ∧ Sm l := by
  obtain ⟨A, n, c, rfl⟩ := hv
  obtain ⟨fuel, hf⟩ := h
  obtain ⟨v, l, e, h1, h2, h3⟩ := open_atsC hf
  simp [Value.cells] at e
  subst e
  exact ⟨l, h1, h2, h3⟩
set_option maxRecDepth 100000 in
theorem open_at1 {r : Reach} {b0 : Nat} {v : Value} {d : DataW H} {p : List MemPlace} (hv : Value.okWide Try.prog w r b0 29 v) (h : DataW.Trod enc Try.prog w base spare held 29 v d p) :
    ∃ x : At, v = x.val ∧ x.t.length ≤ 9223372036854775807 ∧ x.v.length ≤ 9223372036854775807 := by
  obtain ⟨cs, rfl, hsz⟩ := okWide_struct Try.underlying29 hv
  obtain ⟨fuel, hf⟩ := h
  obtain ⟨x, hx, hx2⟩ := open_at hf
  refine ⟨x, ?_, hx2⟩
  have : cs.toList = x.cells := by simpa [Value.cells] using hx
  rw [show cs = x.cells.toArray from by rw [← this]]
  rfl
set_option maxRecDepth 100000 in
theorem open_entry {r : Reach} {b0 : Nat} {v : Value} {d : DataW H} {p : List MemPlace} (hv : Value.okWide Try.prog w r b0 26 v) (h : DataW.Trod enc Try.prog w base spare held 26 v d p) :
    ∃ (name : List UInt8) (va : Value) (l : List At), v = .agg #[.string (sx name), va] ∧ name.length ≤ 9223372036854775807 ∧ RdV w va l ∧ l.length ≤ 9223372036854775807 ∧ Sm l := by
  obtain ⟨cs, rfl, hsz⟩ := okWide_struct Try.underlying26 hv
  obtain ⟨fuel, hf⟩ := h
  obtain ⟨y0, y1, n, _, hl, h0, h1⟩ := trod_struct2 Try.underlying26 hf
  have e0 : Try.prog.cellsOf 9 = 1 := by kernel_rfl
  have e1 : Try.prog.cellsOf 22 = 1 := by kernel_rfl
  have e2 : Try.prog.cellsOf 26 = 2 := by kernel_rfl
  simp only [e0, e1] at h0 h1
  rw [e2] at hl
  obtain ⟨cs⟩ := cs
  simp only [Value.cells] at hl h0 h1
  match cs, hl with
  | [a, b], _ =>
    obtain ⟨s0, z0, _, g0⟩ := DataW.trod_string Try.underlying9 h0
    obtain ⟨va, l, z1, g1, g2, g3⟩ := open_atsC h1
    simp at z0 z1
    subst z0; subst z1
    refine ⟨s0.data.toList, b, l, by rw [data_sx], ?_, g1, g2, g3⟩
    rw [Array.length_toList]
    exact g0
end
end Go.Proofs.Ytlhbnmaalhainaa

namespace Go.Proofs.Ytlhbnmaalhainaa.Tlv
open Go.RowKit Go.ChangeShapes Go.WideShapes Go.Deep
set_option maxRecDepth 100000
set_option linter.unusedVariables false
set_option linter.unusedSimpArgs false

theorem spot_none {w : World} {x : Addr} {v : Value} (hc : w.cell? (x.add 0) = some v) : ∃ b off, x = ⟨b, off, none⟩ ∧ b < w.heap.size := by
  obtain ⟨b, off, spot⟩ := x
  have hspot : spot = none := by simpa [Addr.add] using World.cell?_spot hc
  subst hspot
  exact ⟨b, off, rfl, World.block_lt_of_cell? w _ hc⟩
section
variable {H : Type} {enc : TypeId × Value → H} {w : World} {base : Nat} {spare : Nat → Bool} {held : Bool}
theorem open_bytes {fuel : Nat} {cs : List Value} {x : DataW H × List MemPlace} (h : DataW.trod enc Try.prog w base spare held fuel 33 cs = some x) :
    ∃ (A : Option Addr) (c : Nat) (l : List Int), cs = [.slice A l.length c] ∧ Rd w w.heap.size A l ∧ Byt l ∧ l.length ≤ c ∧ c ≤ maxLen := by
  rcases open_ints Try.underlying33 Try.underlying5 (by kernel_rfl) h with ⟨hcs, _⟩ | ⟨a, len, cap, zs, hcs, _, hl, hm, hz, _, hcell, hwz⟩
  · exact ⟨none, 0, [], hcs, Rd.nil, fun x hx => by simp at hx, Nat.le_refl _, Nat.zero_le _⟩
  · have hz1 : len ≤ zs.length := by rw [hz]; split <;> omega
    have hll : (zs.take len).length = len := by rw [List.length_take]; omega
    refine ⟨some a, cap, zs.take len, by rw [hll]; exact hcs, fun hp => ?_, fun n hn => ?_, by omega, hm⟩
    · obtain ⟨b, off, rfl, hb⟩ := spot_none (hcell 0 (by omega))
      refine ⟨b, off, rfl, hb, fun j hj => ?_⟩
      have := hcell j (by omega)
      rw [show (⟨b, off, none⟩ : Addr).add j = ⟨b, off + j, none⟩ from by unfold Addr.add; by_cases h : j = 0 <;> simp [h]] at this
      rw [this, List.getD_eq_getElem?_getD, List.getD_eq_getElem?_getD, List.getElem?_take_of_lt (by omega)]
    · have := hwz n (List.mem_of_mem_take hn)
      simp [Lit.wf, IntKind.min, IntKind.max, IntKind.signed, IntKind.bits] at this
      omega
theorem open_bytes1 {v : Value} {d : DataW H} {p : List MemPlace} (hv : ∃ A n c, v = .slice A n c) (h : DataW.Trod enc Try.prog w base spare held 33 v d p) :
    ∃ (A : Option Addr) (c : Nat) (l : List Int), v = .slice A l.length c ∧ Rd w w.heap.size A l ∧ Byt l ∧ l.length ≤ 9223372036854775807 := by
  obtain ⟨A, n, c, rfl⟩ := hv
  obtain ⟨fuel, hf⟩ := h
  obtain ⟨A', c', l, e, h1, h2, h3, h4⟩ := open_bytes hf
  simp only [Value.cells, List.cons.injEq, and_true] at e
  exact ⟨A', c', l, e, h1, h2, Nat.le_trans h3 h4⟩
theorem open_bytes2 {v : Value} {d : DataW H} {p : List MemPlace} (hv : ∃ A n c, v = .slice A n c) (h : DataW.Trod enc Try.prog w base spare held 33 v d p) :
    ∃ (A : Option Addr) (c : Nat) (l : List Int), v = .slice A l.length c ∧ Rd w w.heap.size A l ∧ Byt l ∧ l.length ≤ c ∧ c ≤ 9223372036854775807 := by
  obtain ⟨A, n, c, rfl⟩ := hv
  obtain ⟨fuel, hf⟩ := h
  obtain ⟨A', c', l, e, h1, h2, h3, h4⟩ := open_bytes hf
  simp only [Value.cells, List.cons.injEq, and_true] at e
  exact ⟨A', c', l, e, h1, h2, h3, h4⟩
end
end Go.Proofs.Ytlhbnmaalhainaa.Tlv

namespace Go.Proofs.Ytlhbnmaalhainaa.Tlv
open Go.RowKit Go.Lib Go.Sort
set_option maxRecDepth 100000
set_option linter.unusedVariables false
set_option linter.unusedSimpArgs false

set_option maxHeartbeats 8000000 in
theorem bytes_out (n1 : List UInt8) (l1 : List At) (va : Value) (A : Option Addr) (c : Nat) (cb : List Int) (tag : Int) (w : World) (hva : RdV w va l1) (hs1 : Sm l1) (hl1 : l1.length ≤ 9223372036854775807) (hn1 : n1.length ≤ 9223372036854775807) (hcl : cb.length ≤ 9223372036854775807) (h : ¬ (n1.length ≤ 9000 ∧ muchV l1 = false ∧ cb.length ≤ 20000 ∧ tag ≠ 0)) :
    KnownB w #[.agg #[.string (sx n1), va], .slice A cb.length c, .int .u8 tag] := by
  have hb1 := (Below.refl w.heap.size w).alloc (Nat.le_refl _) (.cells #[.string (sx n1), va] 26)
  have k0 := Blk.new w 26 #[.string (sx n1), va]
  generalize hW : w.alloc (.cells #[.string (sx n1), va] 26) = W0 at hb1 k0
  have HX := Lib.hid (And.intro (k0.cell 0) (k0.cell 1))
  have HK := Lib.hid fun W => known_any W
  have HB := Lib.hid hb1
  have HM := Lib.hid (much_any l1 va W0 (hva.on hb1) hs1 hl1)
  have z1 := sx_size n1
  have hcases : 9000 < n1.length ∨ (n1.length ≤ 9000 ∧ muchV l1 = true) ∨ (n1.length ≤ 9000 ∧ muchV l1 = false ∧ 20000 < cb.length) ∨ (n1.length ≤ 9000 ∧ muchV l1 = false ∧ cb.length ≤ 20000 ∧ tag = 0) := by
    rcases Nat.lt_or_ge 9000 n1.length with h1 | h1
    · exact .inl h1
    · cases h3 : muchV l1 with
      | true => exact .inr (.inl ⟨h1, rfl⟩)
      | false =>
        rcases Nat.lt_or_ge 20000 cb.length with h5 | h5
        · exact .inr (.inr (.inl ⟨h1, rfl, h5⟩))
        · by_cases h6 : tag = 0
          · exact .inr (.inr (.inr ⟨h1, rfl, h5, h6⟩))
          · exact absurd ⟨h1, h3, h5, h6⟩ h
  subst hW
  obtain ⟨Aa, ca, rfl, _, _⟩ := hva
  obtain ⟨a0, a1⟩ := HX.out
  simp only [List.getElem?_toArray, List.getElem?_cons_zero, List.getElem?_cons_succ] at a0 a1
  clear h hb1 k0 hs1
  generalize muchV l1 = r1 at HM hcases
  generalize l1.length = na at HM HX HB hl1 a0 a1 ⊢
  generalize n1.length = t1 at z1 hn1 hcases
  generalize cb.length = tc at hcl hcases ⊢
  rcases hcases with hc | ⟨hc1, rfl⟩ | ⟨hc1, rfl, hc⟩ | ⟨hc1, rfl, hc, rfl⟩
  · go_enter Try.func4, Try.ntmps4
    go_wp2_with (first
      | (go_at_call 10; (with_reducible refine (HK.out _).mono ?_); rintro e w3 ⟨rfl, hb3⟩; have HB3 := Lib.hid (HB.out.trans (hb3.mono HB.out.size)); clear hb3))
    go_ret
    exact ⟨rfl, HB3.out⟩
  all_goals
    go_enter Try.func4, Try.ntmps4
    go_wp2_with (first
      | (go_at_call 9; (with_reducible refine HM.out.mono ?_); clear HM a0 a1; rintro e w2 ⟨rfl, hb2⟩; have HB2 := Lib.hid (HB.out.trans (hb2.mono HB.out.size)); clear hb2)
      | (go_at_call 10; (with_reducible refine (HK.out _).mono ?_); rintro e w3 ⟨rfl, hb3⟩; have HB3 := Lib.hid (HB2.out.trans (hb3.mono HB2.out.size)); clear hb3))
    go_ret
    exact ⟨rfl, HB3.out⟩
theorem lawB_any (n1 : List UInt8) (l1 : List At) (va : Value) (A : Option Addr) (c : Nat) (cb : List Int) (tag : Int) (w : World) (hva : RdV w va l1) (hs1 : Sm l1) (hl1 : l1.length ≤ 9223372036854775807) (hn1 : n1.length ≤ 9223372036854775807) (hr : Rd w w.heap.size A cb) (hby : Byt cb) (hc : cb.length ≤ c) (hcm : c ≤ 9223372036854775807) (ht0 : 0 ≤ tag) (ht : tag ≤ 255) :
    KnownB w #[.agg #[.string (sx n1), va], .slice A cb.length c, .int .u8 tag] := by
  by_cases h : n1.length ≤ 9000 ∧ muchV l1 = false ∧ cb.length ≤ 20000 ∧ tag ≠ 0
  · obtain ⟨h1, h2, h3, h4⟩ := h
    by_cases hy : ∃ n3 l3, mayE n3 l3 = true ∧ cb = entB n3 l3
    · obtain ⟨n3, l3, hm3, rfl⟩ := hy
      cases hma : mayE n1 l1 with
      | true =>
        have hml := (Bool.and_eq_true_iff.1 hma).2
        exact bytes_111 n1 l1 va A c n3 l3 tag w hva hs1 h1 h2 hr hc hcm h3 (by omega) ht hma hml hm3
      | false =>
        cases hml : mayL l1 with
        | true => exact bytes_011 n1 l1 va A c n3 l3 tag w hva hs1 h1 h2 hr hc hcm h3 (by omega) ht hma hml hm3
        | false => exact bytes_010 n1 l1 va A c n3 l3 tag w hva hs1 h1 h2 hr hc hcm h3 (by omega) ht hma hml hm3
    · have hno : ∀ name at', mayE name at' = true → cb ≠ entB name at' := fun a b h5 h6 => hy ⟨a, b, h5, h6⟩
      cases hma : mayE n1 l1 with
      | true =>
        have hml := (Bool.and_eq_true_iff.1 hma).2
        exact bytes_101 n1 l1 va A c cb tag w hva hs1 h1 h2 hr hc hcm h3 (by omega) ht hma hml hby hno
      | false =>
        cases hml : mayL l1 with
        | true => exact bytes_001 n1 l1 va A c cb tag w hva hs1 h1 h2 hr hc hcm h3 (by omega) ht hma hml hby hno
        | false => exact bytes_000 n1 l1 va A c cb tag w hva hs1 h1 h2 hr hc hcm h3 (by omega) ht hma hml hby hno
  · exact bytes_out n1 l1 va A c cb tag w hva hs1 hl1 hn1 (Nat.le_trans hc hcm) h
end Go.Proofs.Ytlhbnmaalhainaa.Tlv

namespace Go.Proofs.Ytlhbnmaalhainaa.entryBytes
open Go.ChangeShapes Go.WideShapes Go.ChangeAt Go.RowKit
open Go.ChangeMaps (open_string shut_string)
set_option linter.unusedVariables false

theorem own : ownKnob Try.prog.godebug = none := by kernel_rfl
theorem laidOut : laidOutB Try.prog = true := by kernel_rfl

set_option maxRecDepth 100000 in
theorem lifted (os : Os) (started : os.Started) (H : Type) (enc : TypeId × Value → H) :
    ReturnsInHanded {} Try.checked os 4 .any (Rows.entryBytesSpec.pre6 enc Try.prog Try.f4 Rows.entryBytesRow.domain false) (Rows.entryBytesSpec.post enc Try.prog Try.f4 false true false false) := by
  refine returnsInHanded_of_change (C := Try.checked) own started (by kernel_rfl) Try.func4
    (ChangeSpec.witness6 (enc := enc) (C := Try.checked) false ⟨#[], #[.agg #[.string ⟨#[]⟩, .slice none 0 0], .slice none 0 0, .int .u8 0], []⟩ 8 (by kernel_rfl) (by kernel_rfl) (by kernel_rfl) (by kernel_rfl)) ?_
  intro W base args ds gs before hval0 hW hcnd _
  have hval : ∀ (j : Nat) t v, Try.f4.params[j]? = some t → args[j]? = some v → Value.okWide Try.prog W .any base t v := hval0
  have hW' := hW
  obtain ⟨p, q, hA0, hV, rfl, hfz, hnd⟩ := hW
  have hA : DataW.TrodAll enc Try.prog W 0 (fun _ => true) true Try.f4.params.toList args.toList ds p := hA0
  rw [Try.params4] at hA hval
  obtain ⟨v0, vs0, d0, ds0, p0, q0, hargs, rfl, rfl, h0, r0⟩ := trodAll_cons hA
  obtain ⟨v1, vs1, d1, ds1, p1, q1, rfl, rfl, rfl, h1, r1⟩ := trodAll_cons r0
  obtain ⟨v2, vs2, d2, ds2, p2, q2, rfl, rfl, rfl, h2, r2⟩ := trodAll_cons r1
  obtain ⟨rfl, rfl, rfl⟩ := trodAll_nil r2
  obtain rfl : args = #[v0, v1, v2] := by cases args; simp_all
  obtain ⟨rfl, rfl⟩ := trodVars_none hV
  have k0 := h0
  have lt0 : ∀ x ∈ p0, x.block < W.heap.size := by obtain ⟨m, hm⟩ := k0; exact DataW.trod_lt m _ _ _ hm
  have k1 := h1
  have lt1 : ∀ x ∈ p1, x.block < W.heap.size := by obtain ⟨m, hm⟩ := k1; exact DataW.trod_lt m _ _ _ hm
  obtain ⟨n0, u0, l0, rfl, hn0, hv0, hl0, hs0⟩ := open_entry (hval 0 26 v0 rfl rfl) h0
  obtain ⟨A1, c1, b1, rfl, hr1, hb1, hc1, hm1⟩ := Tlv.open_bytes2 (okWide_slice Try.underlying33 (hval 1 33 v1 rfl rfl)) h1
  obtain ⟨a2, rfl, rfl, rfl, w2⟩ := open_int Try.underlying5 (hval 2 5 v2 rfl rfl) h2
  have hg2 : 0 ≤ a2 ∧ a2 ≤ 255 := by
    have := w2
    simp [Lit.wf, IntKind.min, IntKind.max, IntKind.signed, IntKind.bits] at this
    omega
  clear hA0 hval0
  refine (show Calls Try.prog 4 _ W fun e w' => e = .returned (.bool true) ∧ Below W.heap.size W w' from by exact Tlv.lawB_any n0 l0 u0 A1 c1 b1 a2 W hv0 hs0 hl0 hn0 hr1 hb1 hc1 hm1 hg2.1 hg2.2).mono fun e W' ⟨he, bel⟩ => ?_
  subst he
  exact ⟨_, rfl, _, _, _, [], _, [], hW', trodAll_mk1 (shut_bool Try.underlying4 _), (trodAll_cons_mk (Below.trod laidOut (by kernel_rfl) (of_decide_eq_true (by kernel_rfl)) k0 bel lt0) (trodAll_cons_mk (Below.trod laidOut (by kernel_rfl) (of_decide_eq_true (by kernel_rfl)) k1 bel lt1) (trodAll_cons_mk (shut_int Try.underlying5 w2) trodAll_mk0))), rfl, bel.frame _, fun h => by cases h⟩

theorem over : Rows.entryBytesRow.holds Try.pinned (OpenSpec.ofChange Rows.entryBytesSpec) :=
  OpenClaim.holds_of_wide 4 Try.f4 rfl rfl rfl rfl rfl rfl rfl ⟨rfl, rfl, rfl, rfl, rfl⟩ rfl rfl rfl rfl rfl (by kernel_rfl) Try.func4 (by kernel_rfl)
    (of_decide_eq_true (by kernel_rfl)) (by unfold Func.isWrapper; first | (rw [if_pos (by decide +kernel)]; kernel_rfl) | (rw [if_neg (by decide +kernel)]; exact ⟨rfl, rfl⟩))
    (fun os started H enc _ => lifted os started H enc)

/-- THE STATEMENT -/
theorem proved : Rows.EntryBytesSaid := over
#print axioms proved
end Go.Proofs.Ytlhbnmaalhainaa.entryBytes
