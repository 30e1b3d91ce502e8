/- Is a result too wide for the law. -/
import Derived.Test.YtidkpdoiblomjaaZ37
import Derived.Test.YtidkpdoiblomjaaZ42
import Derived.Test.YtidkpdoiblomjaaZ33
import Derived.Test.YtidkpdoiblomjaaZ31
import Derived.Test.YtidkpdoiblomjaaZ26
import Derived.Test.YtidkpdoiblomjaaZ32
import Derived.Deep.RegionLaw
import Derived.Laws.OwnMore
namespace Go.Proofs.Ytidkpdoiblomjaa.Tlv
open Go.RowKit
set_option maxRecDepth 100000
set_option linter.unusedVariables false
set_option linter.unusedSimpArgs false
structure LimR0 (r : Res) : Prop where
 ne : r.es.length ≤ 9223372036854775807
 nm : ∀ e ∈ r.es, e.nm.length ≤ 9223372036854775807
 la : ∀ e ∈ r.es, e.ats.length ≤ 9223372036854775807
 sa : ∀ e ∈ r.es, Ytidkpdoiblomjaa.Sm e.ats
 lc : r.cur.length ≤ 9223372036854775807
 byt : Byt r.cur
def wideE (e : Eny) : Bool := decide (3000 < e.nm.length) || Ytidkpdoiblomjaa.muchV e.ats
def wideR (r : Res) : Bool := (r.es.take 9).any wideE || (decide (8 < r.es.length) || decide (9000 < r.cur.length))
end Go.Proofs.Ytidkpdoiblomjaa.Tlv
namespace Go.Proofs.Ytidkpdoiblomjaa.Tlv
open Go.RowKit Go.Lib Go.Sort
set_option maxRecDepth 100000
set_option linter.unusedVariables false
set_option linter.unusedSimpArgs false
theorem sameR_refl (r : Res) : sameR r r = true := by simp [sameR]
theorem rs_row {W : World} {B : Nat} {k : Int} {y : Bool} {ve vc : Value} (h : Blk W B 39 (rsCs k y ve vc)) : ∀ W', (∃ p : Regrown, W' = grow (redrawn W p.d) p.os) → (loadVar 39 ⟨B, 0, none⟩).run Try.prog W' = .ok (rsVal k y ve vc) W' := by
 rintro _ ⟨p, rfl⟩
 have h : Blk (grow (redrawn W p.d) p.os) B 39 (rsCs k y ve vc) := h.on (below_regrown W p.d p.os)
 exact run_loadVar_mid _ _ 0 39 _ _ (h.range 0 (rsCs k y ve vc).toList rfl) rfl rfl (by kernel_rfl)
theorem wide_parts {r : Res} (h : wideR r = false) : r.es.length ≤ 8 ∧ r.cur.length ≤ 9000 ∧ ∀ e ∈ r.es, wideE e = false := by
 unfold wideR at h
 simp only [Bool.or_eq_false_iff, decide_eq_false_iff_not] at h
 obtain ⟨h1, h2, h3⟩ := h
 have h4 : r.es.length ≤ 8 := by omega
 refine ⟨h4, by omega, fun e he => ?_⟩
 rw [List.take_of_length_le (by omega)] at h1
 cases hw : wideE e with
 | false => rfl
 | true =>
   have : r.es.any wideE = true := List.any_eq_true.2 ⟨e, he, hw⟩
   rw [h1] at this
   cases this
theorem much_lenQ {l : List At} (h : Ytidkpdoiblomjaa.muchV l = false) : l.length ≤ 120 := by
 unfold Ytidkpdoiblomjaa.muchV at h
 rw [Bool.or_eq_false_iff] at h
 have := of_decide_eq_false h.1
 omega
theorem LimR0.lim {r : Res} (h : LimR0 r) (hw : wideR r = false) : LimR r := by
 obtain ⟨h1, h2, h3⟩ := wide_parts hw
 refine ⟨⟨by omega, h.nm, fun e he => ?_, h.sa⟩, h.lc, h.byt⟩
 have h4 := h3 e he
 unfold wideE at h4
 simp only [Bool.or_eq_false_iff] at h4
 have := much_lenQ h4.2
 omega
theorem resBytes_one (r : Res) (ve vc : Value) (w : World) (ha : ResAt w r ve vc) (hl : LimR r) (hf : Fit r) (mb : Bool) (hmb : mayR r = mb) : Calls Try.prog 40 #[rsVal r.k r.y ve vc] w fun e w' => ∃ A m k q, e = .returned (.tuple #[.slice A m k, .int .i64 q]) ∧ ((mb = true ∧ q = 0 ∧ m = (resB r).length ∧ Rd w' w'.heap.size A (resB r)) ∨ (mb = false ∧ q = 2 ∧ m = 0)) ∧ Below w.heap.size w w' :=
 (resBytes_any r ve vc w ha hl hf).mono fun e w' h => by
   rcases h with ⟨h1, A, m, k, rfl, h3, h4, h5⟩ | ⟨h1, rfl, h3⟩
   · obtain ⟨A', c', e2, _, h6⟩ := h4.rd
     injection e2 with e3 e4 e5
     subst e3
     exact ⟨A, m, k, 0, rfl, .inl ⟨hmb.symm.trans h1, rfl, h3, h6⟩, h5⟩
   · exact ⟨none, 0, 0, 2, rfl, .inr ⟨hmb.symm.trans h1, rfl, rfl⟩, h3⟩
theorem refResBytes_one (r : Res) (ve vc : Value) (w : World) (ha : ResAt w r ve vc) (hl : LimR r) (hf : Fit r) (mb : Bool) (hmb : mayR r = mb) : Calls Try.prog 15 #[rsVal r.k r.y ve vc] w fun e w' => ∃ A m k, e = .returned (.tuple #[.slice A m k, .bool mb]) ∧ (mb = true → m = (resB r).length ∧ Rd w' w'.heap.size A (resB r)) ∧ Below w.heap.size w w' :=
 (refResBytes_any r ve vc w ha hl hf).mono fun e w' h => by
   rcases h with ⟨h1, A, m, k, rfl, h3, h4, h5⟩ | ⟨h1, rfl, h3⟩
   · obtain ⟨A', c', e2, _, h6⟩ := h4.rd
     injection e2 with e3 e4 e5
     subst e3
     rw [hmb] at h1
     subst h1
     exact ⟨A, m, k, rfl, fun _ => ⟨h3, h6⟩, h5⟩
   · rw [hmb] at h1
     subst h1
     exact ⟨none, 0, 0, rfl, (fun h => by cases h), h3⟩
set_option maxHeartbeats 4000000 in
theorem mayRes_any (r : Res) (ve vc : Value) (w : World) (ha : ResAt w r ve vc) (hl : LimR r) (hf : Fit r) (mb : Bool) (hmb : mayR r = mb) : Calls Try.prog 25 #[rsVal r.k r.y ve vc] w fun e w' => e = .returned (.bool mb) ∧ Below w.heap.size w w' := by
 have HA := Lib.hid fun (W : World) (hb : Below w.heap.size w W) => ha.on hb
 obtain ⟨es, Aa, ca, na, rfl, HNa, HRa⟩ := ha.e.full
 obtain ⟨Ac, cc, nc, rfl, HNc, HRc⟩ := ha.c.full
 have hb : Below w.heap.size w (w.alloc (.cells (rsCs r.k r.y (.slice Aa na ca) (.slice Ac nc cc)) 39)) := (Below.refl _ _).alloc (Nat.le_refl _) _
 obtain ⟨a0, a1, a2, a3⟩ := rs_cells (Blk.new w 39 (rsCs r.k r.y (.slice Aa na ca) (.slice Ac nc cc)))
 have HM := Lib.hid (resBytes_one r _ _ _ (HA.out _ hb) hl hf mb hmb)
 have HB := Lib.hid hb
 clear hb ha hl hf hmb
 go_enter Try.func25, Try.ntmps25
 go_upto_region 2 with (go_at_call 40; (with_reducible refine HM.out.mono ?_); rintro e wx ⟨A1, m1, k1, q, rfl, hq, hbx⟩; dsimp only; have HQ := Lib.hid hq; have HX := Lib.hid (HB.out.trans (hbx.mono HB.out.size)); clear hq hbx)
 rcases HQ.out with ⟨rfl, rfl, _⟩ | ⟨rfl, rfl, _⟩
 · go_wp2
   go_ret
   exact ⟨rfl, HX.out⟩
 · go_wp2
   go_ret
   exact ⟨rfl, HX.out⟩
end Go.Proofs.Ytidkpdoiblomjaa.Tlv
namespace Go.Proofs.Ytidkpdoiblomjaa.Tlv
open Go.RowKit Go.ChangeShapes Go.WideShapes Go.Deep Go.Joins
set_option maxRecDepth 100000
set_option linter.unusedVariables false
set_option linter.unusedSimpArgs false
section
variable {H : Type} {enc : TypeId × Value → H} {w : World} {base : Nat} {spare : Nat → Bool} {held : Bool}
structure EnOk (w : World) (x : En) (y : Eny) : Prop where
 nm : x.nm = y.nm
 at' : Ytidkpdoiblomjaa.RdV w x.v y.ats
 ln : y.nm.length ≤ 9223372036854775807
 la : y.ats.length ≤ 9223372036854775807
 sa : Ytidkpdoiblomjaa.Sm y.ats
theorem open_en {fuel : Nat} {cs : List Value} {x : DataW H × List MemPlace} (h : DataW.trod enc Try.prog w base spare held fuel 47 cs = some x) : ∃ (r : En) (y : Eny), cs = [.string (sx r.nm), r.v] ∧ EnOk w r y := by
 obtain ⟨y0, y1, n, _, hl, h0, h1⟩ := trod_struct2 Try.underlying47 h
 have e0 : Try.prog.cellsOf 9 = 1 := by kernel_rfl
 have e1 : Try.prog.cellsOf 45 = 1 := by kernel_rfl
 have e2 : Try.prog.cellsOf 47 = 2 := by kernel_rfl
 simp only [e0, e1] at h0 h1
 rw [e2] at hl
 match cs, hl with
 | [a, b], _ =>
   obtain ⟨s0, z0, _, g0⟩ := DataW.trod_string Try.underlying9 h0
   obtain ⟨v, l, z1, g1, g2, g3⟩ := Ytidkpdoiblomjaa.open_atsC h1
   simp at z0 z1
   subst z0; subst z1
   obtain ⟨A, c, nn, rfl, _, _⟩ := rdv_len g1
   refine ⟨⟨s0.data.toList, A, nn, c⟩, ⟨s0.data.toList, l⟩, by rw [data_sx], rfl, g1, ?_, g2, g3⟩
   show s0.data.toList.length ≤ _
   rw [Array.length_toList]
   exact g0
theorem open_ensC {fuel : Nat} {cs : List Value} {x : DataW H × List MemPlace} (hf : DataW.trod enc Try.prog w base spare held fuel 36 cs = some x) :
   ∃ (v : Value) (l : List Eny), cs = [v] ∧ RdE w v l ∧ l.length ≤ 9223372036854775807 ∧ ∀ y ∈ l, y.nm.length ≤ 9223372036854775807 ∧ y.ats.length ≤ 9223372036854775807 ∧ Ytidkpdoiblomjaa.Sm y.ats := by
 have e2 : Try.prog.cellsOf 47 = 2 := by kernel_rfl
 rcases open_slice Try.underlying36 hf with ⟨hcs, _⟩ | ⟨a, n, c, m, k, D, Pl, hcs, hb, hl, hm, hmm, hxe, hi⟩
 · exact ⟨_, [], hcs, RdE.nil _, by simp, fun x hx => by simp at hx⟩
 · rw [e2] at hi
   have hl0 := hl
   have hm0 := hm
   have hle : n ≤ m := by rw [hmm]; split <;> omega
   have hel : ∀ i, i < n → ∃ (r : En) (y : Eny), EnOk w r y ∧ ∀ (j : Nat) (u : Value), [Value.string (sx r.nm), r.v][j]? = some u → w.cell? (a.add (i * 2 + j)) = some u := fun i hin => by
     obtain ⟨cs', hc, ht⟩ := hi i (by omega)
     obtain ⟨r, y, rfl, hr⟩ := open_en ht
     obtain ⟨_, _, hat⟩ := World.cells?_some hc
     refine ⟨r, y, hr, fun j u hu => ?_⟩
     have hj : j < 2 := (List.getElem?_eq_some_iff.1 hu).1
     rw [← Go.Deep.add_add, hat j hj, hu]
   have hch : ∃ (es : List En) (l : List Eny), es.length = n ∧ l.length = n ∧ ∀ i, i < n → EnOk w (es.getD i default) (l.getD i default) ∧ ∀ (j : Nat) (u : Value), [Value.string (sx (es.getD i default).nm), (es.getD i default).v][j]? = some u → w.cell? (a.add (i * 2 + j)) = some u := by
     clear hi hle hl hm hmm hf hcs hxe hl0
     induction n with
     | zero => exact ⟨[], [], rfl, rfl, fun i hi => by omega⟩
     | succ n ih =>
       obtain ⟨es, l, hl1, hl2, h1⟩ := ih (fun i hi => hel i (by omega))
       obtain ⟨r, y, hr, h2⟩ := hel n (by omega)
       refine ⟨es ++ [r], l ++ [y], by simp [hl1], by simp [hl2], fun i hi => ?_⟩
       rcases Nat.lt_or_ge i n with hin | hin
       · have e : (es ++ [r]).getD i default = es.getD i default := by rw [List.getD_eq_getElem?_getD, List.getD_eq_getElem?_getD, List.getElem?_append_left (by omega)]
         have e' : (l ++ [y]).getD i default = l.getD i default := by rw [List.getD_eq_getElem?_getD, List.getD_eq_getElem?_getD, List.getElem?_append_left (by omega)]
         rw [e, e']; exact h1 i hin
       · have e : (es ++ [r]).getD i default = r := by rw [List.getD_eq_getElem?_getD, List.getElem?_append_right (by omega), show i - es.length = 0 from by omega]; rfl
         have e' : (l ++ [y]).getD i default = y := by rw [List.getD_eq_getElem?_getD, List.getElem?_append_right (by omega), show i - l.length = 0 from by omega]; rfl
         rw [e, e']
         have : i = n := by omega
         subst this
         exact ⟨hr, h2⟩
   obtain ⟨es, l, hll, hll2, hle2⟩ := hch
   refine ⟨.slice (some a) n c, l, hcs, ⟨es, some a, c, by rw [hll], ⟨fun h => (by cases h), by rw [hll]; exact hl0, hm0⟩, fun hp => ?_, hll.trans hll2.symm, fun i hi => ⟨(hle2 i (by omega)).1.nm, (hle2 i (by omega)).1.at'⟩⟩, by rw [hll2]; exact Nat.le_trans hl hm, fun y hy => ?_⟩
   · obtain ⟨b, off, spot⟩ := a
     have hc := (hle2 0 (by omega)).2 0 _ rfl
     have hspot : spot = none := by simpa [Addr.add] using World.cell?_spot hc
     subst hspot
     have hb : b < w.heap.size := World.block_lt_of_cell? w _ hc
     refine ⟨b, off, rfl, hb, fun j hj i u hu => ?_⟩
     have := (hle2 j (by omega)).2 i u hu
     rw [Addr.add_mid, ← Nat.add_assoc] at this
     exact this
   · obtain ⟨i, hi, rfl⟩ := List.getElem_of_mem hy
     have h := (hle2 i (by omega)).1
     have e : l.getD i default = l[i] := by rw [List.getD_eq_getElem?_getD, List.getElem?_eq_getElem hi]; rfl
     rw [e] at h
     exact ⟨h.ln, h.la, h.sa⟩
end
end Go.Proofs.Ytidkpdoiblomjaa.Tlv
