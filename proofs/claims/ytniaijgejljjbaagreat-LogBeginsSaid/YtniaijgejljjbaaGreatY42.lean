/- The document's log: one more, where there is room. -/
import Derived.Test.YtniaijgejljjbaaGreatY41
namespace Go.Proofs.YtniaijgejljjbaaGreat.Tlv
open Go.RowKit
set_option maxRecDepth 100000
set_option linter.unusedVariables false
set_option linter.unusedSimpArgs false
theorem grown_nilQ {W W' : World} (h : W.grownBy W' (Value.slice none 0 0).ownBlock) : Below W.heap.size W W' := row_below (nil_row kRq W W.heap.size) h (Nat.le_refl _)
theorem rds_of_row {n0 base n c : Nat} {A : Option Addr} {w : World} {l : List Rq} (h : RowK kRq w base (.slice A n c) l) : n = l.length ∧ ((A = none → c = 0) ∧ n ≤ c ∧ c ≤ maxLen) ∧ (∀ a, A = some a → a.spot = none) ∧ RdS n0 w A l := by
 have hrd := h
 rcases h.2 with ⟨e, h0⟩ | ⟨g, cap, cur, e, _, hh, h1, h2, _⟩
 · injection e with e1 e2 e3
   subst e1 e2 e3
   have : l = [] := List.eq_nil_of_length_eq_zero h0
   subst this
   exact ⟨rfl, ⟨fun _ => rfl, Nat.le_refl _, Nat.zero_le _⟩, (fun a h => by cases h), RdS.none _ _ _⟩
 · injection e with e1 e2 e3
   subst e1 e2 e3
   refine ⟨rfl, ⟨(fun h => by cases h), h1, h2⟩, fun a ha => by cases ha; rfl, fun hp => ?_⟩
   obtain ⟨A', c', e', _, hr⟩ := RowK.rd0 hrd
   injection e' with e1 _ _
   subst e1
   obtain ⟨b, off, e2, h3, h4⟩ := hr hp
   cases e2
   exact ⟨g, 0, rfl, h3, .inr ⟨cur, hh⟩, h4⟩
theorem rapp_fin {n0 r B : Nat} {R : List Rq} {c n : Int} {o : Opn} {Aa Ap Ac : Option Addr} {na ca np cp nc cc : Nat} {w0 w w9 : World} {A A9 : Option Addr} {n9 c9 k cL : Nat} (h : LogQ n0 w0 w r B R) (hn0 : n0 ≤ w.heap.size)
   (hk : Blk w9 r 36 #[.int .u64 B, .slice A k cL]) (hrow : RowK kRq w9 w.heap.size (.slice A9 n9 c9) (([] ++ R) ++ [(⟨c, n, o, Aa, na, ca, Ap, np, cp, Ac, nc, cc⟩ : Rq)])) (hb : Below w.heap.size w w9) (hg : Mq.Good ⟨c, n, o⟩) (ho : OpAt w0 o (.slice Aa na ca) (.slice Ap np cp) (.slice Ac nc cc)) :
   LogQ n0 w0 (w9.setCell ⟨r, 1, none⟩ (.slice A9 n9 c9)) r B (R ++ [(⟨c, n, o, Aa, na, ca, Ap, np, cp, Ac, nc, cc⟩ : Rq)]) ∧ FrT spA n0 (TQ r) w (w9.setCell ⟨r, 1, none⟩ (.slice A9 n9 c9)) ∧ Blk (w9.setCell ⟨r, 1, none⟩ (.slice A9 n9 c9)) r 36 #[.int .u64 B, .slice A9 n9 c9] := by
 have hk2 : Blk (w9.setCell ⟨r, 1, none⟩ (.slice A9 n9 c9)) r 36 #[.int .u64 B, .slice A9 n9 c9] := hk.set_ 1 _
 have hf : FrT spA n0 (TQ r) w (w9.setCell ⟨r, 1, none⟩ (.slice A9 n9 c9)) := (FrT.of hb hn0).set hk (show TQ r r 36 from ⟨rfl, rfl⟩) (by decide) h.low _
 obtain ⟨h1, h2, h3, h4⟩ := rds_of_row (n0 := n0) hrow
 have hn9 : n0 ≤ w9.heap.size := Nat.le_trans hn0 hb.size
 refine ⟨⟨⟨A9, n9, c9, hk2, h1, h2, h3, h4.frT ((FrT.refl (sp := spA) (T := TQ r) hn9).set hk (show TQ r r 36 from ⟨rfl, rfl⟩) (by decide) h.low _) (by intro b; simp [TQ])⟩, fun x hx => ?_, h.low, fun m hm => ?_⟩, hf, hk2⟩
 · rcases List.mem_append.1 hx with hx | hx
   · exact h.at_ x hx
   · rw [List.mem_singleton] at hx
     subst hx
     exact ho
 · rw [means_app] at hm
   rcases List.mem_append.1 hm with hm | hm
   · exact h.good m hm
   · rw [show means [(⟨c, n, o, Aa, na, ca, Ap, np, cp, Ac, nc, cc⟩ : Rq)] = [Rq.m (⟨c, n, o, Aa, na, ca, Ap, np, cp, Ac, nc, cc⟩ : Rq)] from rfl, List.mem_singleton] at hm
     subst hm
     exact hg
def RAppOut (n0 r B E : Nat) (R : List Rq) (m : Mq) (w0 w : World) (e : Ending) (w' : World) : Prop := ∃ x : Rq, x.m = m ∧ e = .returned (.tuple #[.int .u64 E, .int .i64 0]) ∧ LogQ n0 w0 w' r B (R ++ [x]) ∧ FrT spA n0 (TQ r) w w'
set_option maxHeartbeats 16000000 in
theorem rappend_ok (n0 r B E : Nat) (R : List Rq) (c n : Int) (o : Opn) (va vp vc : Value) (w0 w : World) (h : LogQ n0 w0 w r B R) (hn0 : n0 = w0.heap.size) (hb0 : Below n0 w0 w) (hlim : Lim o) (ho : OpAt w0 o va vp vc) (hm : Mq.Good ⟨c, n, o⟩) (hl : R.length ≤ 900) (hB : B ≤ 9000000000000000000) (hE : E = B + (R.length + 1)) (hs : sumM (means R) + Mq.sz ⟨c, n, o⟩ ≤ 2097152) :
   Calls Tryz.prog 25 #[.pointer (some ⟨r, 0, none⟩), rqVal c n o va vp vc] w (RAppOut n0 r B E R ⟨c, n, o⟩ w0 w) := by
 have HE0 := Lib.hid (And.intro hB (And.intro hE hl))
 clear hE
 have hl : R.length ≤ 1000 := by omega
 obtain ⟨A, _, cL, hk, rfl, ⟨hA0, hle, hmx⟩, _, hrs⟩ := id h.st
 have hat := ho.on (hn0 ▸ hb0)
 obtain ⟨Aa, ca, na, rfl, _, _⟩ := rdv_len ho.a
 obtain ⟨Ap, cp, np, rfl⟩ := ho.p.len
 obtain ⟨Ac, cc, nc, rfl, _⟩ := ho.c.len
 have hn0w : n0 ≤ w.heap.size := by rw [hn0]; exact hb0.size
 have hb1 : Below w.heap.size w (w.alloc (.cells (rqCs c n o (.slice Aa na ca) (.slice Ap np cp) (.slice Ac nc cc)) 46)) := (Below.refl _ _).alloc (Nat.le_refl _) _
 have HM := Lib.hid (rmay_any c n o _ _ _ _ hlim (hat.on hb1))
 have HA0 := Lib.hid hA0
 clear hA0
 rw [hm.may] at HM
 obtain ⟨q, hq⟩ : ∃ q, q = sumM (means R) := ⟨_, rfl⟩
 obtain ⟨z, hz⟩ : ∃ z, z = szQ c n o := ⟨_, rfl⟩
 have hqf : q ≤ 300000000 := by rw [hq]; have := sumM_few h.good; rw [means_len] at this; omega
 have hzf : z ≤ 300000 := by rw [hz]; exact hm.few
 have hsq : q + z ≤ 2097152 := by rw [hq, hz]; exact hs
 have e4 : IntKind.i64.wrap ((q : Int) + (z : Int)) = (q : Int) + z := IntWalk.i64_in _ (by omega)
 have d1 : decide ((4096 : Int) ≤ (R.length : Int)) = false := by simp; omega
 have d0 : decide (4096 ≤ R.length) = false := by simp; omega
 have d2 : decide ((2097152 : Int) < (q : Int) + (z : Int)) = false := by simp; omega
 have d3 : decide (2097152 < q + z) = false := by simp; omega
 have HB := Lib.hid (And.intro hb1 (Blk.new w 46 (rqCs c n o (.slice Aa na ca) (.slice Ap np cp) (.slice Ac nc cc))))
 have HX := Lib.hid (And.intro h (And.intro hk (And.intro hat (And.intro hm (And.intro hb0 hrs)))))
 have HH := Lib.hid (And.intro hn0 (And.intro hn0w (And.intro hl (And.intro hq (And.intro hz ho)))))
 clear h hk hat hb0 hm hrs hb1 hn0 hn0w hl hq hz hs hsq ho
 go_enter Tryz.func25, Tryz.ntmps25
 go_upto_region 3 with (first
   | (refine wpList_load_row rfl 46 _ rfl w.heap.size rfl 46 (rqCs c n o (.slice Aa na ca) (.slice Ap np cp) (.slice Ac nc cc)) (0, 0) _ HB.out.2 rfl rfl (by kernel_rfl) ?_)
   | (go_at_call 20; (with_reducible refine HM.out.mono ?_); clear HM; rintro e w1 ⟨rfl, hbx⟩; dsimp only; have H1 := Lib.hid (And.intro (HB.out.1.trans (hbx.mono HB.out.1.size)) (HB.out.2.on hbx)); clear hbx))
 obtain ⟨B1, hB1⟩ : ∃ b, b = w.heap.size := ⟨_, rfl⟩
 have HBB := Lib.hid hB1
 clear hB1
 rw [← HBB.out]
 have k1 := HX.out.2.1.on H1.out.1
 have c1 := k1.cell 1
 simp only [List.getElem?_toArray, List.getElem?_cons_zero, List.getElem?_cons_succ] at c1
 have k2 : Blk w1 B1 46 (rqCs c n o (.slice Aa na ca) (.slice Ap np cp) (.slice Ac nc cc)) := by rw [HBB.out]; exact H1.out.2
 obtain ⟨a0, a1, a2, a3, a4, a5, a6, a7, a8⟩ := rq_cells k2
 have hlq := (HX.out.1.on H1.out.1 HH.out.2.1).on (below_drew (Below.refl w1.heap.size w1)) (Nat.le_trans HH.out.2.1 H1.out.1.size)
 have hbq : Below n0 w0 w1.drew := below_drew (HX.out.2.2.2.2.1.trans (H1.out.1.mono HH.out.2.1))
 have HSZ := Lib.hid (rsize_any n0 r B R w0 w1.drew hlq HH.out.1 hbq HH.out.2.2.1)
 rw [← HH.out.2.2.2.1] at HSZ
 have HK := Lib.hid (And.intro k1 k2)
 clear k1 k2 hlq hbq
 go_region_law (first
   | (go_simp; (with_reducible refine HSZ.out.mono ?_); clear HSZ; rintro e w3 ⟨rfl, hb3⟩; dsimp only; have H3 := Lib.hid (And.intro (H1.out.1.trans ((below_of_drew hb3).mono H1.out.1.size)) (HK.out.2.on (below_of_drew hb3))); obtain ⟨a0, a1, a2, a3, a4, a5, a6, a7, a8⟩ := rq_cells H3.out.2; have HRB := Lib.hid (refReqBytes c n o _ _ _ w3 HX.out.2.2.2.1.ok.c HX.out.2.2.2.1.ok.n (HX.out.2.2.1.on H3.out.1) HX.out.2.2.2.1.may); clear hb3)
   | (go_simp; (with_reducible refine HRB.out.mono ?_); clear HRB; rintro e w4 ⟨u, rfl, hrow, hb4⟩; dsimp only; obtain ⟨A4, c4, n4, HN4, rfl⟩ := row_shape hrow; obtain rfl : z = n4 := (by rw [HN4.out, HH.out.2.2.2.2.1]; rfl); have H4 := Lib.hid (And.intro (H3.out.1.trans (hb4.mono H3.out.1.size)) (H3.out.2.on hb4)); clear hb4 hrow HN4))
 all_goals
   clear c1 a0 a1 a2 a3 a4 a5 a6 a7 a8
   go_upto_region 5 with fail
   have k4 := HX.out.2.1.on H4.out.1
   have q4 : Blk w4 B1 46 (rqCs c n o (.slice Aa na ca) (.slice Ap np cp) (.slice Ac nc cc)) := H4.out.2
   have c1 := k4.cell 1
   simp only [List.getElem?_toArray, List.getElem?_cons_zero, List.getElem?_cons_succ] at c1
   obtain ⟨a0, a1, a2, a3, a4, a5, a6, a7, a8⟩ := rq_cells q4
   have c1b := (k4.alloc (.cells (rqCs c n o (.slice Aa na ca) (.slice Ap np cp) (.slice Ac nc cc)) 46)).cell 1
   simp only [List.getElem?_toArray, List.getElem?_cons_zero, List.getElem?_cons_succ] at c1b
   have HRS : Hid (∀ V, Below w.heap.size w V → RdK kRq V V.heap.size A R) := Lib.hid fun V hb => (HX.out.2.2.2.2.2.frT (sp := spA) (T := TN) (FrT.of hb HH.out.2.1) (fun _ => id)).rd
   have HBa : Hid (Below w.heap.size w w4.drew) := Lib.hid (below_drew H4.out.1)
   have HBb : Hid (Below w.heap.size w (w4.alloc (.cells (rqCs c n o (.slice Aa na ca) (.slice Ap np cp) (.slice Ac nc cc)) 46)).drew) := Lib.hid (below_drew (H4.out.1.alloc H4.out.1.size _))
   have HNB : Hid (Blk (w4.alloc (.cells (rqCs c n o (.slice Aa na ca) (.slice Ap np cp) (.slice Ac nc cc)) 46)).drew w4.heap.size 46 (rqCs c n o (.slice Aa na ca) (.slice Ap np cp) (.slice Ac nc cc))) := Lib.hid (Blk.new w4 46 (rqCs c n o (.slice Aa na ca) (.slice Ap np cp) (.slice Ac nc cc)))
   have HL1 : Hid ((([] : List Rq).length + R.length ≤ 1000000000) ∧ (([] ++ R : List Rq).length + ([(⟨c, n, o, Aa, na, ca, Ap, np, cp, Ac, nc, cc⟩ : Rq)] : List Rq).length ≤ 1000000000)) := Lib.hid ⟨by have := HH.out.2.2.1; simp; omega, by have := HH.out.2.2.1; simp; omega⟩
   have HQ4 := Lib.hid (And.intro k4 q4)
   clear k4 q4 H3
   go_region_law (first
     | (refine step_app kRq (w := w4.drew) (base := w.heap.size) (v := .slice none 0 0) (l := []) (A := A) (c := cL) (by rfl) _ _ (by rfl) R (by rfl) (nil_row kRq _ _) (by rfl) (HRS.out _ HBa.out) HA0.out HL1.out.1 HBa.out.size ?_; intro v8 w8 hrow8 hgr8; have H8 := Lib.hid (And.intro hrow8 (HBa.out.trans ((grown_nilQ hgr8).mono HBa.out.size))); have H8b : Hid (Blk w8 B1 46 (rqCs c n o (.slice Aa na ca) (.slice Ap np cp) (.slice Ac nc cc))) := Lib.hid ((Blk.drew HQ4.out.2).on (grown_nilQ hgr8)); obtain ⟨A8, c8, n8, HN8, rfl, _, _⟩ := RowK.rdn hrow8; clear hrow8 hgr8 c1 c1b a0 a1 a2 a3 a4 a5 a6 a7 a8; obtain ⟨a0, a1, a2, a3, a4, a5, a6, a7, a8⟩ := rq_cells H8b.out)
     | (refine step_app kRq (w := (w4.alloc (.cells (rqCs c n o (.slice Aa na ca) (.slice Ap np cp) (.slice Ac nc cc)) 46)).drew) (base := w.heap.size) (v := .slice none 0 0) (l := []) (A := A) (c := cL) (by rfl) _ _ (by rfl) R (by rfl) (nil_row kRq _ _) (by rfl) (HRS.out _ HBb.out) HA0.out HL1.out.1 HBb.out.size ?_; intro v8 w8 hrow8 hgr8; have H8 := Lib.hid (And.intro hrow8 (HBb.out.trans ((grown_nilQ hgr8).mono HBb.out.size))); have H8b : Hid (Blk w8 B1 46 (rqCs c n o (.slice Aa na ca) (.slice Ap np cp) (.slice Ac nc cc))) := Lib.hid ((Blk.drew (HQ4.out.2.alloc (.cells (rqCs c n o (.slice Aa na ca) (.slice Ap np cp) (.slice Ac nc cc)) 46))).on (grown_nilQ hgr8)); have HN8b := Lib.hid (HNB.out.on (grown_nilQ hgr8)); obtain ⟨A8, c8, n8, HN8, rfl, _, _⟩ := RowK.rdn hrow8; clear hrow8 hgr8 c1 c1b a0 a1 a2 a3 a4 a5 a6 a7 a8; obtain ⟨a0, a1, a2, a3, a4, a5, a6, a7, a8⟩ := rq_cells H8b.out)
     | (refine step_app kRq (base := w.heap.size) (v := .slice A8 n8 c8) (l := [] ++ R) (A := some ⟨w8.heap.size, 0, none⟩) (c := 1) (by rfl) _ _ (by rfl) [(⟨c, n, o, Aa, na, ca, Ap, np, cp, Ac, nc, cc⟩ : Rq)] (by rfl) (RowK.alloc H8.out.1 (.cells (rqCs c n o (.slice Aa na ca) (.slice Ap np cp) (.slice Ac nc cc)) 46)) (by rfl) (rd_block (K := kRq) (l := [(⟨c, n, o, Aa, na, ca, Ap, np, cp, Ac, nc, cc⟩ : Rq)]) (Blk.new w8 46 (rqCs c n o (.slice Aa na ca) (.slice Ap np cp) (.slice Ac nc cc))) rfl) (fun e => by cases e) HL1.out.2 (Nat.le_trans H8.out.2.size (by simp)) ?_; intro v9 w9 hrow9 hgr9; have H9 := Lib.hid (And.intro hrow9 ((H8.out.2.alloc H8.out.2.size (.cells (rqCs c n o (.slice Aa na ca) (.slice Ap np cp) (.slice Ac nc cc)) 46)).trans (row_below (RowK.alloc H8.out.1 (.cells (rqCs c n o (.slice Aa na ca) (.slice Ap np cp) (.slice Ac nc cc)) 46)) hgr9 (Nat.le_trans H8.out.2.size (by simp))))); obtain ⟨A9, c9, n9, HN9, rfl, _, _⟩ := RowK.rdn hrow9; have k9 := HX.out.2.1.on H9.out.2; have e9 := k9.cell 1; have g9 := k9.frozen 1; simp only [List.getElem?_toArray, List.getElem?_cons_zero, List.getElem?_cons_succ] at e9; have HK9 := Lib.hid k9; clear k9 hrow9 hgr9 a0 a1 a2 a3 a4 a5 a6 a7 a8)
     | (refine step_app kRq (base := w.heap.size) (v := .slice A8 n8 c8) (l := [] ++ R) (A := some ⟨w4.heap.size, 0, none⟩) (c := 1) (by rfl) _ _ (by rfl) [(⟨c, n, o, Aa, na, ca, Ap, np, cp, Ac, nc, cc⟩ : Rq)] (by rfl) H8.out.1 (by rfl) (rd_block (K := kRq) (l := [(⟨c, n, o, Aa, na, ca, Ap, np, cp, Ac, nc, cc⟩ : Rq)]) HN8b.out rfl) (fun e => by cases e) HL1.out.2 H8.out.2.size ?_; intro v9 w9 hrow9 hgr9; have H9 := Lib.hid (And.intro hrow9 (H8.out.2.trans (row_below H8.out.1 hgr9 H8.out.2.size))); obtain ⟨A9, c9, n9, HN9, rfl, _, _⟩ := RowK.rdn hrow9; have k9 := HX.out.2.1.on H9.out.2; have e9 := k9.cell 1; have g9 := k9.frozen 1; simp only [List.getElem?_toArray, List.getElem?_cons_zero, List.getElem?_cons_succ] at e9; have HK9 := Lib.hid k9; clear k9 hrow9 hgr9 a0 a1 a2 a3 a4 a5 a6 a7 a8))
   all_goals
     have HF := Lib.hid (rapp_fin (c := c) (n := n) (o := o) HX.out.1 HH.out.2.1 HK9.out H9.out.1 H9.out.2 HX.out.2.2.2.1 HH.out.2.2.2.2.2)
     have hk := HF.out.2.2
     have HE := Lib.hid (rend_is r B n9 c9 E A9 _ hk HE0.out.1 (by rw [HN9.out]; have := HE0.out.2.2; simp; omega) (by rw [HN9.out, HE0.out.2.1]; simp))
     clear hk
     generalize w9.setCell ⟨r, 1, none⟩ (.slice A9 n9 c9) = w10 at HF HE ⊢
     go_wp2_with (go_at_call 32; (with_reducible refine HE.out.mono ?_); rintro e w11 ⟨rfl, n11, rfl⟩)
     go_ret2
     exact ⟨(⟨c, n, o, Aa, na, ca, Ap, np, cp, Ac, nc, cc⟩ : Rq), rfl, rfl, HF.out.1.on (below_drewN (Below.refl _ _) _) (Nat.le_trans HH.out.2.1 HF.out.2.1.bel.size), HF.out.2.1.drewN _⟩
end Go.Proofs.YtniaijgejljjbaaGreat.Tlv
