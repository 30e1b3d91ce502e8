/- An operation's bytes, by the document. -/
import Derived.Test.YtniaijgejljjbaaGreatY23
import Derived.Test.YtniaijgejljjbaaGreatY18
namespace Go.Proofs.YtniaijgejljjbaaGreat.Tlv
open Go.RowKit
set_option maxRecDepth 100000
set_option linter.unusedVariables false
set_option linter.unusedSimpArgs false
set_option maxHeartbeats 16000000 in
theorem rbytes4 (o : Opn) (va vp vc : Value) (w : World) (ho : OpAt w o va vp vc) (hm : mayO o = true) (hk : o.k = 4) :
   Calls Tryz.prog 54 #[opVal o va vp vc] w fun e w' => ∃ u, e = .returned u ∧ Row w' w.heap.size u (opB o) ∧ Below w.heap.size w w' := by
 have HM := Lib.hid (mayD hm)
 have HF := Lib.hid (mayD hm).few
 obtain ⟨Aa, ca0, na, rfl, HNo, _⟩ := rdv_len ho.a
 obtain ⟨Ap, cp0, np, rfl, HPo, _⟩ := ho.p.full
 obtain ⟨Ac, cc0, nc, rfl, HCo, HCr⟩ := ho.c.full
 obtain ⟨cv, ca, cc, hcv⟩ := cv_fun2
 have hb0 : Below w.heap.size w (w.alloc (.cells (opCs o (.slice Aa na ca0) (.slice Ap np cp0) (.slice Ac nc cc0)) 44)) := (Below.refl _ _).alloc (Nat.le_refl _) _
 have k0 := Blk.new w 44 (opCs o (.slice Aa na ca0) (.slice Ap np cp0) (.slice Ac nc cc0))
 obtain ⟨Bx, hBx⟩ : ∃ b, b = w.heap.size := ⟨_, rfl⟩
 have h0 := And.intro hb0 (And.intro (show Blk _ Bx 44 _ from hBx ▸ k0) (ho.on hb0))
 have HK := Lib.hid hk
 clear hb0 k0 ho hm hk
 go_enter Tryz.func54, Tryz.ntmps54
 go_upto_region 1 with fail
 rw [← hBx]
 generalize w.alloc (.cells (opCs o (.slice Aa na ca0) (.slice Ap np cp0) (.slice Ac nc cc0)) 44) = W0 at h0 ⊢
 clear hBx
 have HS : Hid (∀ W, Below W0.heap.size W0 W → OpAt W o (.slice Aa na ca0) (.slice Ap np cp0) (.slice Ac nc cc0) ∧ Blk W Bx 44 (opCs o (.slice Aa na ca0) (.slice Ap np cp0) (.slice Ac nc cc0))) := Lib.hid fun W hb => ⟨h0.2.2.on hb, h0.2.1.on hb⟩
 have H0 := Lib.hid h0.1
 have x0 : W0.cell? ⟨Bx, 0, none⟩ = some (.int .i64 4) := by rw [← HK.out]; exact h0.2.1.cell 0
 obtain ⟨q1, hq1⟩ : ∃ q, q = numB 1 4 := ⟨_, rfl⟩
 have HN := Lib.hid (num_out2 1 4 q1 W0 (by decide) (by decide) hq1)
 have hl1 : q1.length ≤ 100 := by rw [hq1]; exact num_len
 have HQ1 := Lib.hid (And.intro hq1 hl1)
 have hwr : IntKind.u64.wrap 4 = 4 := by decide
 clear h0 hq1 hl1
 go_upto_region 11 with (go_at_call 52; (with_reducible refine HN.out.mono ?_); clear HN x0; rintro e w1 ⟨A1, c1, rfl, hr1, hb1⟩; dsimp only; have H1 := Lib.hid (And.intro hr1 hb1); clear hr1 hb1; have x0 : w1.cell? ⟨Bx, 0, none⟩ = some (.int .i64 4) := by rw [← HK.out]; exact (HS.out _ H1.out.2).2.cell 0)
 clear x0
 have hb9 : Below w1.heap.size w1 w1.drew := below_drew (Below.refl _ _)
 obtain ⟨q2, hq2⟩ : ∃ q, q = txtB 2 o.name := ⟨_, rfl⟩
 have hl2 : q2.length ≤ 1100 := by rw [hq2]; exact txt_len HM.out.nm
 obtain ⟨q3, hq3⟩ : ∃ q, q = txtB 3 o.dst := ⟨_, rfl⟩
 have hl3 : q3.length ≤ 200000 := by rw [hq3]; exact Nat.le_trans (txt_len HM.out.ds) (by decide)
 have HOP : Hid (q1 ++ q2 ++ q3 = opB o) := Lib.hid (by rw [HQ1.out.1, hq2, hq3]; unfold opB; rw [HK.out]; simp [fA, fT, fN, fP])
 have HL := Lib.hid (And.intro hl2 (And.intro hl3 HQ1.out.2))
 have HQ3 := Lib.hid hq3
 have hbd : Below W0.heap.size W0 w1.drew := H1.out.2.trans (hb9.mono H1.out.2.size)
 have HX : Hid (∀ W, Below w1.heap.size w1 W → W.cell? ⟨Bx, 1, none⟩ = some (.string (sx o.name)) ∧ W.cell? ⟨Bx, 2, none⟩ = some (.string (sx o.dst))) := Lib.hid fun W hb => by
   have h := (HS.out W (H1.out.2.trans (hb.mono H1.out.2.size))).2
   exact ⟨h.cell 1, h.cell 2⟩
 have x1 := (HX.out _ hb9).1
 have x3 := (HX.out _ hb9).2
 have HSM := Lib.hid (And.intro (show (bytesOf (sx o.name)).length ≤ 4194304 by rw [bytes_sx]; have := HM.out.nm; omega) (show (bytesOf (sx o.dst)).length ≤ 4194304 by rw [bytes_sx]; have := HM.out.ds; omega))
 have hcT : ∀ W, (convert 9 42 (.string (sx o.name))).run Tryz.prog W = .ok (.slice (some (ca W (sx o.name))) (bytesOf (sx o.name)).length (cc W (sx o.name))) (cv W (sx o.name)) := fun W => (hcv W _).1
 have hcV : ∀ W, (convert 9 42 (.string (sx o.dst))).run Tryz.prog W = .ok (.slice (some (ca W (sx o.dst))) (bytesOf (sx o.dst)).length (cc W (sx o.dst))) (cv W (sx o.dst)) := fun W => (hcv W _).1
 have HCT := Lib.hid fun W => (hcv W (sx o.name)).2.1
 have HCV := Lib.hid fun W => (hcv W (sx o.dst)).2.1
 have HAD : Hid (∀ W, Below w1.heap.size w1 W → w1.heap.size ≤ (ca W (sx o.dst)).block) := Lib.hid fun W hb => by rw [(hcv W (sx o.dst)).2.2]; exact hb.size
 have HOWN : Hid (∀ k, (Value.slice A1 q1.length c1).ownBlock = some k → k < w1.heap.size) := Lib.hid fun k e => (own_atT H1.out.1.1 e).2.1
 clear hcv
 have HX0 : Hid (∀ W, Below W0.heap.size W0 W → W.cell? ⟨Bx, 2, none⟩ = some (.string (sx o.dst))) := Lib.hid fun W hb => (HS.out W hb).2.cell 2
 replace hq2 : q2 = valB 2 (bytesOf (sx o.name)) := hq2
 replace hq3 : q3 = valB 3 (bytesOf (sx o.dst)) := hq3
 generalize sx o.name = sT at *
 generalize sx o.dst = sV at *
 obtain ⟨bt, hbt⟩ : ∃ bt, bt = bytesOf sT := ⟨_, rfl⟩
 obtain ⟨bv, hbv⟩ : ∃ bv, bv = bytesOf sV := ⟨_, rfl⟩
 rw [← hbt] at hcT HCT HSM hq2
 rw [← hbv] at hcV HCV HSM hq3
 have HQ2 := Lib.hid hq2
 have HQ3' := Lib.hid hq3
 have HZ := Lib.hid H1.out.2.size
 have bT := hb9.trans ((HCT.out w1.drew).2.mono hb9.size)
 have bV := hb9.trans ((HCV.out w1.drew).2.mono hb9.size)
 have bTV := bT.trans ((HCV.out (cv w1.drew sT)).2.mono bT.size)
 have bVT := bV.trans ((HCT.out (cv w1.drew sV)).2.mono bV.size)
 have y3 := (HX.out _ bT).2
 have y1 := (HX.out _ bV).1
 have HV1 : Hid (∀ W A c, Rd W W.heap.size (some A) bt → Calls Tryz.prog 53 #[.int .u8 2, .slice (some A) bt.length c] W fun e w' => ∃ A' c', e = .returned (.slice A' q2.length c') ∧ Rows2 w' W.heap.size A' c' q2 ∧ Below W.heap.size W w') := Lib.hid fun W A c h => val_out 2 bt q2 _ c W h (fun h => by cases h) HSM.out.1 HQ2.out
 have HV2 : Hid (∀ W A c, Rd W W.heap.size (some A) bv → Calls Tryz.prog 53 #[.int .u8 3, .slice (some A) bv.length c] W fun e w' => ∃ A' c', e = .returned (.slice A' q3.length c') ∧ Rows2 w' W.heap.size A' c' q3 ∧ Below W.heap.size W w') := Lib.hid fun W A c h => val_out 3 bv q3 _ c W h (fun h => by cases h) HSM.out.2 HQ3'.out
 have Ha := Lib.hid (HV1.out (cv w1.drew sT) _ (cc w1.drew sT) (HCT.out w1.drew).1)
 have Hb := Lib.hid (HV1.out (cv (cv w1.drew sT) sV) _ (cc w1.drew sT) ((HCT.out w1.drew).1.on (HCV.out (cv w1.drew sT)).2))
 have Hc := Lib.hid (HV1.out (cv (cv w1.drew sV) sT) _ (cc (cv w1.drew sV) sT) (HCT.out (cv w1.drew sV)).1)
 have HRb := Lib.hid (HCV.out (cv w1.drew sT)).1
 have HRc := Lib.hid ((HCV.out w1.drew).1.on (HCT.out (cv w1.drew sV)).2)
 have HB9 := Lib.hid hb9
 have HBW := Lib.hid (And.intro bT (And.intro bTV bVT))
 clear hq2 hq3 hl2 hl3 hb9 hbd bT bV bTV bVT hbt hbv HQ3
 go_region_law (first
   | (go_simp; (with_reducible refine Ha.out.mono ?_); clear Ha Hb Hc HRb HRc y1 y3; rintro e w2 ⟨A2, c2, rfl, hr2, hb2⟩; dsimp only; have hB2 := HBW.out.1.trans (hb2.mono HBW.out.1.size); have H2 := Lib.hid (And.intro hr2 hB2); have z3 := (HX.out _ hB2).2; have hrow1 := row_k.2 (Row.below (row_k.1 H1.out.1.1) hB2); have hcw := (HCV.out w2).2; have hrow1' := row_k.2 (Row.below (row_k.1 hrow1) hcw); have H2' := Lib.hid (And.intro (hr2.on hcw) hcw); have hl4 : q1.length + q2.length ≤ 1000000000 := (by have h1 := HL.out.1; have h2 := HL.out.2.2; omega); have hz2 := Nat.le_trans HZ.out hB2.size; have hz2' := Nat.le_trans hz2 hcw.size; have HLATE : Hid (∀ w3, w2.grownBy w3 (Value.slice A1 q1.length c1).ownBlock → Calls Tryz.prog 53 #[.int .u8 3, .slice (some (ca w3 sV)) bv.length (cc w3 sV)] (cv w3 sV) fun e w' => ∃ A' c', e = .returned (.slice A' q3.length c') ∧ Rows2 w' (cv w3 sV).heap.size A' c' q3 ∧ Below (cv w3 sV).heap.size (cv w3 sV) w') := Lib.hid fun w3 _ => HV2.out _ _ _ (HCV.out w3).1; clear hr2 hb2 hB2 hcw)
   | (go_simp; (with_reducible refine Hb.out.mono ?_); clear Ha Hb Hc HRc y1 y3; rintro e w2 ⟨A2, c2, rfl, hr2, hb2⟩; dsimp only; have hB2 := HBW.out.2.1.trans (hb2.mono HBW.out.2.1.size); have H2 := Lib.hid (And.intro hr2 hB2); have hrow1 := row_k.2 (Row.below (row_k.1 H1.out.1.1) hB2); have hl4 : q1.length + q2.length ≤ 1000000000 := (by have h1 := HL.out.1; have h2 := HL.out.2.2; omega); have hz2 := Nat.le_trans HZ.out hB2.size; have hRd2 := Lib.hid (HRb.out.on hb2); have HLATE : Hid (∀ w3, w2.grownBy w3 (Value.slice A1 q1.length c1).ownBlock → Calls Tryz.prog 53 #[.int .u8 3, .slice (some (ca (cv w1.drew sT) sV)) bv.length (cc (cv w1.drew sT) sV)] w3 fun e w' => ∃ A' c', e = .returned (.slice A' q3.length c') ∧ Rows2 w' w3.heap.size A' c' q3 ∧ Below w3.heap.size w3 w') := Lib.hid fun w3 hg => HV2.out _ _ _ (rd_apart hRd2.out hg fun k e => by have h1 := HOWN.out k e; have h2 := HAD.out _ HBW.out.1; omega); clear hr2 hb2 hB2 HRb)
   | (go_simp; (with_reducible refine Hc.out.mono ?_); clear Ha Hb Hc HRb y1 y3; rintro e w2 ⟨A2, c2, rfl, hr2, hb2⟩; dsimp only; have hB2 := HBW.out.2.2.trans (hb2.mono HBW.out.2.2.size); have H2 := Lib.hid (And.intro hr2 hB2); have hrow1 := row_k.2 (Row.below (row_k.1 H1.out.1.1) hB2); have hl4 : q1.length + q2.length ≤ 1000000000 := (by have h1 := HL.out.1; have h2 := HL.out.2.2; omega); have hz2 := Nat.le_trans HZ.out hB2.size; have hRd2 := Lib.hid (HRc.out.on hb2); have HLATE : Hid (∀ w3, w2.grownBy w3 (Value.slice A1 q1.length c1).ownBlock → Calls Tryz.prog 53 #[.int .u8 3, .slice (some (ca w1.drew sV)) bv.length (cc w1.drew sV)] w3 fun e w' => ∃ A' c', e = .returned (.slice A' q3.length c') ∧ Rows2 w' w3.heap.size A' c' q3 ∧ Below w3.heap.size w3 w') := Lib.hid fun w3 hg => HV2.out _ _ _ (rd_apart hRd2.out hg fun k e => by have h1 := HOWN.out k e; have h2 := HAD.out _ HB9.out; omega); clear hr2 hb2 hB2 HRc)
   | (refine step_app kB (w := w2) (by rfl) _ _ (by rfl) q2 (by rfl) hrow1 (by rfl) (rd_k H2.out.1.2.1) H2.out.1.2.2 hl4 hz2 ?_; intro v3 w3 hrow3 hgr3; have hb3 := row_below hrow1 hgr3 hz2; obtain ⟨A3, c3, n3, HN3, rfl, _, _⟩ := hrow3.rdn; have hb13 : Below W0.heap.size W0 w3 := (H1.out.2.trans (H2.out.2.mono HZ.out)).trans hb3; have z4 : w3.cell? ⟨Bx, 2, none⟩ = some (.string sV) := HX0.out _ hb13; have HV := Lib.hid (HLATE.out w3 hgr3); have HROW := Lib.hid (And.intro hrow3 hb13); clear hrow3 hgr3 hb3 hb13 HLATE)
   | (refine step_app kB (w := cv w2 sV) (by rfl) _ _ (by rfl) q2 (by rfl) hrow1' (by rfl) (rd_k H2'.out.1.2.1) H2'.out.1.2.2 hl4 hz2' ?_; intro v3 w3 hrow3 hgr3; have hb3 := row_below hrow1' hgr3 hz2'; obtain ⟨A3, c3, n3, HN3, rfl, _, _⟩ := hrow3.rdn; have hb13 : Below W0.heap.size W0 w3 := (H1.out.2.trans ((H2.out.2.trans (H2'.out.2.mono H2.out.2.size)).mono HZ.out)).trans hb3; have HV := Lib.hid (HV2.out w3 _ (cc w2 sV) (rd_apart (HCV.out w2).1 hgr3 fun k e => by have h1 := HOWN.out k e; have h2 := HAD.out _ H2.out.2; omega)); have HROW := Lib.hid (And.intro hrow3 hb13); clear hrow3 hgr3 hb3 hb13 HLATE)
   | (go_simp; (with_reducible refine HV.out.mono ?_); clear HV; rintro e w4 ⟨A4, c4, rfl, hr4, hb4⟩; dsimp only; have hB34 : Below w3.heap.size w3 w4 := (by first | exact hb4 | exact (HCV.out w3).2.trans (hb4.mono (HCV.out w3).2.size)); have H4 := Lib.hid (And.intro hr4 hB34); have hrow4 := row_k.2 (Row.below (row_k.1 HROW.out.1) hB34); have hl5 : (q1 ++ q2).length + q3.length ≤ 1000000000 := (by have h1 := HL.out.1; have h2 := HL.out.2.2; have h3 := HL.out.2.1; rw [List.length_append]; omega); have hz4 : W0.heap.size ≤ w4.heap.size := Nat.le_trans HROW.out.2.size hB34.size; have HB13 := Lib.hid HROW.out.2; clear hr4 hb4 hB34)
   | (refine step_app kB (w := w4) (by rfl) _ _ (by rfl) q3 (by rfl) hrow4 (by rfl) (rd_k H4.out.1.2.1) H4.out.1.2.2 hl5 hz4 ?_; intro v5 w5 hrow5 hgr5))
 all_goals
   have hb5 := row_below hrow4 hgr5 hz4
   have HE := Lib.hid (And.intro (row_k.1 hrow5) ((HB13.out.trans (H4.out.2.mono HB13.out.size)).trans hb5))
   clear hrow5 hgr5 hb5 hrow4
   go_wp2
   go_ret
   refine ⟨_, rfl, by rw [← HOP.out]; exact HE.out.1.lowR H0.out.size, H0.out.trans (HE.out.2.mono H0.out.size)⟩
end Go.Proofs.YtniaijgejljjbaaGreat.Tlv
