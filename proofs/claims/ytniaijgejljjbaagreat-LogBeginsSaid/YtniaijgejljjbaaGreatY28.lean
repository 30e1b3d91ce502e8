/- An operation's bytes, by the document. -/
import Derived.Test.YtniaijgejljjbaaGreatY23
import Derived.Test.YtniaijgejljjbaaGreatY18
namespace Go.Proofs.YtniaijgejljjbaaGreat.Tlv
open Go.RowKit
set_option maxRecDepth 100000
set_option linter.unusedVariables false
set_option linter.unusedSimpArgs false
set_option maxHeartbeats 16000000 in
theorem rbytes1 (o : Opn) (va vp vc : Value) (w : World) (ho : OpAt w o va vp vc) (hm : mayO o = true) (hk : o.k = 1) :
   Calls Tryz.prog 54 #[opVal o va vp vc] w fun e w' => ∃ u, e = .returned u ∧ Row w' w.heap.size u (opB o) ∧ Below w.heap.size w w' := by
 have HM := Lib.hid (mayD hm)
 have HF := Lib.hid (mayD hm).few
 obtain ⟨Aa, ca0, na, rfl, HNo, _⟩ := rdv_len ho.a
 obtain ⟨Ap, cp0, np, rfl, HPo, _⟩ := ho.p.full
 obtain ⟨Ac, cc0, nc, rfl, HCo, HCr⟩ := ho.c.full
 obtain ⟨cv, ca, cc, hcv⟩ := cv_fun
 have hb0 : Below w.heap.size w (w.alloc (.cells (opCs o (.slice Aa na ca0) (.slice Ap np cp0) (.slice Ac nc cc0)) 44)) := (Below.refl _ _).alloc (Nat.le_refl _) _
 have k0 := Blk.new w 44 (opCs o (.slice Aa na ca0) (.slice Ap np cp0) (.slice Ac nc cc0))
 obtain ⟨Bx, hBx⟩ : ∃ b, b = w.heap.size := ⟨_, rfl⟩
 have h0 := And.intro hb0 (And.intro (show Blk _ Bx 44 _ from hBx ▸ k0) (ho.on hb0))
 have HK := Lib.hid hk
 clear hb0 k0 ho hm hk
 go_enter Tryz.func54, Tryz.ntmps54
 go_upto_region 1 with fail
 rw [← hBx]
 generalize w.alloc (.cells (opCs o (.slice Aa na ca0) (.slice Ap np cp0) (.slice Ac nc cc0)) 44) = W0 at h0 ⊢
 clear hBx
 have HS : Hid (∀ W, Below W0.heap.size W0 W → OpAt W o (.slice Aa na ca0) (.slice Ap np cp0) (.slice Ac nc cc0) ∧ Blk W Bx 44 (opCs o (.slice Aa na ca0) (.slice Ap np cp0) (.slice Ac nc cc0))) := Lib.hid fun W hb => ⟨h0.2.2.on hb, h0.2.1.on hb⟩
 have H0 := Lib.hid h0.1
 have x0 : W0.cell? ⟨Bx, 0, none⟩ = some (.int .i64 1) := by rw [← HK.out]; exact h0.2.1.cell 0
 obtain ⟨q1, hq1⟩ : ∃ q, q = numB 1 1 := ⟨_, rfl⟩
 have HN := Lib.hid (num_out2 1 1 q1 W0 (by decide) (by decide) hq1)
 have hl1 : q1.length ≤ 100 := by rw [hq1]; exact num_len
 have HQ1 := Lib.hid (And.intro hq1 hl1)
 have hwr : IntKind.u64.wrap 1 = 1 := by decide
 clear h0 hq1 hl1
 go_upto_region 6 with (go_at_call 52; (with_reducible refine HN.out.mono ?_); clear HN x0; rintro e w1 ⟨A1, c1, rfl, hr1, hb1⟩; dsimp only; have H1 := Lib.hid (And.intro hr1 hb1); clear hr1 hb1; have x0 : w1.cell? ⟨Bx, 0, none⟩ = some (.int .i64 1) := by rw [← HK.out]; exact (HS.out _ H1.out.2).2.cell 0)
 clear x0
 have hb9 : Below w1.heap.size w1 w1.drew := below_drew (Below.refl _ _)
 obtain ⟨q2, hq2⟩ : ∃ q, q = txtB 2 o.name := ⟨_, rfl⟩
 have hl2 : q2.length ≤ 1100 := by rw [hq2]; exact txt_len HM.out.nm
 obtain ⟨q3, hq3⟩ : ∃ q, q = valB 4 (atsB o.attrs) := ⟨_, rfl⟩
 have hl3 : q3.length ≤ 200000 := by rw [hq3]; exact Nat.le_trans (attr_len HF.out) (by decide)
 have HOP : Hid (q1 ++ q2 ++ q3 = opB o) := Lib.hid (by rw [HQ1.out.1, hq2, hq3]; unfold opB; rw [HK.out]; simp [fA, fT, fN, fP])
 have HL := Lib.hid (And.intro hl2 (And.intro hl3 HQ1.out.2))
 have HQ3 := Lib.hid hq3
 have hbd : Below W0.heap.size W0 w1.drew := H1.out.2.trans (hb9.mono H1.out.2.size)
 have HX : Hid (∀ W, Below w1.heap.size w1 W → W.cell? ⟨Bx, 1, none⟩ = some (.string (sx o.name)) ∧ W.cell? ⟨Bx, 3, none⟩ = some (.slice Aa na ca0)) := Lib.hid fun W hb => by
   have h := (HS.out W (H1.out.2.trans (hb.mono H1.out.2.size))).2
   exact ⟨h.cell 1, h.cell 3⟩
 have x1 := (HX.out _ hb9).1
 have x3 := (HX.out _ hb9).2
 have HSM := Lib.hid (And.intro (show (bytesOf (sx o.name)).length ≤ 4194304 by rw [bytes_sx]; have := HM.out.nm; omega) (show (bytesOf (sx o.dst)).length ≤ 4194304 by rw [bytes_sx]; have := HM.out.ds; omega))
 have hcT := (hcv w1.drew (sx o.name)).1
 have HC := Lib.hid (hcv w1.drew (sx o.name)).2
 have bC := hb9.trans (HC.out.2.mono hb9.size)
 have y3 := (HX.out _ bC).2
 have HV := Lib.hid (val_out 2 (bytesOf (sx o.name)) q2 _ (cc w1.drew (sx o.name)) _ HC.out.1 (fun h => by cases h) HSM.out.1 hq2)
 have HBC := Lib.hid bC
 have HZ := Lib.hid H1.out.2.size
 have HA80 : Hid (∀ W, Below w1.heap.size w1 W → Calls Tryz.prog 71 #[.int .u8 4, .slice Aa na ca0] W fun e w' => ∃ A' c', e = .returned (.slice A' q3.length c') ∧ Rows2 w' W.heap.size A' c' q3 ∧ Below W.heap.size W w') := Lib.hid fun W hb => ats_out 4 o.attrs q3 _ W (HS.out W (H1.out.2.trans (hb.mono H1.out.2.size))).1.a HF.out HQ3.out
 clear hq2 hq3 hl2 hl3 hb9 hbd bC
 go_region_law (first
   | (go_simp; (with_reducible refine HV.out.mono ?_); clear HV; rintro e w2 ⟨A2, c2, rfl, hr2, hb2⟩; dsimp only; have hB2 := HBC.out.trans (hb2.mono HBC.out.size); have H2 := Lib.hid (And.intro hr2 hB2); have z3 := (HX.out _ hB2).2; have hrow1 := row_k.2 (Row.below (row_k.1 H1.out.1.1) hB2); have hl4 : q1.length + q2.length ≤ 1000000000 := (by have h1 := HL.out.1; have h2 := HL.out.2.2; omega); have hz2 := Nat.le_trans HZ.out hB2.size; clear hr2 hb2 hB2)
   | (refine step_app kB (w := w2) (by rfl) _ _ (by rfl) q2 (by rfl) hrow1 (by rfl) (rd_k H2.out.1.2.1) H2.out.1.2.2 hl4 hz2 ?_; intro v3 w3 hrow3 hgr3; have hb3 := row_below hrow1 hgr3 hz2; obtain ⟨A3, c3, n3, HN3, rfl, _, _⟩ := hrow3.rdn; have H3 := Lib.hid (And.intro hrow3 hb3); have hb13 : Below W0.heap.size W0 w3 := (H1.out.2.trans (H2.out.2.mono HZ.out)).trans hb3; have z4 : w3.cell? ⟨Bx, 3, none⟩ = some (.slice Aa na ca0) := (HS.out _ hb13).2.cell 3; have HA := Lib.hid (ats_out 4 o.attrs q3 _ w3 (HS.out _ hb13).1.a HF.out HQ3.out); have HB13 := Lib.hid hb13; clear hrow3 hgr3 hb3 hb13)
   | (go_simp; (with_reducible refine HA.out.mono ?_); clear HA; rintro e w4 ⟨A4, c4, rfl, hr4, hb4⟩; dsimp only; have H4 := Lib.hid (And.intro hr4 hb4); have hrow4 := row_k.2 (Row.below (row_k.1 H3.out.1) hb4); have hl5 : (q1 ++ q2).length + q3.length ≤ 1000000000 := (by have h1 := HL.out.1; have h2 := HL.out.2.2; have h3 := HL.out.2.1; rw [List.length_append]; omega); have hz4 : W0.heap.size ≤ w4.heap.size := Nat.le_trans HB13.out.size hb4.size; clear hr4 hb4)
   | (refine step_app kB (w := w4) (by rfl) _ _ (by rfl) q3 (by rfl) hrow4 (by rfl) (rd_k H4.out.1.2.1) H4.out.1.2.2 hl5 hz4 ?_; intro v5 w5 hrow5 hgr5))
 all_goals
   have hb5 := row_below hrow4 hgr5 hz4
   have HE := Lib.hid (And.intro (row_k.1 hrow5) ((HB13.out.trans (H4.out.2.mono HB13.out.size)).trans hb5))
   clear hrow5 hgr5 hb5 hrow4
   go_wp2
   go_ret
   refine ⟨_, rfl, by rw [← HOP.out]; exact HE.out.1.lowR H0.out.size, H0.out.trans (HE.out.2.mono H0.out.size)⟩
set_option maxHeartbeats 16000000 in
theorem rbytes2 (o : Opn) (va vp vc : Value) (w : World) (ho : OpAt w o va vp vc) (hm : mayO o = true) (hk : o.k = 2) :
   Calls Tryz.prog 54 #[opVal o va vp vc] w fun e w' => ∃ u, e = .returned u ∧ Row w' w.heap.size u (opB o) ∧ Below w.heap.size w w' := by
 have HM := Lib.hid (mayD hm)
 have HF := Lib.hid (mayD hm).few
 obtain ⟨Aa, ca0, na, rfl, HNo, _⟩ := rdv_len ho.a
 obtain ⟨Ap, cp0, np, rfl, HPo, _⟩ := ho.p.full
 obtain ⟨Ac, cc0, nc, rfl, HCo, HCr⟩ := ho.c.full
 obtain ⟨cv, ca, cc, hcv⟩ := cv_fun
 have hb0 : Below w.heap.size w (w.alloc (.cells (opCs o (.slice Aa na ca0) (.slice Ap np cp0) (.slice Ac nc cc0)) 44)) := (Below.refl _ _).alloc (Nat.le_refl _) _
 have k0 := Blk.new w 44 (opCs o (.slice Aa na ca0) (.slice Ap np cp0) (.slice Ac nc cc0))
 obtain ⟨Bx, hBx⟩ : ∃ b, b = w.heap.size := ⟨_, rfl⟩
 have h0 := And.intro hb0 (And.intro (show Blk _ Bx 44 _ from hBx ▸ k0) (ho.on hb0))
 have HK := Lib.hid hk
 clear hb0 k0 ho hm hk
 go_enter Tryz.func54, Tryz.ntmps54
 go_upto_region 1 with fail
 rw [← hBx]
 generalize w.alloc (.cells (opCs o (.slice Aa na ca0) (.slice Ap np cp0) (.slice Ac nc cc0)) 44) = W0 at h0 ⊢
 clear hBx
 have HS : Hid (∀ W, Below W0.heap.size W0 W → OpAt W o (.slice Aa na ca0) (.slice Ap np cp0) (.slice Ac nc cc0) ∧ Blk W Bx 44 (opCs o (.slice Aa na ca0) (.slice Ap np cp0) (.slice Ac nc cc0))) := Lib.hid fun W hb => ⟨h0.2.2.on hb, h0.2.1.on hb⟩
 have H0 := Lib.hid h0.1
 have x0 : W0.cell? ⟨Bx, 0, none⟩ = some (.int .i64 2) := by rw [← HK.out]; exact h0.2.1.cell 0
 obtain ⟨q1, hq1⟩ : ∃ q, q = numB 1 2 := ⟨_, rfl⟩
 have HN := Lib.hid (num_out2 1 2 q1 W0 (by decide) (by decide) hq1)
 have hl1 : q1.length ≤ 100 := by rw [hq1]; exact num_len
 have HQ1 := Lib.hid (And.intro hq1 hl1)
 have hwr : IntKind.u64.wrap 2 = 2 := by decide
 clear h0 hq1 hl1
 go_upto_region 9 with (go_at_call 52; (with_reducible refine HN.out.mono ?_); clear HN x0; rintro e w1 ⟨A1, c1, rfl, hr1, hb1⟩; dsimp only; have H1 := Lib.hid (And.intro hr1 hb1); clear hr1 hb1; have x0 : w1.cell? ⟨Bx, 0, none⟩ = some (.int .i64 2) := by rw [← HK.out]; exact (HS.out _ H1.out.2).2.cell 0)
 clear x0
 have x1 : w1.cell? ⟨Bx, 1, none⟩ = some (.string (sx o.name)) := (HS.out _ H1.out.2).2.cell 1
 obtain ⟨q2, hq2⟩ : ∃ q, q = txtB 2 o.name := ⟨_, rfl⟩
 have hl2 : q2.length ≤ 1100 := by rw [hq2]; exact txt_len HM.out.nm
 have HOP : Hid (q1 ++ q2 = opB o) := Lib.hid (by rw [HQ1.out.1, hq2]; unfold opB; rw [HK.out]; simp [fA, fT, fN, fP])
 have HC := Lib.hid (hcv w1 (sx o.name))
 have hcT := (hcv w1 (sx o.name)).1
 have HV := Lib.hid (val_out 2 (bytesOf (sx o.name)) q2 _ (cc w1 (sx o.name)) _ HC.out.2.1 (fun h => by cases h) (by rw [bytes_sx]; have := HM.out.nm; omega) hq2)
 have HL := Lib.hid hl2
 clear hq2 hl2
 go_wp2_with (first
   | (go_at_call 53; (with_reducible refine HV.out.mono ?_); clear HV hcT x1; rintro e w2 ⟨A2, c2, rfl, hr2, hb2⟩; dsimp only; have H2 := Lib.hid (And.intro hr2 (HC.out.2.2.trans (hb2.mono HC.out.2.2.size))); clear hr2 hb2)
   | (at_builtin; refine wpList_appK kB rfl _ _ rfl q2 rfl (row_k.2 (Row.below (row_k.1 H1.out.1.1) H2.out.2)) rfl (rd_k H2.out.1.2.1) H2.out.1.2.2 (by have h1 := HL.out; have h2 := HQ1.out.2; omega) (Nat.le_trans H1.out.2.size H2.out.2.size) ?_; intro v8 w8 hrow8 hgr8; have H8 := Lib.hid (And.intro hrow8 (row_below (row_k.2 (Row.below (row_k.1 H1.out.1.1) H2.out.2)) hgr8 (Nat.le_trans H1.out.2.size H2.out.2.size))); clear hrow8 hgr8))
 go_ret
 refine ⟨_, rfl, by rw [← HOP.out]; exact (row_k.1 H8.out.1).lowR H0.out.size, H0.out.trans (((H1.out.2.trans (H2.out.2.mono H1.out.2.size)).trans H8.out.2).mono H0.out.size)⟩
set_option maxHeartbeats 16000000 in
theorem rbytes3 (o : Opn) (va vp vc : Value) (w : World) (ho : OpAt w o va vp vc) (hm : mayO o = true) (hk : o.k = 3) :
   Calls Tryz.prog 54 #[opVal o va vp vc] w fun e w' => ∃ u, e = .returned u ∧ Row w' w.heap.size u (opB o) ∧ Below w.heap.size w w' := by
 have HM := Lib.hid (mayD hm)
 have HF := Lib.hid (mayD hm).few
 obtain ⟨Aa, ca0, na, rfl, HNo, _⟩ := rdv_len ho.a
 obtain ⟨Ap, cp0, np, rfl, HPo, _⟩ := ho.p.full
 obtain ⟨Ac, cc0, nc, rfl, HCo, HCr⟩ := ho.c.full
 obtain ⟨cv, ca, cc, hcv⟩ := cv_fun
 have hb0 : Below w.heap.size w (w.alloc (.cells (opCs o (.slice Aa na ca0) (.slice Ap np cp0) (.slice Ac nc cc0)) 44)) := (Below.refl _ _).alloc (Nat.le_refl _) _
 have k0 := Blk.new w 44 (opCs o (.slice Aa na ca0) (.slice Ap np cp0) (.slice Ac nc cc0))
 obtain ⟨Bx, hBx⟩ : ∃ b, b = w.heap.size := ⟨_, rfl⟩
 have h0 := And.intro hb0 (And.intro (show Blk _ Bx 44 _ from hBx ▸ k0) (ho.on hb0))
 have HK := Lib.hid hk
 clear hb0 k0 ho hm hk
 go_enter Tryz.func54, Tryz.ntmps54
 go_upto_region 1 with fail
 rw [← hBx]
 generalize w.alloc (.cells (opCs o (.slice Aa na ca0) (.slice Ap np cp0) (.slice Ac nc cc0)) 44) = W0 at h0 ⊢
 clear hBx
 have HS : Hid (∀ W, Below W0.heap.size W0 W → OpAt W o (.slice Aa na ca0) (.slice Ap np cp0) (.slice Ac nc cc0) ∧ Blk W Bx 44 (opCs o (.slice Aa na ca0) (.slice Ap np cp0) (.slice Ac nc cc0))) := Lib.hid fun W hb => ⟨h0.2.2.on hb, h0.2.1.on hb⟩
 have H0 := Lib.hid h0.1
 have x0 : W0.cell? ⟨Bx, 0, none⟩ = some (.int .i64 3) := by rw [← HK.out]; exact h0.2.1.cell 0
 obtain ⟨q1, hq1⟩ : ∃ q, q = numB 1 3 := ⟨_, rfl⟩
 have HN := Lib.hid (num_out2 1 3 q1 W0 (by decide) (by decide) hq1)
 have hl1 : q1.length ≤ 100 := by rw [hq1]; exact num_len
 have HQ1 := Lib.hid (And.intro hq1 hl1)
 have hwr : IntKind.u64.wrap 3 = 3 := by decide
 clear h0 hq1 hl1
 go_upto_region 6 with (go_at_call 52; (with_reducible refine HN.out.mono ?_); clear HN x0; rintro e w1 ⟨A1, c1, rfl, hr1, hb1⟩; dsimp only; have H1 := Lib.hid (And.intro hr1 hb1); clear hr1 hb1; have x0 : w1.cell? ⟨Bx, 0, none⟩ = some (.int .i64 3) := by rw [← HK.out]; exact (HS.out _ H1.out.2).2.cell 0)
 clear x0
 have hb9 : Below w1.heap.size w1 w1.drew := below_drew (Below.refl _ _)
 obtain ⟨q2, hq2⟩ : ∃ q, q = txtB 2 o.name := ⟨_, rfl⟩
 have hl2 : q2.length ≤ 1100 := by rw [hq2]; exact txt_len HM.out.nm
 obtain ⟨q3, hq3⟩ : ∃ q, q = valB 4 (atsB o.attrs) := ⟨_, rfl⟩
 have hl3 : q3.length ≤ 200000 := by rw [hq3]; exact Nat.le_trans (attr_len HF.out) (by decide)
 have HOP : Hid (q1 ++ q2 ++ q3 = opB o) := Lib.hid (by rw [HQ1.out.1, hq2, hq3]; unfold opB; rw [HK.out]; simp [fA, fT, fN, fP])
 have HL := Lib.hid (And.intro hl2 (And.intro hl3 HQ1.out.2))
 have HQ3 := Lib.hid hq3
 have hbd : Below W0.heap.size W0 w1.drew := H1.out.2.trans (hb9.mono H1.out.2.size)
 have HX : Hid (∀ W, Below w1.heap.size w1 W → W.cell? ⟨Bx, 1, none⟩ = some (.string (sx o.name)) ∧ W.cell? ⟨Bx, 3, none⟩ = some (.slice Aa na ca0)) := Lib.hid fun W hb => by
   have h := (HS.out W (H1.out.2.trans (hb.mono H1.out.2.size))).2
   exact ⟨h.cell 1, h.cell 3⟩
 have x1 := (HX.out _ hb9).1
 have x3 := (HX.out _ hb9).2
 have HSM := Lib.hid (And.intro (show (bytesOf (sx o.name)).length ≤ 4194304 by rw [bytes_sx]; have := HM.out.nm; omega) (show (bytesOf (sx o.dst)).length ≤ 4194304 by rw [bytes_sx]; have := HM.out.ds; omega))
 have hcT := (hcv w1.drew (sx o.name)).1
 have HC := Lib.hid (hcv w1.drew (sx o.name)).2
 have bC := hb9.trans (HC.out.2.mono hb9.size)
 have y3 := (HX.out _ bC).2
 have HV := Lib.hid (val_out 2 (bytesOf (sx o.name)) q2 _ (cc w1.drew (sx o.name)) _ HC.out.1 (fun h => by cases h) HSM.out.1 hq2)
 have HBC := Lib.hid bC
 have HZ := Lib.hid H1.out.2.size
 have HA80 : Hid (∀ W, Below w1.heap.size w1 W → Calls Tryz.prog 71 #[.int .u8 4, .slice Aa na ca0] W fun e w' => ∃ A' c', e = .returned (.slice A' q3.length c') ∧ Rows2 w' W.heap.size A' c' q3 ∧ Below W.heap.size W w') := Lib.hid fun W hb => ats_out 4 o.attrs q3 _ W (HS.out W (H1.out.2.trans (hb.mono H1.out.2.size))).1.a HF.out HQ3.out
 clear hq2 hq3 hl2 hl3 hb9 hbd bC
 go_region_law (first
   | (go_simp; (with_reducible refine HV.out.mono ?_); clear HV; rintro e w2 ⟨A2, c2, rfl, hr2, hb2⟩; dsimp only; have hB2 := HBC.out.trans (hb2.mono HBC.out.size); have H2 := Lib.hid (And.intro hr2 hB2); have z3 := (HX.out _ hB2).2; have hrow1 := row_k.2 (Row.below (row_k.1 H1.out.1.1) hB2); have hl4 : q1.length + q2.length ≤ 1000000000 := (by have h1 := HL.out.1; have h2 := HL.out.2.2; omega); have hz2 := Nat.le_trans HZ.out hB2.size; clear hr2 hb2 hB2)
   | (refine step_app kB (w := w2) (by rfl) _ _ (by rfl) q2 (by rfl) hrow1 (by rfl) (rd_k H2.out.1.2.1) H2.out.1.2.2 hl4 hz2 ?_; intro v3 w3 hrow3 hgr3; have hb3 := row_below hrow1 hgr3 hz2; obtain ⟨A3, c3, n3, HN3, rfl, _, _⟩ := hrow3.rdn; have H3 := Lib.hid (And.intro hrow3 hb3); have hb13 : Below W0.heap.size W0 w3 := (H1.out.2.trans (H2.out.2.mono HZ.out)).trans hb3; have z4 : w3.cell? ⟨Bx, 3, none⟩ = some (.slice Aa na ca0) := (HS.out _ hb13).2.cell 3; have HA := Lib.hid (ats_out 4 o.attrs q3 _ w3 (HS.out _ hb13).1.a HF.out HQ3.out); have HB13 := Lib.hid hb13; clear hrow3 hgr3 hb3 hb13)
   | (go_simp; (with_reducible refine HA.out.mono ?_); clear HA; rintro e w4 ⟨A4, c4, rfl, hr4, hb4⟩; dsimp only; have H4 := Lib.hid (And.intro hr4 hb4); have hrow4 := row_k.2 (Row.below (row_k.1 H3.out.1) hb4); have hl5 : (q1 ++ q2).length + q3.length ≤ 1000000000 := (by have h1 := HL.out.1; have h2 := HL.out.2.2; have h3 := HL.out.2.1; rw [List.length_append]; omega); have hz4 : W0.heap.size ≤ w4.heap.size := Nat.le_trans HB13.out.size hb4.size; clear hr4 hb4)
   | (refine step_app kB (w := w4) (by rfl) _ _ (by rfl) q3 (by rfl) hrow4 (by rfl) (rd_k H4.out.1.2.1) H4.out.1.2.2 hl5 hz4 ?_; intro v5 w5 hrow5 hgr5))
 all_goals
   have hb5 := row_below hrow4 hgr5 hz4
   have HE := Lib.hid (And.intro (row_k.1 hrow5) ((HB13.out.trans (H4.out.2.mono HB13.out.size)).trans hb5))
   clear hrow5 hgr5 hb5 hrow4
   go_wp2
   go_ret
   refine ⟨_, rfl, by rw [← HOP.out]; exact HE.out.1.lowR H0.out.size, H0.out.trans (HE.out.2.mono H0.out.size)⟩
end Go.Proofs.YtniaijgejljjbaaGreat.Tlv
