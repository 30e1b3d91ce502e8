/- An operation's bytes, by the document. -/
import Derived.Test.YtniaijgejljjbaaGreatY23
import Derived.Test.YtniaijgejljjbaaGreatY18
namespace Go.Proofs.YtniaijgejljjbaaGreat.Tlv
open Go.RowKit
set_option maxRecDepth 100000
set_option linter.unusedVariables false
set_option linter.unusedSimpArgs false
set_option maxHeartbeats 16000000 in
theorem rbytes5 (o : Opn) (va vp vc : Value) (w : World) (ho : OpAt w o va vp vc) (hm : mayO o = true) (hk : o.k = 5) :
   Calls Tryz.prog 54 #[opVal o va vp vc] w fun e w' => ∃ u, e = .returned u ∧ Row w' w.heap.size u (opB o) ∧ Below w.heap.size w w' := by
 have HM := Lib.hid (mayD hm)
 have HF := Lib.hid (mayD hm).few
 obtain ⟨Aa, ca0, na, rfl, HNo, _⟩ := rdv_len ho.a
 obtain ⟨Ap, cp0, np, rfl, HPo, _⟩ := ho.p.full
 obtain ⟨Ac, cc0, nc, rfl, HCo, HCr⟩ := ho.c.full
 obtain ⟨cv, ca, cc, hcv⟩ := cv_fun
 have hb0 : Below w.heap.size w (w.alloc (.cells (opCs o (.slice Aa na ca0) (.slice Ap np cp0) (.slice Ac nc cc0)) 44)) := (Below.refl _ _).alloc (Nat.le_refl _) _
 have k0 := Blk.new w 44 (opCs o (.slice Aa na ca0) (.slice Ap np cp0) (.slice Ac nc cc0))
 obtain ⟨Bx, hBx⟩ : ∃ b, b = w.heap.size := ⟨_, rfl⟩
 have h0 := And.intro hb0 (And.intro (show Blk _ Bx 44 _ from hBx ▸ k0) (ho.on hb0))
 have HK := Lib.hid hk
 clear hb0 k0 ho hm hk
 go_enter Tryz.func54, Tryz.ntmps54
 go_upto_region 1 with fail
 rw [← hBx]
 generalize w.alloc (.cells (opCs o (.slice Aa na ca0) (.slice Ap np cp0) (.slice Ac nc cc0)) 44) = W0 at h0 ⊢
 clear hBx
 have HS : Hid (∀ W, Below W0.heap.size W0 W → OpAt W o (.slice Aa na ca0) (.slice Ap np cp0) (.slice Ac nc cc0) ∧ Blk W Bx 44 (opCs o (.slice Aa na ca0) (.slice Ap np cp0) (.slice Ac nc cc0))) := Lib.hid fun W hb => ⟨h0.2.2.on hb, h0.2.1.on hb⟩
 have H0 := Lib.hid h0.1
 have x0 : W0.cell? ⟨Bx, 0, none⟩ = some (.int .i64 5) := by rw [← HK.out]; exact h0.2.1.cell 0
 obtain ⟨q1, hq1⟩ : ∃ q, q = numB 1 5 := ⟨_, rfl⟩
 have HN := Lib.hid (num_out2 1 5 q1 W0 (by decide) (by decide) hq1)
 have hl1 : q1.length ≤ 100 := by rw [hq1]; exact num_len
 have HQ1 := Lib.hid (And.intro hq1 hl1)
 have hwr : IntKind.u64.wrap 5 = 5 := by decide
 clear h0 hq1 hl1
 go_upto_region 6 with (go_at_call 52; (with_reducible refine HN.out.mono ?_); clear HN x0; rintro e w1 ⟨A1, c1, rfl, hr1, hb1⟩; dsimp only; have H1 := Lib.hid (And.intro hr1 hb1); clear hr1 hb1; have x0 : w1.cell? ⟨Bx, 0, none⟩ = some (.int .i64 5) := by rw [← HK.out]; exact (HS.out _ H1.out.2).2.cell 0)
 clear x0
 have hb9 : Below w1.heap.size w1 w1.drew := below_drew (Below.refl _ _)
 obtain ⟨q2, hq2⟩ : ∃ q, q = txtB 2 o.name := ⟨_, rfl⟩
 have hl2 : q2.length ≤ 1100 := by rw [hq2]; exact txt_len HM.out.nm
 obtain ⟨q3, hq3⟩ : ∃ q, q = valB 4 (atsB o.attrs) := ⟨_, rfl⟩
 have hl3 : q3.length ≤ 200000 := by rw [hq3]; exact Nat.le_trans (attr_len HF.out) (by decide)
 have HOP : Hid (q1 ++ q2 ++ q3 = opB o) := Lib.hid (by rw [HQ1.out.1, hq2, hq3]; unfold opB; rw [HK.out]; simp [fA, fT, fN, fP])
 have HL := Lib.hid (And.intro hl2 (And.intro hl3 HQ1.out.2))
 have HQ3 := Lib.hid hq3
 have hbd : Below W0.heap.size W0 w1.drew := H1.out.2.trans (hb9.mono H1.out.2.size)
 have HX : Hid (∀ W, Below w1.heap.size w1 W → W.cell? ⟨Bx, 1, none⟩ = some (.string (sx o.name)) ∧ W.cell? ⟨Bx, 3, none⟩ = some (.slice Aa na ca0)) := Lib.hid fun W hb => by
   have h := (HS.out W (H1.out.2.trans (hb.mono H1.out.2.size))).2
   exact ⟨h.cell 1, h.cell 3⟩
 have x1 := (HX.out _ hb9).1
 have x3 := (HX.out _ hb9).2
 have HSM := Lib.hid (And.intro (show (bytesOf (sx o.name)).length ≤ 4194304 by rw [bytes_sx]; have := HM.out.nm; omega) (show (bytesOf (sx o.dst)).length ≤ 4194304 by rw [bytes_sx]; have := HM.out.ds; omega))
 have hcT := (hcv w1.drew (sx o.name)).1
 have HC := Lib.hid (hcv w1.drew (sx o.name)).2
 have bC := hb9.trans (HC.out.2.mono hb9.size)
 have y3 := (HX.out _ bC).2
 have HV := Lib.hid (val_out 2 (bytesOf (sx o.name)) q2 _ (cc w1.drew (sx o.name)) _ HC.out.1 (fun h => by cases h) HSM.out.1 hq2)
 have HBC := Lib.hid bC
 have HZ := Lib.hid H1.out.2.size
 have HA80 : Hid (∀ W, Below w1.heap.size w1 W → Calls Tryz.prog 71 #[.int .u8 4, .slice Aa na ca0] W fun e w' => ∃ A' c', e = .returned (.slice A' q3.length c') ∧ Rows2 w' W.heap.size A' c' q3 ∧ Below W.heap.size W w') := Lib.hid fun W hb => ats_out 4 o.attrs q3 _ W (HS.out W (H1.out.2.trans (hb.mono H1.out.2.size))).1.a HF.out HQ3.out
 clear hq2 hq3 hl2 hl3 hb9 hbd bC
 go_region_law (first
   | (go_simp; (with_reducible refine HV.out.mono ?_); clear HV; rintro e w2 ⟨A2, c2, rfl, hr2, hb2⟩; dsimp only; have hB2 := HBC.out.trans (hb2.mono HBC.out.size); have H2 := Lib.hid (And.intro hr2 hB2); have z3 := (HX.out _ hB2).2; have hrow1 := row_k.2 (Row.below (row_k.1 H1.out.1.1) hB2); have hl4 : q1.length + q2.length ≤ 1000000000 := (by have h1 := HL.out.1; have h2 := HL.out.2.2; omega); have hz2 := Nat.le_trans HZ.out hB2.size; clear hr2 hb2 hB2)
   | (refine step_app kB (w := w2) (by rfl) _ _ (by rfl) q2 (by rfl) hrow1 (by rfl) (rd_k H2.out.1.2.1) H2.out.1.2.2 hl4 hz2 ?_; intro v3 w3 hrow3 hgr3; have hb3 := row_below hrow1 hgr3 hz2; obtain ⟨A3, c3, n3, HN3, rfl, _, _⟩ := hrow3.rdn; have H3 := Lib.hid (And.intro hrow3 hb3); have hb13 : Below W0.heap.size W0 w3 := (H1.out.2.trans (H2.out.2.mono HZ.out)).trans hb3; have z4 : w3.cell? ⟨Bx, 3, none⟩ = some (.slice Aa na ca0) := (HS.out _ hb13).2.cell 3; have HA := Lib.hid (ats_out 4 o.attrs q3 _ w3 (HS.out _ hb13).1.a HF.out HQ3.out); have HB13 := Lib.hid hb13; clear hrow3 hgr3 hb3 hb13)
   | (go_simp; (with_reducible refine HA.out.mono ?_); clear HA; rintro e w4 ⟨A4, c4, rfl, hr4, hb4⟩; dsimp only; have H4 := Lib.hid (And.intro hr4 hb4); have hrow4 := row_k.2 (Row.below (row_k.1 H3.out.1) hb4); have hl5 : (q1 ++ q2).length + q3.length ≤ 1000000000 := (by have h1 := HL.out.1; have h2 := HL.out.2.2; have h3 := HL.out.2.1; rw [List.length_append]; omega); have hz4 : W0.heap.size ≤ w4.heap.size := Nat.le_trans HB13.out.size hb4.size; clear hr4 hb4)
   | (refine step_app kB (w := w4) (by rfl) _ _ (by rfl) q3 (by rfl) hrow4 (by rfl) (rd_k H4.out.1.2.1) H4.out.1.2.2 hl5 hz4 ?_; intro v5 w5 hrow5 hgr5))
 all_goals
   have hb5 := row_below hrow4 hgr5 hz4
   have HE := Lib.hid (And.intro (row_k.1 hrow5) ((HB13.out.trans (H4.out.2.mono HB13.out.size)).trans hb5))
   clear hrow5 hgr5 hb5 hrow4
   go_wp2
   go_ret
   refine ⟨_, rfl, by rw [← HOP.out]; exact HE.out.1.lowR H0.out.size, H0.out.trans (HE.out.2.mono H0.out.size)⟩
set_option maxHeartbeats 16000000 in
theorem rbytes6 (o : Opn) (va vp vc : Value) (w : World) (ho : OpAt w o va vp vc) (hm : mayO o = true) (hk : o.k = 6) :
   Calls Tryz.prog 54 #[opVal o va vp vc] w fun e w' => ∃ u, e = .returned u ∧ Row w' w.heap.size u (opB o) ∧ Below w.heap.size w w' := by
 have HM := Lib.hid (mayD hm)
 have HF := Lib.hid (mayD hm).few
 obtain ⟨Aa, ca0, na, rfl, HNo, _⟩ := rdv_len ho.a
 obtain ⟨Ap, cp0, np, rfl, HPo, _⟩ := ho.p.full
 obtain ⟨Ac, cc0, nc, rfl, HCo, HCr⟩ := ho.c.full
 obtain ⟨cv, ca, cc, hcv⟩ := cv_fun
 have hb0 : Below w.heap.size w (w.alloc (.cells (opCs o (.slice Aa na ca0) (.slice Ap np cp0) (.slice Ac nc cc0)) 44)) := (Below.refl _ _).alloc (Nat.le_refl _) _
 have k0 := Blk.new w 44 (opCs o (.slice Aa na ca0) (.slice Ap np cp0) (.slice Ac nc cc0))
 obtain ⟨Bx, hBx⟩ : ∃ b, b = w.heap.size := ⟨_, rfl⟩
 have h0 := And.intro hb0 (And.intro (show Blk _ Bx 44 _ from hBx ▸ k0) (ho.on hb0))
 have HK := Lib.hid hk
 clear hb0 k0 ho hm hk
 go_enter Tryz.func54, Tryz.ntmps54
 go_upto_region 1 with fail
 rw [← hBx]
 generalize w.alloc (.cells (opCs o (.slice Aa na ca0) (.slice Ap np cp0) (.slice Ac nc cc0)) 44) = W0 at h0 ⊢
 clear hBx
 have HS : Hid (∀ W, Below W0.heap.size W0 W → OpAt W o (.slice Aa na ca0) (.slice Ap np cp0) (.slice Ac nc cc0) ∧ Blk W Bx 44 (opCs o (.slice Aa na ca0) (.slice Ap np cp0) (.slice Ac nc cc0))) := Lib.hid fun W hb => ⟨h0.2.2.on hb, h0.2.1.on hb⟩
 have H0 := Lib.hid h0.1
 have x0 : W0.cell? ⟨Bx, 0, none⟩ = some (.int .i64 6) := by rw [← HK.out]; exact h0.2.1.cell 0
 obtain ⟨q1, hq1⟩ : ∃ q, q = numB 1 6 := ⟨_, rfl⟩
 have HN := Lib.hid (num_out2 1 6 q1 W0 (by decide) (by decide) hq1)
 have hl1 : q1.length ≤ 100 := by rw [hq1]; exact num_len
 have HQ1 := Lib.hid (And.intro hq1 hl1)
 have hwr : IntKind.u64.wrap 6 = 6 := by decide
 clear h0 hq1 hl1
 go_upto_region 9 with (go_at_call 52; (with_reducible refine HN.out.mono ?_); clear HN x0; rintro e w1 ⟨A1, c1, rfl, hr1, hb1⟩; dsimp only; have H1 := Lib.hid (And.intro hr1 hb1); clear hr1 hb1; have x0 : w1.cell? ⟨Bx, 0, none⟩ = some (.int .i64 6) := by rw [← HK.out]; exact (HS.out _ H1.out.2).2.cell 0)
 clear x0
 have x1 : w1.cell? ⟨Bx, 1, none⟩ = some (.string (sx o.name)) := (HS.out _ H1.out.2).2.cell 1
 obtain ⟨q2, hq2⟩ : ∃ q, q = txtB 2 o.name := ⟨_, rfl⟩
 have hl2 : q2.length ≤ 1100 := by rw [hq2]; exact txt_len HM.out.nm
 have HOP : Hid (q1 ++ q2 = opB o) := Lib.hid (by rw [HQ1.out.1, hq2]; unfold opB; rw [HK.out]; simp [fA, fT, fN, fP])
 have HC := Lib.hid (hcv w1 (sx o.name))
 have hcT := (hcv w1 (sx o.name)).1
 have HV := Lib.hid (val_out 2 (bytesOf (sx o.name)) q2 _ (cc w1 (sx o.name)) _ HC.out.2.1 (fun h => by cases h) (by rw [bytes_sx]; have := HM.out.nm; omega) hq2)
 have HL := Lib.hid hl2
 clear hq2 hl2
 go_wp2_with (first
   | (go_at_call 53; (with_reducible refine HV.out.mono ?_); clear HV hcT x1; rintro e w2 ⟨A2, c2, rfl, hr2, hb2⟩; dsimp only; have H2 := Lib.hid (And.intro hr2 (HC.out.2.2.trans (hb2.mono HC.out.2.2.size))); clear hr2 hb2)
   | (at_builtin; refine wpList_appK kB rfl _ _ rfl q2 rfl (row_k.2 (Row.below (row_k.1 H1.out.1.1) H2.out.2)) rfl (rd_k H2.out.1.2.1) H2.out.1.2.2 (by have h1 := HL.out; have h2 := HQ1.out.2; omega) (Nat.le_trans H1.out.2.size H2.out.2.size) ?_; intro v8 w8 hrow8 hgr8; have H8 := Lib.hid (And.intro hrow8 (row_below (row_k.2 (Row.below (row_k.1 H1.out.1.1) H2.out.2)) hgr8 (Nat.le_trans H1.out.2.size H2.out.2.size))); clear hrow8 hgr8))
 go_ret
 refine ⟨_, rfl, by rw [← HOP.out]; exact (row_k.1 H8.out.1).lowR H0.out.size, H0.out.trans (((H1.out.2.trans (H2.out.2.mono H1.out.2.size)).trans H8.out.2).mono H0.out.size)⟩
set_option maxHeartbeats 16000000 in
theorem rbytes7 (o : Opn) (va vp vc : Value) (w : World) (ho : OpAt w o va vp vc) (hm : mayO o = true) (hk : o.k = 7) :
   Calls Tryz.prog 54 #[opVal o va vp vc] w fun e w' => ∃ u, e = .returned u ∧ Row w' w.heap.size u (opB o) ∧ Below w.heap.size w w' := by
 have HM := Lib.hid (mayD hm)
 have HF := Lib.hid (mayD hm).few
 obtain ⟨Aa, ca0, na, rfl, HNo, _⟩ := rdv_len ho.a
 obtain ⟨Ap, cp0, np, rfl, HPo, _⟩ := ho.p.full
 obtain ⟨Ac, cc0, nc, rfl, HCo, HCr⟩ := ho.c.full
 obtain ⟨cv, ca, cc, hcv⟩ := cv_fun
 have hb0 : Below w.heap.size w (w.alloc (.cells (opCs o (.slice Aa na ca0) (.slice Ap np cp0) (.slice Ac nc cc0)) 44)) := (Below.refl _ _).alloc (Nat.le_refl _) _
 have k0 := Blk.new w 44 (opCs o (.slice Aa na ca0) (.slice Ap np cp0) (.slice Ac nc cc0))
 obtain ⟨Bx, hBx⟩ : ∃ b, b = w.heap.size := ⟨_, rfl⟩
 have h0 := And.intro hb0 (And.intro (show Blk _ Bx 44 _ from hBx ▸ k0) (ho.on hb0))
 have HK := Lib.hid hk
 clear hb0 k0 ho hm hk
 go_enter Tryz.func54, Tryz.ntmps54
 go_upto_region 1 with fail
 rw [← hBx]
 generalize w.alloc (.cells (opCs o (.slice Aa na ca0) (.slice Ap np cp0) (.slice Ac nc cc0)) 44) = W0 at h0 ⊢
 clear hBx
 have HS : Hid (∀ W, Below W0.heap.size W0 W → OpAt W o (.slice Aa na ca0) (.slice Ap np cp0) (.slice Ac nc cc0) ∧ Blk W Bx 44 (opCs o (.slice Aa na ca0) (.slice Ap np cp0) (.slice Ac nc cc0))) := Lib.hid fun W hb => ⟨h0.2.2.on hb, h0.2.1.on hb⟩
 have H0 := Lib.hid h0.1
 have x0 : W0.cell? ⟨Bx, 0, none⟩ = some (.int .i64 7) := by rw [← HK.out]; exact h0.2.1.cell 0
 obtain ⟨q1, hq1⟩ : ∃ q, q = numB 1 7 := ⟨_, rfl⟩
 have HN := Lib.hid (num_out2 1 7 q1 W0 (by decide) (by decide) hq1)
 have hl1 : q1.length ≤ 100 := by rw [hq1]; exact num_len
 have HQ1 := Lib.hid (And.intro hq1 hl1)
 have hwr : IntKind.u64.wrap 7 = 7 := by decide
 clear h0 hq1 hl1
 go_upto_region 13 with (go_at_call 52; (with_reducible refine HN.out.mono ?_); clear HN x0; rintro e w1 ⟨A1, c1, rfl, hr1, hb1⟩; dsimp only; have H1 := Lib.hid (And.intro hr1 hb1); clear hr1 hb1; have x0 : w1.cell? ⟨Bx, 0, none⟩ = some (.int .i64 7) := by rw [← HK.out]; exact (HS.out _ H1.out.2).2.cell 0)
 clear x0
 have x4 : w1.cell? ⟨Bx, 4, none⟩ = some (.slice Ap np cp0) := (HS.out _ H1.out.2).2.cell 4
 obtain ⟨q2, hq2⟩ : ∃ q, q = valB 5 (partsB o.parts) := ⟨_, rfl⟩
 have hl2 : q2.length ≤ 20000 := by
   rw [hq2, valB_length]
   have h1 := partsB_len o.parts HM.out.psl
   have h2 := HM.out.pl
   omega
 have HV := Lib.hid (texts_any 5 o.parts q2 _ w1 (HS.out _ H1.out.2).1.p HM.out.pl HM.out.psl hq2)
 have HL2 := Lib.hid (And.intro hl2 hq2)
 clear hq2 hl2
 go_upto_region 14 with (first
   | (go_at_call 72; (with_reducible refine HV.out.mono ?_); clear HV x4; rintro e w2 ⟨A2, c2, rfl, hr2, hb2⟩; dsimp only; have H2 := Lib.hid (And.intro hr2 hb2); clear hr2 hb2)
   | (at_builtin; refine wpList_appK kB rfl _ _ rfl q2 rfl (row_k.2 (Row.below (row_k.1 H1.out.1.1) H2.out.2)) rfl (rd_k H2.out.1.2.1) H2.out.1.2.2 (by have h1 := HL2.out.1; have h2 := HQ1.out.2; omega) (Nat.le_trans H1.out.2.size H2.out.2.size) ?_; intro v8 w8 hrow8 hgr8; have hb8 := row_below (row_k.2 (Row.below (row_k.1 H1.out.1.1) H2.out.2)) hgr8 (Nat.le_trans H1.out.2.size H2.out.2.size); obtain ⟨A3, c3, n3, HN3, rfl, _, _⟩ := hrow8.rdn; have HR := Lib.hid (And.intro hrow8 ((H1.out.2.trans (H2.out.2.mono H1.out.2.size)).trans hb8)); clear hrow8 hgr8 hb8))
 have HQL : Hid ((q1 ++ q2).length ≤ 30000) := Lib.hid (by rw [List.length_append]; have h1 := HL2.out.1; have h2 := HQ1.out.2; omega)
 have HQE : Hid (q1 ++ q2 = numB 1 7 ++ valB 5 (partsB o.parts)) := Lib.hid (by rw [HQ1.out.1, HL2.out.2])
 clear H2 H1 HL2 HQ1 HN3
 generalize q1 ++ q2 = q at HR HQL HQE
 have hb9 : Below w8.heap.size w8 w8.drew := below_drew (Below.refl _ _)
 have hbd : Below W0.heap.size W0 w8.drew := HR.out.2.trans (hb9.mono HR.out.2.size)
 obtain ⟨q3, hq3⟩ : ∃ q, q = valB 6 o.cur := ⟨_, rfl⟩
 obtain ⟨q4, hq4⟩ : ∃ q, q = numB 7 o.n := ⟨_, rfl⟩
 have hl3 : q3.length ≤ 5000 := by rw [hq3, valB_length]; have := HM.out.cl; omega
 have hl4 : q4.length ≤ 100 := by rw [hq4]; exact num_len
 have HOP : Hid (q ++ q3 ++ q4 = opB o) := Lib.hid (by rw [HQE.out, hq3, hq4]; unfold opB; rw [HK.out]; simp [fA, fT, fN, fP])
 have HL := Lib.hid (And.intro hl3 (And.intro hl4 HQL.out))
 have HX : Hid (∀ W, Below W0.heap.size W0 W → W.cell? ⟨Bx, 5, none⟩ = some (.slice Ac nc cc0) ∧ W.cell? ⟨Bx, 6, none⟩ = some (.int .i64 o.n)) := Lib.hid fun W hb => by
   have h := (HS.out W hb).2
   exact ⟨h.cell 5, h.cell 6⟩
 obtain ⟨x5, x6⟩ := HX.out _ hbd
 have hn0 := HM.out.n0
 have hn1 := HM.out.n1
 have hwn : IntKind.u64.wrap o.n = o.n := IntWalk.u64_in _ (by omega)
 have HC := (HS.out _ hbd).1.c
 have HV : Hid (Calls Tryz.prog 53 #[.int .u8 6, .slice Ac nc cc0] w8.drew fun e w' => ∃ A' c', e = .returned (.slice A' q3.length c') ∧ Rows2 w' w8.drew.heap.size A' c' q3 ∧ Below w8.drew.heap.size w8.drew w') := Lib.hid (by
   obtain ⟨A, c, e, h0, h1⟩ := HC
   injection e with e1 e2 e3
   subst e1 e2 e3
   exact val_out 6 o.cur q3 _ _ _ h1 h0.1 (by have := HM.out.cl; omega) hq3)
 have HV2 : Hid (∀ W, Calls Tryz.prog 52 #[.int .u8 7, .int .u64 o.n] W fun e w' => ∃ A' c', e = .returned (.slice A' q4.length c') ∧ Rows2 w' W.heap.size A' c' q4 ∧ Below W.heap.size W w') := Lib.hid fun W => num_out2 7 o.n q4 W hn0 (by omega) hq4
 have HBD := Lib.hid hbd
 have HB9 := Lib.hid hb9
 clear hq3 hq4 hl3 hl4 hb9 hbd HC
 go_region_law (first
   | (go_simp; (with_reducible refine HV.out.mono ?_); clear HV; rintro e w2 ⟨A2, c2, rfl, hr2, hb2⟩; dsimp only; have hB2 := HB9.out.trans (hb2.mono HB9.out.size); have hB02 := HR.out.2.trans (hB2.mono HR.out.2.size); have H2 := Lib.hid (And.intro hr2 hB02); have z3 := (HX.out _ hB02).2; have hrow1 := row_k.2 (Row.below (row_k.1 HR.out.1) hB2); have hl4 : q.length + q3.length ≤ 1000000000 := (by have h1 := HL.out.1; have h2 := HL.out.2.2; omega); have hz2 := hB02.size; clear hr2 hb2 hB2 hB02)
   | (refine step_app kB (w := w2) (by rfl) _ _ (by rfl) q3 (by rfl) hrow1 (by rfl) (rd_k H2.out.1.2.1) H2.out.1.2.2 hl4 hz2 ?_; intro v3 w3 hrow3 hgr3; have hb3 := row_below hrow1 hgr3 hz2; obtain ⟨A3', c3', n3', HN3', rfl, _, _⟩ := hrow3.rdn; have hb13 : Below W0.heap.size W0 w3 := H2.out.2.trans hb3; have H3 := Lib.hid (And.intro hrow3 hb13); have z4 := (HX.out _ hb13).2; have HA := Lib.hid (HV2.out w3); clear hrow3 hgr3 hb3 hb13)
   | (go_simp; (with_reducible refine HA.out.mono ?_); clear HA; rintro e w4 ⟨A4, c4, rfl, hr4, hb4⟩; dsimp only; have H4 := Lib.hid (And.intro hr4 hb4); have hrow4 := row_k.2 (Row.below (row_k.1 H3.out.1) hb4); have hl5 : (q ++ q3).length + q4.length ≤ 1000000000 := (by have h1 := HL.out.1; have h2 := HL.out.2.2; have h3 := HL.out.2.1; rw [List.length_append]; omega); have hz4 : W0.heap.size ≤ w4.heap.size := Nat.le_trans H3.out.2.size hb4.size; clear hr4 hb4)
   | (refine step_app kB (w := w4) (by rfl) _ _ (by rfl) q4 (by rfl) hrow4 (by rfl) (rd_k H4.out.1.2.1) H4.out.1.2.2 hl5 hz4 ?_; intro v5 w5 hrow5 hgr5))
 all_goals
   have hb5 := row_below hrow4 hgr5 hz4
   have HE := Lib.hid (And.intro (row_k.1 hrow5) ((H3.out.2.trans (H4.out.2.mono H3.out.2.size)).trans hb5))
   clear hrow5 hgr5 hb5 hrow4
   go_wp2
   go_ret
   refine ⟨_, rfl, by rw [← HOP.out]; exact HE.out.1.lowR H0.out.size, H0.out.trans (HE.out.2.mono H0.out.size)⟩
set_option maxHeartbeats 16000000 in
theorem rbytes8 (o : Opn) (va vp vc : Value) (w : World) (ho : OpAt w o va vp vc) (hm : mayO o = true) (hk : o.k = 8) :
   Calls Tryz.prog 54 #[opVal o va vp vc] w fun e w' => ∃ u, e = .returned u ∧ Row w' w.heap.size u (opB o) ∧ Below w.heap.size w w' := by
 have HM := Lib.hid (mayD hm)
 have HF := Lib.hid (mayD hm).few
 obtain ⟨Aa, ca0, na, rfl, HNo, _⟩ := rdv_len ho.a
 obtain ⟨Ap, cp0, np, rfl, HPo, _⟩ := ho.p.full
 obtain ⟨Ac, cc0, nc, rfl, HCo, HCr⟩ := ho.c.full
 obtain ⟨cv, ca, cc, hcv⟩ := cv_fun
 have hb0 : Below w.heap.size w (w.alloc (.cells (opCs o (.slice Aa na ca0) (.slice Ap np cp0) (.slice Ac nc cc0)) 44)) := (Below.refl _ _).alloc (Nat.le_refl _) _
 have k0 := Blk.new w 44 (opCs o (.slice Aa na ca0) (.slice Ap np cp0) (.slice Ac nc cc0))
 obtain ⟨Bx, hBx⟩ : ∃ b, b = w.heap.size := ⟨_, rfl⟩
 have h0 := And.intro hb0 (And.intro (show Blk _ Bx 44 _ from hBx ▸ k0) (ho.on hb0))
 have HK := Lib.hid hk
 clear hb0 k0 ho hm hk
 go_enter Tryz.func54, Tryz.ntmps54
 go_upto_region 1 with fail
 rw [← hBx]
 generalize w.alloc (.cells (opCs o (.slice Aa na ca0) (.slice Ap np cp0) (.slice Ac nc cc0)) 44) = W0 at h0 ⊢
 clear hBx
 have HS : Hid (∀ W, Below W0.heap.size W0 W → OpAt W o (.slice Aa na ca0) (.slice Ap np cp0) (.slice Ac nc cc0) ∧ Blk W Bx 44 (opCs o (.slice Aa na ca0) (.slice Ap np cp0) (.slice Ac nc cc0))) := Lib.hid fun W hb => ⟨h0.2.2.on hb, h0.2.1.on hb⟩
 have H0 := Lib.hid h0.1
 have x0 : W0.cell? ⟨Bx, 0, none⟩ = some (.int .i64 8) := by rw [← HK.out]; exact h0.2.1.cell 0
 obtain ⟨q1, hq1⟩ : ∃ q, q = numB 1 8 := ⟨_, rfl⟩
 have HN := Lib.hid (num_out2 1 8 q1 W0 (by decide) (by decide) hq1)
 have hl1 : q1.length ≤ 100 := by rw [hq1]; exact num_len
 have HQ1 := Lib.hid (And.intro hq1 hl1)
 have hwr : IntKind.u64.wrap 8 = 8 := by decide
 clear h0 hq1 hl1
 go_upto_region 14 with (go_at_call 52; (with_reducible refine HN.out.mono ?_); clear HN x0; rintro e w1 ⟨A1, c1, rfl, hr1, hb1⟩; dsimp only; have H1 := Lib.hid (And.intro hr1 hb1); clear hr1 hb1; have x0 : w1.cell? ⟨Bx, 0, none⟩ = some (.int .i64 8) := by rw [← HK.out]; exact (HS.out _ H1.out.2).2.cell 0)
 clear x0
 have HR := Lib.hid (And.intro H1.out.1.1 H1.out.2)
 have HQL : Hid (q1.length ≤ 30000) := Lib.hid (by have h2 := HQ1.out.2; omega)
 have HQE := Lib.hid HQ1.out.1
 obtain ⟨n1, hn1⟩ : ∃ n, n = q1.length := ⟨_, rfl⟩
 rw [← hn1] at HR ⊢
 clear H1 HQ1 hn1
 generalize q1 = q at HR HQL HQE
 have hb9 : Below w1.heap.size w1 w1.drew := below_drew (Below.refl _ _)
 have hbd : Below W0.heap.size W0 w1.drew := HR.out.2.trans (hb9.mono HR.out.2.size)
 obtain ⟨q3, hq3⟩ : ∃ q, q = valB 6 o.cur := ⟨_, rfl⟩
 obtain ⟨q4, hq4⟩ : ∃ q, q = numB 7 o.n := ⟨_, rfl⟩
 have hl3 : q3.length ≤ 5000 := by rw [hq3, valB_length]; have := HM.out.cl; omega
 have hl4 : q4.length ≤ 100 := by rw [hq4]; exact num_len
 have HOP : Hid (q ++ q3 ++ q4 = opB o) := Lib.hid (by rw [HQE.out, hq3, hq4]; unfold opB; rw [HK.out]; simp [fA, fT, fN, fP])
 have HL := Lib.hid (And.intro hl3 (And.intro hl4 HQL.out))
 have HX : Hid (∀ W, Below W0.heap.size W0 W → W.cell? ⟨Bx, 5, none⟩ = some (.slice Ac nc cc0) ∧ W.cell? ⟨Bx, 6, none⟩ = some (.int .i64 o.n)) := Lib.hid fun W hb => by
   have h := (HS.out W hb).2
   exact ⟨h.cell 5, h.cell 6⟩
 obtain ⟨x5, x6⟩ := HX.out _ hbd
 have hn0 := HM.out.n0
 have hn1 := HM.out.n1
 have hwn : IntKind.u64.wrap o.n = o.n := IntWalk.u64_in _ (by omega)
 have HC := (HS.out _ hbd).1.c
 have HV : Hid (Calls Tryz.prog 53 #[.int .u8 6, .slice Ac nc cc0] w1.drew fun e w' => ∃ A' c', e = .returned (.slice A' q3.length c') ∧ Rows2 w' w1.drew.heap.size A' c' q3 ∧ Below w1.drew.heap.size w1.drew w') := Lib.hid (by
   obtain ⟨A, c, e, h0, h1⟩ := HC
   injection e with e1 e2 e3
   subst e1 e2 e3
   exact val_out 6 o.cur q3 _ _ _ h1 h0.1 (by have := HM.out.cl; omega) hq3)
 have HV2 : Hid (∀ W, Calls Tryz.prog 52 #[.int .u8 7, .int .u64 o.n] W fun e w' => ∃ A' c', e = .returned (.slice A' q4.length c') ∧ Rows2 w' W.heap.size A' c' q4 ∧ Below W.heap.size W w') := Lib.hid fun W => num_out2 7 o.n q4 W hn0 (by omega) hq4
 have HBD := Lib.hid hbd
 have HB9 := Lib.hid hb9
 clear hq3 hq4 hl3 hl4 hb9 hbd HC
 go_region_law (first
   | (go_simp; (with_reducible refine HV.out.mono ?_); clear HV; rintro e w2 ⟨A2, c2, rfl, hr2, hb2⟩; dsimp only; have hB2 := HB9.out.trans (hb2.mono HB9.out.size); have hB02 := HR.out.2.trans (hB2.mono HR.out.2.size); have H2 := Lib.hid (And.intro hr2 hB02); have z3 := (HX.out _ hB02).2; have hrow1 := row_k.2 (Row.below (row_k.1 HR.out.1) hB2); have hl4 : q.length + q3.length ≤ 1000000000 := (by have h1 := HL.out.1; have h2 := HL.out.2.2; omega); have hz2 := hB02.size; clear hr2 hb2 hB2 hB02)
   | (refine step_app kB (w := w2) (by rfl) _ _ (by rfl) q3 (by rfl) hrow1 (by rfl) (rd_k H2.out.1.2.1) H2.out.1.2.2 hl4 hz2 ?_; intro v3 w3 hrow3 hgr3; have hb3 := row_below hrow1 hgr3 hz2; obtain ⟨A3', c3', n3', HN3', rfl, _, _⟩ := hrow3.rdn; have hb13 : Below W0.heap.size W0 w3 := H2.out.2.trans hb3; have H3 := Lib.hid (And.intro hrow3 hb13); have z4 := (HX.out _ hb13).2; have HA := Lib.hid (HV2.out w3); clear hrow3 hgr3 hb3 hb13)
   | (go_simp; (with_reducible refine HA.out.mono ?_); clear HA; rintro e w4 ⟨A4, c4, rfl, hr4, hb4⟩; dsimp only; have H4 := Lib.hid (And.intro hr4 hb4); have hrow4 := row_k.2 (Row.below (row_k.1 H3.out.1) hb4); have hl5 : (q ++ q3).length + q4.length ≤ 1000000000 := (by have h1 := HL.out.1; have h2 := HL.out.2.2; have h3 := HL.out.2.1; rw [List.length_append]; omega); have hz4 : W0.heap.size ≤ w4.heap.size := Nat.le_trans H3.out.2.size hb4.size; clear hr4 hb4)
   | (refine step_app kB (w := w4) (by rfl) _ _ (by rfl) q4 (by rfl) hrow4 (by rfl) (rd_k H4.out.1.2.1) H4.out.1.2.2 hl5 hz4 ?_; intro v5 w5 hrow5 hgr5))
 all_goals
   have hb5 := row_below hrow4 hgr5 hz4
   have HE := Lib.hid (And.intro (row_k.1 hrow5) ((H3.out.2.trans (H4.out.2.mono H3.out.2.size)).trans hb5))
   clear hrow5 hgr5 hb5 hrow4
   go_wp2
   go_ret
   refine ⟨_, rfl, by rw [← HOP.out]; exact HE.out.1.lowR H0.out.size, H0.out.trans (HE.out.2.mono H0.out.size)⟩
end Go.Proofs.YtniaijgejljjbaaGreat.Tlv
