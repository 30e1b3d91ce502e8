/- The operation of bytes, by the document. -/
import Derived.Test.YtcjiofhjognklaaGreatV43
namespace Go.Proofs.YtcjiofhjognklaaGreat.Tlv
open Go.RowKit
set_option maxRecDepth 100000
set_option linter.unusedVariables false
set_option linter.unusedSimpArgs false
set_option maxHeartbeats 16000000 in
theorem rop5 (A : Option Addr) (c : Nat) (l : List Int) (w : World) (hr : Rd w w.heap.size A l) (hby : Byt l) (hn : l.length ≤ 1000000) (hc : l.length ≤ c) (hcm : c ≤ 9223372036854775807) (hk : (numV (tk false l 1)).1 = 5) :
   Calls Tryz.prog 11 #[.slice A l.length c] w (RefOpOut w l) := by
 have hb1 : Below w.heap.size w (w.alloc (.cells zCs 27)) := (Below.refl _ _).alloc (Nat.le_refl _) _
 have kR1 := Blk.new w 27 zCs
 have hs2 := RR.new2 (w := w.alloc (.cells zCs 27)) (hr.below hb1) hc hcm hby (by omega) hb1.size
 have hb12 : Below (w.alloc (.cells zCs 27)).heap.size (w.alloc (.cells zCs 27)) ((w.alloc (.cells zCs 27)).alloc (.cells #[.slice A l.length c, .bool false] 107)) := (Below.refl _ _).alloc (Nat.le_refl _) _
 have kR2 := kR1.on hb12
 have hb2 := hb1.trans (hb12.mono hb1.size)
 rw [World.size_alloc] at hs2
 have ht1 := took_numV (f := false) (tag := 1) hby (by decide)
 have hrng := numV_range (f := false) (tag := 1) hby
 generalize hsm : numV (tk false l 1) = S1 at hk ht1 hrng
 obtain ⟨k1', f1, r1⟩ := S1
 dsimp only at hk ht1 hrng
 subst hk
 have HT1 := Lib.hid ht1
 have HSM := Lib.hid hsm
 have HBY := Lib.hid hby
 have HNL := Lib.hid hn
 obtain ⟨g, hg⟩ : ∃ g, g = w.heap.size + 1 := ⟨_, rfl⟩
 obtain ⟨n, hnn⟩ : ∃ n, n = l.length := ⟨_, rfl⟩
 rw [← hnn] at hs2 hb2 kR2 ⊢
 rw [← hg] at hs2
 have H2 := Lib.hid (And.intro hb2 (And.intro kR2 (And.intro hs2 (show w.heap.size < g by omega))))
 clear hr hby hb1 kR1 hs2 hb12 kR2 hb2 hn hnn hc hcm ht1 hsm
 go_enter Tryz.func11, Tryz.ntmps11
 go_upto_region 2 with fail
 rw [← hg]
 clear hg
 generalize (w.alloc (.cells zCs 27)).alloc (.cells #[.slice A n c, .bool false] 107) = W2 at H2 ⊢
 go_upto_region 3 with (refine wpList_store_rowTo rfl 27 _ _ rfl rfl W2.heap.size zCs rfl rfl 27 zCs (Blk.new W2 27 zCs) (by kernel_rfl) rfl (by kernel_rfl) ?_)
 have hb3 : Below W2.heap.size W2 ((W2.alloc (.cells zCs 27)).setRow W2.heap.size zCs) := below_setRow ((Below.refl _ _).alloc (Nat.le_refl _) (.cells zCs 27)) (Nat.le_refl _) _
 have kB : Blk ((W2.alloc (.cells zCs 27)).setRow W2.heap.size zCs) W2.heap.size 27 (opCs (o0 0) (.slice none 0 0) (.slice none 0 0) (.slice none 0 0)) := (Blk.new W2 27 zCs).row _
 have hgo := H2.out.2.2.1.lt
 obtain ⟨Bo, hBo⟩ : ∃ b, b = W2.heap.size := ⟨_, rfl⟩
 have hos : OR w g W2.heap.size (o0 0) (.slice none 0 0) (.slice none 0 0) (.slice none 0 0) false l ((W2.alloc (.cells zCs 27)).setRow W2.heap.size zCs) := ⟨H2.out.1.trans (hb3.mono H2.out.1.size), H2.out.2.1.on hb3, kB, H2.out.2.2.1.on hb3, H2.out.2.2.2, hgo, YtcjiofhjognklaaGreat.nil_row kA _ _, nil_row kStr _ _, RdD.nil _ _⟩
 rw [← hBo] at hos ⊢
 clear hb3 kB hgo H2 hBo
 generalize (W2.alloc (.cells zCs 27)).setRow Bo zCs = W3 at hos ⊢
 have hN := refNumberV w.heap.size g false l 1 W3 hos.rs
 rw [HSM.out] at hN
 dsimp only at hN
 have HN := Lib.hid hN
 have H3 := Lib.hid hos
 clear hN hos
 clear hrng
 have hcv : ∀ W, (convert 55 22 (.int .u64 5)).run Tryz.prog W = .ok (.int .i64 5) W := fun _ => rfl
 go_upto_region 7 with (go_at_call 60; (with_reducible refine HN.out.mono ?_); clear HN; rintro e w4 ⟨rfl, hrs, hg⟩; dsimp only; have H4 := Lib.hid (H3.out.gr hg hrs); clear hrs hg; have fz := H4.out.oo.frozen 0; have cz : w4.cell? ⟨Bo, 0, none⟩ = some (.int .i64 0) := H4.out.oo.cell 0)
 clear fz cz hcv
 have hos := H4.out.kind 5
 generalize w4.setCell ⟨Bo, 0, none⟩ (.int .i64 5) = W0 at hos ⊢
 clear H4 H3
 have hrl : r1.length ≤ 1000000 := by have h := tk_len (f := false) (r := l) (tag := 1); have h4 := numV_rest (tk false l 1); rw [HSM.out] at h4; dsimp only at h4; rw [h4]; have := HNL.out; omega
 have hby1 := hos.rs.byt
 have hrl1 : (tk f1 r1 2).2.2.length ≤ 1000000 := Nat.le_trans tk_len hrl
 have HC1 : Hid (Calls Tryz.prog 61 #[.pointer (some ⟨g, 0, none⟩), .int .u8 2] W0 fun e w' => e = .returned (.string (sx (u8s ((tk f1 r1 2).1.getD [])))) ∧ RR w' w.heap.size g (tk f1 r1 2).2.1 (tk f1 r1 2).2.2 ∧ W0.grownBy w' (some g)) := Lib.hid (by
   have h := refText_any w.heap.size g f1 r1 2 W0 hos.rs
   rw [← sx_u8s] at h
   exact h)
 have HT2 := Lib.hid (took_text (f := f1) (tag := 2) hby1 (by decide))
 generalize u8s ((tk f1 r1 2).1.getD []) = s1 at HC1 HT2
 generalize (tk f1 r1 2).2.1 = g1 at HC1 HT2
 generalize (tk f1 r1 2).2.2 = q1 at HC1 HT2 hrl1
 have HO1 := Lib.hid hos
 clear hos hby1 hrl
 have hrl := hrl1
 clear hrl1
 go_upto_region 9 with (go_at_call 61; (with_reducible refine HC1.out.mono ?_); clear HC1; rintro e V1 ⟨rfl, hrs, hg⟩; dsimp only; have HP1 := Lib.hid (HO1.out.gr hg hrs); clear hrs hg; have fz := HP1.out.oo.frozen 1; have cz : V1.cell? ⟨Bo, 1, none⟩ = some (.string (sx _)) := HP1.out.oo.cell 1)
 clear fz cz
 have hos := HP1.out.name s1
 generalize V1.setCell ⟨Bo, 1, none⟩ (.string (sx s1)) = W1 at hos ⊢
 clear HP1 HO1
 have hby2 := hos.rs.byt
 have HC2 := Lib.hid (refTakeAttrs_any w.heap.size g g1 q1 4 W1 hos.rs hrl)
 have HT3 := Lib.hid (took_attrsR (f := g1) (tag := 4) hby2 (by decide))
 have HO2 := Lib.hid hos
 clear hos hby2 hrl
 generalize tk g1 q1 4 = t2 at HC2 HT3
 generalize hl2 : (if t2.2.1 = false ∧ okL (t2.1.getD []) = true then mkL (t2.1.getD []) else []) = l2 at HT3
 generalize hg2 : (if t2.2.1 = false ∧ okL (t2.1.getD []) = true then false else true) = g2 at HT3
 have HLG := Lib.hid (And.intro hl2 hg2)
 clear hl2 hg2
 go_upto_region 13 with (go_at_call 62; (with_reducible refine HC2.out.mono ?_); clear HC2; intro e V2 hta; obtain ⟨Aa, ca, na, rfl, hrow, hrs, hg⟩ := takeQ_out HLG.out.1 HLG.out.2 hta; dsimp only; have HP2 := Lib.hid (HO2.out.gr hg hrs); have HR2 := Lib.hid (YtcjiofhjognklaaGreat.RowK.low hrow HO2.out.bel.size); clear hrs hg hrow hta; have fz := HP2.out.oo.frozen 3; have cz : V2.cell? ⟨Bo, 3, none⟩ = some (.slice none 0 0) := HP2.out.oo.cell 3)
 clear fz cz
 have hos := HP2.out.attrs (.slice Aa na ca) l2 HR2.out
 generalize V2.setCell ⟨Bo, 3, none⟩ (.slice Aa na ca) = W2 at hos ⊢
 clear HP2 HO2 HR2 HLG
 have HX : ∃ (o : Opn) (va vp vc : Value), Hid (Fin1 l o g2 t2.2.2 ∧ OR w g Bo o va vp vc g2 t2.2.2 W2) := ⟨_, _, _, _, Lib.hid ⟨fin_A (by decide) HT1.out (by simp [fA]) HT2.out HT3.out, hos⟩⟩
 clear hos
 obtain ⟨o, va, vp, vc, HX⟩ := HX
 have d0 : W2.cell? ⟨Bo, 0, none⟩ = some (.int .i64 o.k) := HX.out.2.oo.cell 0
 have d1 : W2.cell? ⟨Bo, 1, none⟩ = some (.string (sx o.name)) := HX.out.2.oo.cell 1
 have d2 : W2.cell? ⟨Bo, 2, none⟩ = some (.string (sx o.dst)) := HX.out.2.oo.cell 2
 have d3 : W2.cell? ⟨Bo, 3, none⟩ = some va := HX.out.2.oo.cell 3
 have d4 : W2.cell? ⟨Bo, 4, none⟩ = some vp := HX.out.2.oo.cell 4
 have d5 : W2.cell? ⟨Bo, 5, none⟩ = some vc := HX.out.2.oo.cell 5
 have d6 : W2.cell? ⟨Bo, 6, none⟩ = some (.int .i64 o.n) := HX.out.2.oo.cell 6
 have HE := refDone_any w.heap.size g g2 t2.2.2 W2 HX.out.2.rs
 by_cases hgood : g2 = false ∧ t2.2.2 = []
 · have hd : (!g2 && decide (t2.2.2 = [])) = true := by rw [hgood.1, hgood.2]; rfl
   rw [hd] at HE
   have HE := Lib.hid HE
   have HSN := Lib.hid (HX.out.1.snd hgood.1 hgood.2)
   have HLM := Lib.hid (HX.out.1.gd hgood.1).lim
   have HMA := refMayOp_any o va vp vc W2 HX.out.2.at_ HLM.out
   clear hd
   cases hm : mayO o with
   | true =>
     rw [hm] at HMA
     have HMA := Lib.hid HMA
     have HM := Lib.hid hm
     clear hm hgood
     go_upto_region 27 with (first
       | (go_at_call 65; (with_reducible refine HE.out.mono ?_); clear HE; rintro e wE ⟨rfl, rfl⟩)
       | (go_at_call 12; (with_reducible refine HMA.out.mono ?_); clear HMA d0 d1 d2 d3 d4 d5 d6; rintro e w6 ⟨rfl, hb6⟩; dsimp only; have H6 := Lib.hid (HX.out.2.on hb6); clear hb6))
     go_wp2_with (first
       | (refine wpList_load_row rfl 27 _ rfl Bo rfl 27 (opCs o va vp vc) (0, 0) _ H6.out.oo rfl rfl (by kernel_rfl) ?_)
       | (refine wpList_store_rowTo rfl 27 _ _ rfl rfl w.heap.size (opCs o va vp vc) rfl rfl 27 zCs H6.out.rr (by kernel_rfl) rfl ?c1 ?_; case c1 => exact H6.out.one))
     obtain ⟨h7, h8, h9⟩ := H6.out.out (opCs o va vp vc)
     have t0 := h9.cell 0
     have t1 := h9.cell 1
     have t2 := h9.cell 2
     have t3 := h9.cell 3
     have t4 := h9.cell 4
     have t5 := h9.cell 5
     have t6 := h9.cell 6
     have HE2 := Lib.hid (And.intro h7 h8)
     clear h7 h8 h9
     generalize w6.setRow w.heap.size (opCs o va vp vc) = w7 at t0 t1 t2 t3 t4 t5 t6 HE2 ⊢
     refine bodyPost_ret (v := .tuple #[opVal o va vp vc, .bool true]) ?_ rfl (.inl ⟨o, va, vp, vc, HM.out, HSN.out, rfl, HE2.out.1, HLM.out, HE2.out.2⟩)
     simp at t0 t1 t2 t3 t4 t5 t6
     simp [results, Tryz.f11, go_sem, t0, t1, t2, t3, t4, t5, t6]
   | false =>
     rw [hm] at HMA
     have HMA := Lib.hid HMA
     have HNO : Hid (∀ o, mayO o = true → l ≠ opB o) := Lib.hid (HX.out.1.none (fun h => by rw [hm] at h; cases h.2.2))
     clear hm hgood
     go_upto_region 26 with (first
       | (go_at_call 65; (with_reducible refine HE.out.mono ?_); clear HE; rintro e wE ⟨rfl, rfl⟩)
       | (go_at_call 12; (with_reducible refine HMA.out.mono ?_); clear HMA d0 d1 d2 d3 d4 d5 d6; rintro e w6 ⟨rfl, hb6⟩; dsimp only; have H6 := Lib.hid (HX.out.2.on hb6); clear hb6))
     go_wp2_with (refine wpList_store_rowTo rfl 27 _ _ rfl rfl w.heap.size zCs rfl rfl 27 zCs H6.out.rr (by kernel_rfl) rfl (by kernel_rfl) ?_)
     obtain ⟨h7, h8, h9⟩ := H6.out.out zCs
     have t0 := h9.cell 0
     have t1 := h9.cell 1
     have t2 := h9.cell 2
     have t3 := h9.cell 3
     have t4 := h9.cell 4
     have t5 := h9.cell 5
     have t6 := h9.cell 6
     have HE2 := Lib.hid h8
     clear h7 h8 h9
     generalize w6.setRow w.heap.size zCs = w7 at t0 t1 t2 t3 t4 t5 t6 HE2 ⊢
     refine bodyPost_ret (v := .tuple #[.agg zCs, .bool false]) ?_ rfl (.inr ⟨HNO.out, rfl, HE2.out⟩)
     simp at t0 t1 t2 t3 t4 t5 t6
     simp [results, Tryz.f11, go_sem, t0, t1, t2, t3, t4, t5, t6]
 · have hd : (!g2 && decide (t2.2.2 = [])) = false := by
     rw [← Bool.not_eq_true]
     intro h
     simp only [Bool.and_eq_true, Bool.not_eq_true', decide_eq_true_eq] at h
     exact hgood h
   rw [hd] at HE
   have HE := Lib.hid HE
   have HNO : Hid (∀ o, mayO o = true → l ≠ opB o) := Lib.hid (HX.out.1.none (fun h => hgood ⟨h.1, h.2.1⟩))
   clear hgood hd
   go_upto_region 26 with (go_at_call 65; (with_reducible refine HE.out.mono ?_); clear HE; rintro e wE ⟨rfl, rfl⟩)
   go_wp2_with (refine wpList_store_rowTo rfl 27 _ _ rfl rfl w.heap.size zCs rfl rfl 27 zCs HX.out.2.rr (by kernel_rfl) rfl (by kernel_rfl) ?_)
   obtain ⟨h7, h8, h9⟩ := HX.out.2.out zCs
   have t0 := h9.cell 0
   have t1 := h9.cell 1
   have t2 := h9.cell 2
   have t3 := h9.cell 3
   have t4 := h9.cell 4
   have t5 := h9.cell 5
   have t6 := h9.cell 6
   have HE2 := Lib.hid h8
   clear h7 h8 h9 d0 d1 d2 d3 d4 d5 d6
   generalize wE.setRow w.heap.size zCs = w7 at t0 t1 t2 t3 t4 t5 t6 HE2 ⊢
   refine bodyPost_ret (v := .tuple #[.agg zCs, .bool false]) ?_ rfl (.inr ⟨HNO.out, rfl, HE2.out⟩)
   simp at t0 t1 t2 t3 t4 t5 t6
   simp [results, Tryz.f11, go_sem, t0, t1, t2, t3, t4, t5, t6]
set_option maxHeartbeats 16000000 in
theorem rop6 (A : Option Addr) (c : Nat) (l : List Int) (w : World) (hr : Rd w w.heap.size A l) (hby : Byt l) (hn : l.length ≤ 1000000) (hc : l.length ≤ c) (hcm : c ≤ 9223372036854775807) (hk : (numV (tk false l 1)).1 = 6) :
   Calls Tryz.prog 11 #[.slice A l.length c] w (RefOpOut w l) := by
 have hb1 : Below w.heap.size w (w.alloc (.cells zCs 27)) := (Below.refl _ _).alloc (Nat.le_refl _) _
 have kR1 := Blk.new w 27 zCs
 have hs2 := RR.new2 (w := w.alloc (.cells zCs 27)) (hr.below hb1) hc hcm hby (by omega) hb1.size
 have hb12 : Below (w.alloc (.cells zCs 27)).heap.size (w.alloc (.cells zCs 27)) ((w.alloc (.cells zCs 27)).alloc (.cells #[.slice A l.length c, .bool false] 107)) := (Below.refl _ _).alloc (Nat.le_refl _) _
 have kR2 := kR1.on hb12
 have hb2 := hb1.trans (hb12.mono hb1.size)
 rw [World.size_alloc] at hs2
 have ht1 := took_numV (f := false) (tag := 1) hby (by decide)
 have hrng := numV_range (f := false) (tag := 1) hby
 generalize hsm : numV (tk false l 1) = S1 at hk ht1 hrng
 obtain ⟨k1', f1, r1⟩ := S1
 dsimp only at hk ht1 hrng
 subst hk
 have HT1 := Lib.hid ht1
 have HSM := Lib.hid hsm
 have HBY := Lib.hid hby
 have HNL := Lib.hid hn
 obtain ⟨g, hg⟩ : ∃ g, g = w.heap.size + 1 := ⟨_, rfl⟩
 obtain ⟨n, hnn⟩ : ∃ n, n = l.length := ⟨_, rfl⟩
 rw [← hnn] at hs2 hb2 kR2 ⊢
 rw [← hg] at hs2
 have H2 := Lib.hid (And.intro hb2 (And.intro kR2 (And.intro hs2 (show w.heap.size < g by omega))))
 clear hr hby hb1 kR1 hs2 hb12 kR2 hb2 hn hnn hc hcm ht1 hsm
 go_enter Tryz.func11, Tryz.ntmps11
 go_upto_region 2 with fail
 rw [← hg]
 clear hg
 generalize (w.alloc (.cells zCs 27)).alloc (.cells #[.slice A n c, .bool false] 107) = W2 at H2 ⊢
 go_upto_region 3 with (refine wpList_store_rowTo rfl 27 _ _ rfl rfl W2.heap.size zCs rfl rfl 27 zCs (Blk.new W2 27 zCs) (by kernel_rfl) rfl (by kernel_rfl) ?_)
 have hb3 : Below W2.heap.size W2 ((W2.alloc (.cells zCs 27)).setRow W2.heap.size zCs) := below_setRow ((Below.refl _ _).alloc (Nat.le_refl _) (.cells zCs 27)) (Nat.le_refl _) _
 have kB : Blk ((W2.alloc (.cells zCs 27)).setRow W2.heap.size zCs) W2.heap.size 27 (opCs (o0 0) (.slice none 0 0) (.slice none 0 0) (.slice none 0 0)) := (Blk.new W2 27 zCs).row _
 have hgo := H2.out.2.2.1.lt
 obtain ⟨Bo, hBo⟩ : ∃ b, b = W2.heap.size := ⟨_, rfl⟩
 have hos : OR w g W2.heap.size (o0 0) (.slice none 0 0) (.slice none 0 0) (.slice none 0 0) false l ((W2.alloc (.cells zCs 27)).setRow W2.heap.size zCs) := ⟨H2.out.1.trans (hb3.mono H2.out.1.size), H2.out.2.1.on hb3, kB, H2.out.2.2.1.on hb3, H2.out.2.2.2, hgo, YtcjiofhjognklaaGreat.nil_row kA _ _, nil_row kStr _ _, RdD.nil _ _⟩
 rw [← hBo] at hos ⊢
 clear hb3 kB hgo H2 hBo
 generalize (W2.alloc (.cells zCs 27)).setRow Bo zCs = W3 at hos ⊢
 have hN := refNumberV w.heap.size g false l 1 W3 hos.rs
 rw [HSM.out] at hN
 dsimp only at hN
 have HN := Lib.hid hN
 have H3 := Lib.hid hos
 clear hN hos
 clear hrng
 have hcv : ∀ W, (convert 55 22 (.int .u64 6)).run Tryz.prog W = .ok (.int .i64 6) W := fun _ => rfl
 go_upto_region 7 with (go_at_call 60; (with_reducible refine HN.out.mono ?_); clear HN; rintro e w4 ⟨rfl, hrs, hg⟩; dsimp only; have H4 := Lib.hid (H3.out.gr hg hrs); clear hrs hg; have fz := H4.out.oo.frozen 0; have cz : w4.cell? ⟨Bo, 0, none⟩ = some (.int .i64 0) := H4.out.oo.cell 0)
 clear fz cz hcv
 have hos := H4.out.kind 6
 generalize w4.setCell ⟨Bo, 0, none⟩ (.int .i64 6) = W0 at hos ⊢
 clear H4 H3
 have hrl : r1.length ≤ 1000000 := by have h := tk_len (f := false) (r := l) (tag := 1); have h4 := numV_rest (tk false l 1); rw [HSM.out] at h4; dsimp only at h4; rw [h4]; have := HNL.out; omega
 have hby1 := hos.rs.byt
 have hrl1 : (tk f1 r1 2).2.2.length ≤ 1000000 := Nat.le_trans tk_len hrl
 have HC1 : Hid (Calls Tryz.prog 61 #[.pointer (some ⟨g, 0, none⟩), .int .u8 2] W0 fun e w' => e = .returned (.string (sx (u8s ((tk f1 r1 2).1.getD [])))) ∧ RR w' w.heap.size g (tk f1 r1 2).2.1 (tk f1 r1 2).2.2 ∧ W0.grownBy w' (some g)) := Lib.hid (by
   have h := refText_any w.heap.size g f1 r1 2 W0 hos.rs
   rw [← sx_u8s] at h
   exact h)
 have HT2 := Lib.hid (took_text (f := f1) (tag := 2) hby1 (by decide))
 generalize u8s ((tk f1 r1 2).1.getD []) = s1 at HC1 HT2
 generalize (tk f1 r1 2).2.1 = g1 at HC1 HT2
 generalize (tk f1 r1 2).2.2 = q1 at HC1 HT2 hrl1
 have HO1 := Lib.hid hos
 clear hos hby1 hrl
 have hrl := hrl1
 clear hrl1
 go_upto_region 9 with (go_at_call 61; (with_reducible refine HC1.out.mono ?_); clear HC1; rintro e V1 ⟨rfl, hrs, hg⟩; dsimp only; have HP1 := Lib.hid (HO1.out.gr hg hrs); clear hrs hg; have fz := HP1.out.oo.frozen 1; have cz : V1.cell? ⟨Bo, 1, none⟩ = some (.string (sx _)) := HP1.out.oo.cell 1)
 clear fz cz
 have hos := HP1.out.name s1
 generalize V1.setCell ⟨Bo, 1, none⟩ (.string (sx s1)) = W1 at hos ⊢
 clear HP1 HO1
 have HX : ∃ (o : Opn) (va vp vc : Value), Hid (Fin1 l o g1 q1 ∧ OR w g Bo o va vp vc g1 q1 W1) := ⟨_, _, _, _, Lib.hid ⟨fin_N (by decide) HT1.out (.inr rfl) HT2.out, hos⟩⟩
 clear hos
 obtain ⟨o, va, vp, vc, HX⟩ := HX
 have d0 : W1.cell? ⟨Bo, 0, none⟩ = some (.int .i64 o.k) := HX.out.2.oo.cell 0
 have d1 : W1.cell? ⟨Bo, 1, none⟩ = some (.string (sx o.name)) := HX.out.2.oo.cell 1
 have d2 : W1.cell? ⟨Bo, 2, none⟩ = some (.string (sx o.dst)) := HX.out.2.oo.cell 2
 have d3 : W1.cell? ⟨Bo, 3, none⟩ = some va := HX.out.2.oo.cell 3
 have d4 : W1.cell? ⟨Bo, 4, none⟩ = some vp := HX.out.2.oo.cell 4
 have d5 : W1.cell? ⟨Bo, 5, none⟩ = some vc := HX.out.2.oo.cell 5
 have d6 : W1.cell? ⟨Bo, 6, none⟩ = some (.int .i64 o.n) := HX.out.2.oo.cell 6
 have HE := refDone_any w.heap.size g g1 q1 W1 HX.out.2.rs
 by_cases hgood : g1 = false ∧ q1 = []
 · have hd : (!g1 && decide (q1 = [])) = true := by rw [hgood.1, hgood.2]; rfl
   rw [hd] at HE
   have HE := Lib.hid HE
   have HSN := Lib.hid (HX.out.1.snd hgood.1 hgood.2)
   have HLM := Lib.hid (HX.out.1.gd hgood.1).lim
   have HMA := refMayOp_any o va vp vc W1 HX.out.2.at_ HLM.out
   clear hd
   cases hm : mayO o with
   | true =>
     rw [hm] at HMA
     have HMA := Lib.hid HMA
     have HM := Lib.hid hm
     clear hm hgood
     go_upto_region 27 with (first
       | (go_at_call 65; (with_reducible refine HE.out.mono ?_); clear HE; rintro e wE ⟨rfl, rfl⟩)
       | (go_at_call 12; (with_reducible refine HMA.out.mono ?_); clear HMA d0 d1 d2 d3 d4 d5 d6; rintro e w6 ⟨rfl, hb6⟩; dsimp only; have H6 := Lib.hid (HX.out.2.on hb6); clear hb6))
     go_wp2_with (first
       | (refine wpList_load_row rfl 27 _ rfl Bo rfl 27 (opCs o va vp vc) (0, 0) _ H6.out.oo rfl rfl (by kernel_rfl) ?_)
       | (refine wpList_store_rowTo rfl 27 _ _ rfl rfl w.heap.size (opCs o va vp vc) rfl rfl 27 zCs H6.out.rr (by kernel_rfl) rfl ?c1 ?_; case c1 => exact H6.out.one))
     obtain ⟨h7, h8, h9⟩ := H6.out.out (opCs o va vp vc)
     have t0 := h9.cell 0
     have t1 := h9.cell 1
     have t2 := h9.cell 2
     have t3 := h9.cell 3
     have t4 := h9.cell 4
     have t5 := h9.cell 5
     have t6 := h9.cell 6
     have HE2 := Lib.hid (And.intro h7 h8)
     clear h7 h8 h9
     generalize w6.setRow w.heap.size (opCs o va vp vc) = w7 at t0 t1 t2 t3 t4 t5 t6 HE2 ⊢
     refine bodyPost_ret (v := .tuple #[opVal o va vp vc, .bool true]) ?_ rfl (.inl ⟨o, va, vp, vc, HM.out, HSN.out, rfl, HE2.out.1, HLM.out, HE2.out.2⟩)
     simp at t0 t1 t2 t3 t4 t5 t6
     simp [results, Tryz.f11, go_sem, t0, t1, t2, t3, t4, t5, t6]
   | false =>
     rw [hm] at HMA
     have HMA := Lib.hid HMA
     have HNO : Hid (∀ o, mayO o = true → l ≠ opB o) := Lib.hid (HX.out.1.none (fun h => by rw [hm] at h; cases h.2.2))
     clear hm hgood
     go_upto_region 26 with (first
       | (go_at_call 65; (with_reducible refine HE.out.mono ?_); clear HE; rintro e wE ⟨rfl, rfl⟩)
       | (go_at_call 12; (with_reducible refine HMA.out.mono ?_); clear HMA d0 d1 d2 d3 d4 d5 d6; rintro e w6 ⟨rfl, hb6⟩; dsimp only; have H6 := Lib.hid (HX.out.2.on hb6); clear hb6))
     go_wp2_with (refine wpList_store_rowTo rfl 27 _ _ rfl rfl w.heap.size zCs rfl rfl 27 zCs H6.out.rr (by kernel_rfl) rfl (by kernel_rfl) ?_)
     obtain ⟨h7, h8, h9⟩ := H6.out.out zCs
     have t0 := h9.cell 0
     have t1 := h9.cell 1
     have t2 := h9.cell 2
     have t3 := h9.cell 3
     have t4 := h9.cell 4
     have t5 := h9.cell 5
     have t6 := h9.cell 6
     have HE2 := Lib.hid h8
     clear h7 h8 h9
     generalize w6.setRow w.heap.size zCs = w7 at t0 t1 t2 t3 t4 t5 t6 HE2 ⊢
     refine bodyPost_ret (v := .tuple #[.agg zCs, .bool false]) ?_ rfl (.inr ⟨HNO.out, rfl, HE2.out⟩)
     simp at t0 t1 t2 t3 t4 t5 t6
     simp [results, Tryz.f11, go_sem, t0, t1, t2, t3, t4, t5, t6]
 · have hd : (!g1 && decide (q1 = [])) = false := by
     rw [← Bool.not_eq_true]
     intro h
     simp only [Bool.and_eq_true, Bool.not_eq_true', decide_eq_true_eq] at h
     exact hgood h
   rw [hd] at HE
   have HE := Lib.hid HE
   have HNO : Hid (∀ o, mayO o = true → l ≠ opB o) := Lib.hid (HX.out.1.none (fun h => hgood ⟨h.1, h.2.1⟩))
   clear hgood hd
   go_upto_region 26 with (go_at_call 65; (with_reducible refine HE.out.mono ?_); clear HE; rintro e wE ⟨rfl, rfl⟩)
   go_wp2_with (refine wpList_store_rowTo rfl 27 _ _ rfl rfl w.heap.size zCs rfl rfl 27 zCs HX.out.2.rr (by kernel_rfl) rfl (by kernel_rfl) ?_)
   obtain ⟨h7, h8, h9⟩ := HX.out.2.out zCs
   have t0 := h9.cell 0
   have t1 := h9.cell 1
   have t2 := h9.cell 2
   have t3 := h9.cell 3
   have t4 := h9.cell 4
   have t5 := h9.cell 5
   have t6 := h9.cell 6
   have HE2 := Lib.hid h8
   clear h7 h8 h9 d0 d1 d2 d3 d4 d5 d6
   generalize wE.setRow w.heap.size zCs = w7 at t0 t1 t2 t3 t4 t5 t6 HE2 ⊢
   refine bodyPost_ret (v := .tuple #[.agg zCs, .bool false]) ?_ rfl (.inr ⟨HNO.out, rfl, HE2.out⟩)
   simp at t0 t1 t2 t3 t4 t5 t6
   simp [results, Tryz.f11, go_sem, t0, t1, t2, t3, t4, t5, t6]
set_option maxHeartbeats 16000000 in
theorem rop7 (A : Option Addr) (c : Nat) (l : List Int) (w : World) (hr : Rd w w.heap.size A l) (hby : Byt l) (hn : l.length ≤ 1000000) (hc : l.length ≤ c) (hcm : c ≤ 9223372036854775807) (hk : (numV (tk false l 1)).1 = 7) :
   Calls Tryz.prog 11 #[.slice A l.length c] w (RefOpOut w l) := by
 have hb1 : Below w.heap.size w (w.alloc (.cells zCs 27)) := (Below.refl _ _).alloc (Nat.le_refl _) _
 have kR1 := Blk.new w 27 zCs
 have hs2 := RR.new2 (w := w.alloc (.cells zCs 27)) (hr.below hb1) hc hcm hby (by omega) hb1.size
 have hb12 : Below (w.alloc (.cells zCs 27)).heap.size (w.alloc (.cells zCs 27)) ((w.alloc (.cells zCs 27)).alloc (.cells #[.slice A l.length c, .bool false] 107)) := (Below.refl _ _).alloc (Nat.le_refl _) _
 have kR2 := kR1.on hb12
 have hb2 := hb1.trans (hb12.mono hb1.size)
 rw [World.size_alloc] at hs2
 have ht1 := took_numV (f := false) (tag := 1) hby (by decide)
 have hrng := numV_range (f := false) (tag := 1) hby
 generalize hsm : numV (tk false l 1) = S1 at hk ht1 hrng
 obtain ⟨k1', f1, r1⟩ := S1
 dsimp only at hk ht1 hrng
 subst hk
 have HT1 := Lib.hid ht1
 have HSM := Lib.hid hsm
 have HBY := Lib.hid hby
 have HNL := Lib.hid hn
 obtain ⟨g, hg⟩ : ∃ g, g = w.heap.size + 1 := ⟨_, rfl⟩
 obtain ⟨n, hnn⟩ : ∃ n, n = l.length := ⟨_, rfl⟩
 rw [← hnn] at hs2 hb2 kR2 ⊢
 rw [← hg] at hs2
 have H2 := Lib.hid (And.intro hb2 (And.intro kR2 (And.intro hs2 (show w.heap.size < g by omega))))
 clear hr hby hb1 kR1 hs2 hb12 kR2 hb2 hn hnn hc hcm ht1 hsm
 go_enter Tryz.func11, Tryz.ntmps11
 go_upto_region 2 with fail
 rw [← hg]
 clear hg
 generalize (w.alloc (.cells zCs 27)).alloc (.cells #[.slice A n c, .bool false] 107) = W2 at H2 ⊢
 go_upto_region 3 with (refine wpList_store_rowTo rfl 27 _ _ rfl rfl W2.heap.size zCs rfl rfl 27 zCs (Blk.new W2 27 zCs) (by kernel_rfl) rfl (by kernel_rfl) ?_)
 have hb3 : Below W2.heap.size W2 ((W2.alloc (.cells zCs 27)).setRow W2.heap.size zCs) := below_setRow ((Below.refl _ _).alloc (Nat.le_refl _) (.cells zCs 27)) (Nat.le_refl _) _
 have kB : Blk ((W2.alloc (.cells zCs 27)).setRow W2.heap.size zCs) W2.heap.size 27 (opCs (o0 0) (.slice none 0 0) (.slice none 0 0) (.slice none 0 0)) := (Blk.new W2 27 zCs).row _
 have hgo := H2.out.2.2.1.lt
 obtain ⟨Bo, hBo⟩ : ∃ b, b = W2.heap.size := ⟨_, rfl⟩
 have hos : OR w g W2.heap.size (o0 0) (.slice none 0 0) (.slice none 0 0) (.slice none 0 0) false l ((W2.alloc (.cells zCs 27)).setRow W2.heap.size zCs) := ⟨H2.out.1.trans (hb3.mono H2.out.1.size), H2.out.2.1.on hb3, kB, H2.out.2.2.1.on hb3, H2.out.2.2.2, hgo, YtcjiofhjognklaaGreat.nil_row kA _ _, nil_row kStr _ _, RdD.nil _ _⟩
 rw [← hBo] at hos ⊢
 clear hb3 kB hgo H2 hBo
 generalize (W2.alloc (.cells zCs 27)).setRow Bo zCs = W3 at hos ⊢
 have hN := refNumberV w.heap.size g false l 1 W3 hos.rs
 rw [HSM.out] at hN
 dsimp only at hN
 have HN := Lib.hid hN
 have H3 := Lib.hid hos
 clear hN hos
 clear hrng
 have hcv : ∀ W, (convert 55 22 (.int .u64 7)).run Tryz.prog W = .ok (.int .i64 7) W := fun _ => rfl
 go_upto_region 7 with (go_at_call 60; (with_reducible refine HN.out.mono ?_); clear HN; rintro e w4 ⟨rfl, hrs, hg⟩; dsimp only; have H4 := Lib.hid (H3.out.gr hg hrs); clear hrs hg; have fz := H4.out.oo.frozen 0; have cz : w4.cell? ⟨Bo, 0, none⟩ = some (.int .i64 0) := H4.out.oo.cell 0)
 clear fz cz hcv
 have hos := H4.out.kind 7
 generalize w4.setCell ⟨Bo, 0, none⟩ (.int .i64 7) = W0 at hos ⊢
 clear H4 H3
 have hrl : r1.length ≤ 1000000 := by have h := tk_len (f := false) (r := l) (tag := 1); have h4 := numV_rest (tk false l 1); rw [HSM.out] at h4; dsimp only at h4; rw [h4]; have := HNL.out; omega
 have hby1 := hos.rs.byt
 have HC1 := Lib.hid (refList_any w.heap.size g f1 r1 5 1 W0 hos.rs hrl)
 have HT2 := Lib.hid (took_partsR (f := f1) (tag := 5) hby1 (by decide))
 have hbv := (tk_byt (f := f1) (tag := 5) hby1)
 have HO1 := Lib.hid hos
 have HRL := Lib.hid (Nat.le_trans (tk_len (f := f1) (r := r1) (tag := 5)) hrl)
 clear hos hby1 hrl
 generalize tk f1 r1 5 = t1 at HC1 HT2 hbv HRL
 generalize hl1 : (if t1.2.1 = false ∧ allT 1 (t1.1.getD []) = true then (snds (t1.1.getD [])).map u8s else []) = l1 at HT2
 generalize hg1 : (if t1.2.1 = false ∧ allT 1 (t1.1.getD []) = true then false else true) = g1 at HT2
 have HLG := Lib.hid (And.intro hl1 hg1)
 have HBV := Lib.hid hbv.2.2
 clear hl1 hg1 hbv
 go_upto_region 15 with (go_at_call 63; (with_reducible refine HC1.out.mono ?_); clear HC1; intro e V1 hta; obtain ⟨hs, Au, nu, cu, rfl, HNU, hlen, hrow, hgood, hlist, hrs, hg⟩ := listQ_out HLG.out.1 HLG.out.2 HBV.out hta; dsimp only; have HP1 := Lib.hid (HO1.out.gr hg hrs); have HR1 := Lib.hid (And.intro hrow (And.intro hgood hlist)); have HLN := Lib.hid hlen; clear hrs hg hrow hta hgood hlist hlen)
 have hnu : nu ≤ 1000000 := by have h1 := HNU.out; have h2 := HLN.out; omega
 clear HLG
 go_wp2_with fail
 go_loopw [8] (fun s8 wr => ∃ (k : Nat) (vp : Value), s8 = .int .i64 k ∧ k ≤ nu ∧ Hid (RowK kStr wr V1.heap.size vp (l1.take k) ∧ Blk wr Bo 27 (opCs (o0 7) (.slice none 0 0) vp (.slice none 0 0)) ∧ CQ 9 V1.heap.size Bo Bo V1 wr)) (fun s8 _ => nu - (intOf s8).toNat)
 case atStart => exact ⟨0, .slice none 0 0, rfl, Nat.zero_le _, Lib.hid ⟨nil_row kStr _ _, HP1.out.oo, CQ.refl _ _ _ _ _⟩⟩
 case round =>
   obtain ⟨k, vp, rfl, hk, H⟩ := hrel
   by_cases hlt : k < nu
   · have hkl : k < hs.length := by have := HNU.out; omega
     have hxm : hs.getD k default ∈ hs := by rw [List.getD_eq_getElem?_getD, List.getElem?_eq_getElem hkl]; exact List.getElem_mem _
     obtain ⟨x, hx⟩ : ∃ x, x = hs.getD k default := ⟨_, rfl⟩
     rw [← hx] at hxm
     obtain ⟨ub, uoff, hAu, hul, cu0⟩ := row_hand HR1.out.1 H.out.2.2 HP1.out.oo hkl
     rw [← hx] at cu0
     subst hAu
     have hgx := HR1.out.2.1 x hxm
     have hrdx : Rd wr wr.heap.size x.A x.bs := rd_cq hgx.1 HP1.out.oo H.out.2.2
     have hd0 : Below wr.heap.size wr wr.drew := below_drew (Below.refl _ _)
     have hcv := conv_bytes (c := x.c) ((hrdx.below hd0).more hd0.size) rfl
     have HXS : Hid (l1.take (k + 1) = l1.take k ++ [cx x.bs]) := Lib.hid (by rw [HR1.out.2.2, take_map_snoc hs k hkl, ← hx, u8s_cx])
     generalize cx x.bs = s at hcv HXS
     have q2 : wr.drew.cell? ⟨Bo, 4, none⟩ = some vp := (H.out.2.1.on hd0).cell 4
     have q3 : wr.cell? ⟨Bo, 4, none⟩ = some vp := H.out.2.1.cell 4
     have q4 : (wr.alloc (.cells #[.string (sx s)] 9)).cell? ⟨Bo, 4, none⟩ = some vp := (H.out.2.1.alloc _).cell 4
     have c2 := (hd0.cell (p := ⟨ub, uoff + k, none⟩) hul).trans cu0
     have hln5 : (l1.take k).length + [s].length ≤ 1000000000 := by have := HLN.out; rw [List.length_take]; simp; omega
     have hkD := Lib.hid (H.out.2.1.on hd0)
     have hrowD := Lib.hid (H.out.1.onT hd0)
     have hzD : V1.heap.size ≤ wr.heap.size := H.out.2.2.size
     have hrow5 := (H.out.1.alloc (.cells #[.string (sx s)] 9)).drew
     have q5 : ((wr.alloc (.cells #[.string (sx s)] 9)).drew).cell? ⟨Bo, 4, none⟩ = some vp := ((H.out.2.1.alloc (.cells #[.string (sx s)] 9)).drew).cell 4
     have hkl5 := (H.out.2.1.alloc (.cells #[.string (sx s)] 9)).drew
     have hle5 : V1.heap.size ≤ ((wr.alloc (.cells #[.string (sx s)] 9)).drew).heap.size := by show _ ≤ (wr.alloc (.cells #[.string (sx s)] 9)).heap.size; rw [World.size_alloc]; omega
     have hkk : k < nu := hlt
     clear hgx hrdx hxm cu0 hx
     go_wp2_with fail
     go_region_law (first
       | (refine step_app (K := kStr) (w := (wr.alloc _).drew) (by rfl) _ _ (by rfl) [s] (by rfl) hrow5 (by rfl) (rd_block (K := kStr) (l := [s]) (Blk.new _ _ _) rfl) (fun h => by cases h) hln5 hle5 ?_; intro v6 w6 hrow6 hgr6; have hk6 := hkl5.grown hgr6 (fun e => by
           obtain ⟨_, _, cs, hc⟩ := own_atT hrow5 e.symm
           exact blk_ne hkl5 hc (by decide) rfl); have q6 : w6.cell? ⟨Bo, 4, none⟩ = some vp := hk6.cell 4; have f6 : w6.frozen? ⟨Bo, 4, none⟩ = false := hk6.frozen 4; obtain ⟨A6, c66, n6, HN6, e6, _, _⟩ := hrow6.rdn; subst e6))
     all_goals
       have hk7 := hk6.set_ 4 (.slice A6 n6 c66)
       have hrow7 : RowK kStr (w6.setCell ⟨Bo, 4, none⟩ (.slice A6 n6 c66)) V1.heap.size (.slice A6 n6 c66) (l1.take (k + 1)) := by rw [HXS.out]; exact RowK.setT hrow6 hk6 (by decide)
       have hce3 : CQ 9 V1.heap.size Bo Bo wr ((wr.alloc (.cells #[.string (sx s)] 9)).drew) := CQ.bel (below_drew ((Below.refl _ _).alloc (Nat.le_refl _) _)) hzD
       have hce4 : CQ 9 V1.heap.size Bo Bo ((wr.alloc (.cells #[.string (sx s)] 9)).drew) w6 := CQ.row (K := kStr) hgr6 hrow5 (Nat.le_refl _) hle5
       have hce := ((H.out.2.2.trans hce3).trans hce4).trans (CQ.setB w6 4 (.slice A6 n6 c66))
       have HF := Lib.hid (And.intro hrow7 (And.intro hk7 hce))
       clear hk7 hrow7 hce3 hce4 hce hk6 hrow6 hgr6 hkl5 hrow5 q2 q3 q4 q5 q6 f6 c2 hcv hd0 hle5
       generalize w6.setCell ⟨Bo, 4, none⟩ (.slice A6 n6 c66) = w7 at HF ⊢
       go_wp2_with fail
       go_roundw
       case rel => exact ⟨k + 1, _, by go_num, by omega, HF⟩
       case measure => simp [intOf]; omega
   · have hkn : k = nu := by omega
     have HOX := Lib.hid (or_parts HP1.out H.out.2.2 H.out.2.1 (by have h := H.out.1; rw [List.take_of_length_le (by have h1 := HR1.out.2.2; have h2 := HNU.out; rw [h1, List.length_map]; omega)] at h; exact h))
     have hrl : t1.2.2.length ≤ 1000000 := HRL.out
     clear hkn H
     have hos := HOX.out
     clear HOX HP1 HO1 HR1 HRL HBV HNU HLN
     have hby2 := hos.rs.byt
     have HC2 := Lib.hid (refTake_any w.heap.size g g1 t1.2.2 6 wr hos.rs)
     have HT3 := Lib.hid (took_bytes (f := g1) (tag := 6) hby2 (by decide))
     have hrl2 : (tk g1 t1.2.2 6).2.2.length ≤ 1000000 := Nat.le_trans tk_len hrl
     have HO2 := Lib.hid hos
     clear hos hby2 hrl
     have hrl := hrl2
     clear hrl2
     generalize tk g1 t1.2.2 6 = t2 at HC2 HT3 hrl
     go_upto_region 21 with (go_at_call 64; (with_reducible refine HC2.out.mono ?_); clear HC2; intro e V2 hta; obtain ⟨vcu, rfl, hrd, hrs, hg⟩ := take_rdD hta; obtain ⟨Ac, cc, nc, rfl, HNc⟩ := rdD_len hrd; dsimp only; have HP2 := Lib.hid (HO2.out.gr hg hrs); have HR2 := Lib.hid hrd; clear hrs hg hrd hta; have fz := HP2.out.oo.frozen 5; have cz : V2.cell? ⟨Bo, 5, none⟩ = some (.slice none 0 0) := HP2.out.oo.cell 5)
     clear fz cz
     have hos := HP2.out.cur (.slice Ac nc cc) _ HR2.out
     generalize V2.setCell ⟨Bo, 5, none⟩ (.slice Ac nc cc) = W2 at hos ⊢
     clear HP2 HO2 HR2
     have hby3 := hos.rs.byt
     have HC3 := Lib.hid (refNumberV w.heap.size g t2.2.1 t2.2.2 7 W2 hos.rs)
     have HTs := Lib.hid (took_smallV (f := t2.2.1) (tag := 7) (m := 1000) hby3 (by decide) (by decide))
     obtain ⟨hn0, hn1⟩ := numV_range (f := t2.2.1) (tag := 7) hby3
     have hsv : Hid (smallV 1000 (tk t2.2.1 t2.2.2 7) = if 1000 < (numV (tk t2.2.1 t2.2.2 7)).1 then (0, true, (numV (tk t2.2.1 t2.2.2 7)).2.2) else numV (tk t2.2.1 t2.2.2 7)) := Lib.hid rfl
     generalize smallV 1000 (tk t2.2.1 t2.2.2 7) = S7 at HTs hsv
     generalize numV (tk t2.2.1 t2.2.2 7) = x7 at HC3 hn0 hn1 hsv
     obtain ⟨m3, g3, q3⟩ := x7
     dsimp only at HC3 hn0 hn1 hsv
     have HO3 := Lib.hid hos
     clear hos hby3 hrl
     by_cases hbig : 1000 < m3
     · have hs7 := hsv.out
       rw [if_pos hbig] at hs7
       subst hs7
       have HT4 := HTs
       have HNN : Hid (∀ o, mayO o = true → l ≠ opB o) := Lib.hid ((fin_P (by decide) HT1.out rfl HBY.out HT2.out HT3.out HT4.out : Fin1 l _ _ _).none (fun h => by cases h.1))
       clear HTs
       go_upto_region 23 with (go_at_call 60; (with_reducible refine HC3.out.mono ?_); clear HC3; rintro e V3 ⟨rfl, hrs, hg⟩; dsimp only; have HP3 := Lib.hid (HO3.out.gr hg hrs); clear hrs hg)
       go_wp2_with (refine wpList_store_rowTo rfl 27 _ _ rfl rfl w.heap.size zCs rfl rfl 27 zCs HP3.out.rr (by kernel_rfl) rfl (by kernel_rfl) ?_)
       obtain ⟨h7, h8, h9⟩ := HP3.out.out zCs
       have t0 := h9.cell 0
       have t1 := h9.cell 1
       have t2 := h9.cell 2
       have t3 := h9.cell 3
       have t4 := h9.cell 4
       have t5 := h9.cell 5
       have t6 := h9.cell 6
       have HE2 := Lib.hid h8
       clear h7 h8 h9
       generalize V3.setRow w.heap.size zCs = w7 at t0 t1 t2 t3 t4 t5 t6 HE2 ⊢
       refine bodyPost_ret (v := .tuple #[.agg zCs, .bool false]) ?_ rfl (.inr ⟨HNN.out, rfl, HE2.out⟩)
       simp at t0 t1 t2 t3 t4 t5 t6
       simp [results, Tryz.f11, go_sem, t0, t1, t2, t3, t4, t5, t6]
     have hs7 := hsv.out
     rw [if_neg hbig] at hs7
     subst hs7
     have HT4 := HTs
     dsimp only at HT4
     have hwn : IntKind.i64.wrap m3 = m3 := IntWalk.i64_in _ (by omega)
     clear HTs
     go_upto_region 25 with (go_at_call 60; (with_reducible refine HC3.out.mono ?_); clear HC3; rintro e V3 ⟨rfl, hrs, hg⟩; dsimp only; have HP3 := Lib.hid (HO3.out.gr hg hrs); clear hrs hg; have fz := HP3.out.oo.frozen 6; have cz : V3.cell? ⟨Bo, 6, none⟩ = some (.int .i64 0) := HP3.out.oo.cell 6)
     clear fz cz hwn
     have hos := HP3.out.num m3
     generalize V3.setCell ⟨Bo, 6, none⟩ (.int .i64 m3) = W3 at hos ⊢
     clear HP3 HO3 hbig hn0 hn1
     have HX : ∃ (o : Opn) (va vp vc : Value), Hid (Fin1 l o g3 q3 ∧ OR w g Bo o va vp vc g3 q3 W3) := ⟨_, _, _, _, Lib.hid ⟨fin_P (by decide) HT1.out rfl HBY.out HT2.out HT3.out HT4.out, hos⟩⟩
     clear hos
     obtain ⟨o, va, vp, vc, HX⟩ := HX
     have d0 : W3.cell? ⟨Bo, 0, none⟩ = some (.int .i64 o.k) := HX.out.2.oo.cell 0
     have d1 : W3.cell? ⟨Bo, 1, none⟩ = some (.string (sx o.name)) := HX.out.2.oo.cell 1
     have d2 : W3.cell? ⟨Bo, 2, none⟩ = some (.string (sx o.dst)) := HX.out.2.oo.cell 2
     have d3 : W3.cell? ⟨Bo, 3, none⟩ = some va := HX.out.2.oo.cell 3
     have d4 : W3.cell? ⟨Bo, 4, none⟩ = some vp := HX.out.2.oo.cell 4
     have d5 : W3.cell? ⟨Bo, 5, none⟩ = some vc := HX.out.2.oo.cell 5
     have d6 : W3.cell? ⟨Bo, 6, none⟩ = some (.int .i64 o.n) := HX.out.2.oo.cell 6
     have HE := refDone_any w.heap.size g g3 q3 W3 HX.out.2.rs
     by_cases hgood : g3 = false ∧ q3 = []
     · have hd : (!g3 && decide (q3 = [])) = true := by rw [hgood.1, hgood.2]; rfl
       rw [hd] at HE
       have HE := Lib.hid HE
       have HSN := Lib.hid (HX.out.1.snd hgood.1 hgood.2)
       have HLM := Lib.hid (HX.out.1.gd hgood.1).lim
       have HMA := refMayOp_any o va vp vc W3 HX.out.2.at_ HLM.out
       clear hd
       cases hm : mayO o with
       | true =>
         rw [hm] at HMA
         have HMA := Lib.hid HMA
         have HM := Lib.hid hm
         clear hm hgood
         go_upto_region 27 with (first
           | (go_at_call 65; (with_reducible refine HE.out.mono ?_); clear HE; rintro e wE ⟨rfl, rfl⟩)
           | (go_at_call 12; (with_reducible refine HMA.out.mono ?_); clear HMA d0 d1 d2 d3 d4 d5 d6; rintro e w6 ⟨rfl, hb6⟩; dsimp only; have H6 := Lib.hid (HX.out.2.on hb6); clear hb6))
         go_wp2_with (first
           | (refine wpList_load_row rfl 27 _ rfl Bo rfl 27 (opCs o va vp vc) (0, 0) _ H6.out.oo rfl rfl (by kernel_rfl) ?_)
           | (refine wpList_store_rowTo rfl 27 _ _ rfl rfl w.heap.size (opCs o va vp vc) rfl rfl 27 zCs H6.out.rr (by kernel_rfl) rfl ?c1 ?_; case c1 => exact H6.out.one))
         obtain ⟨h7, h8, h9⟩ := H6.out.out (opCs o va vp vc)
         have t0 := h9.cell 0
         have t1 := h9.cell 1
         have t2 := h9.cell 2
         have t3 := h9.cell 3
         have t4 := h9.cell 4
         have t5 := h9.cell 5
         have t6 := h9.cell 6
         have HE2 := Lib.hid (And.intro h7 h8)
         clear h7 h8 h9
         generalize w6.setRow w.heap.size (opCs o va vp vc) = w7 at t0 t1 t2 t3 t4 t5 t6 HE2 ⊢
         refine bodyPost_ret (v := .tuple #[opVal o va vp vc, .bool true]) ?_ rfl (.inl ⟨o, va, vp, vc, HM.out, HSN.out, rfl, HE2.out.1, HLM.out, HE2.out.2⟩)
         simp at t0 t1 t2 t3 t4 t5 t6
         simp [results, Tryz.f11, go_sem, t0, t1, t2, t3, t4, t5, t6]
       | false =>
         rw [hm] at HMA
         have HMA := Lib.hid HMA
         have HNO : Hid (∀ o, mayO o = true → l ≠ opB o) := Lib.hid (HX.out.1.none (fun h => by rw [hm] at h; cases h.2.2))
         clear hm hgood
         go_upto_region 26 with (first
           | (go_at_call 65; (with_reducible refine HE.out.mono ?_); clear HE; rintro e wE ⟨rfl, rfl⟩)
           | (go_at_call 12; (with_reducible refine HMA.out.mono ?_); clear HMA d0 d1 d2 d3 d4 d5 d6; rintro e w6 ⟨rfl, hb6⟩; dsimp only; have H6 := Lib.hid (HX.out.2.on hb6); clear hb6))
         go_wp2_with (refine wpList_store_rowTo rfl 27 _ _ rfl rfl w.heap.size zCs rfl rfl 27 zCs H6.out.rr (by kernel_rfl) rfl (by kernel_rfl) ?_)
         obtain ⟨h7, h8, h9⟩ := H6.out.out zCs
         have t0 := h9.cell 0
         have t1 := h9.cell 1
         have t2 := h9.cell 2
         have t3 := h9.cell 3
         have t4 := h9.cell 4
         have t5 := h9.cell 5
         have t6 := h9.cell 6
         have HE2 := Lib.hid h8
         clear h7 h8 h9
         generalize w6.setRow w.heap.size zCs = w7 at t0 t1 t2 t3 t4 t5 t6 HE2 ⊢
         refine bodyPost_ret (v := .tuple #[.agg zCs, .bool false]) ?_ rfl (.inr ⟨HNO.out, rfl, HE2.out⟩)
         simp at t0 t1 t2 t3 t4 t5 t6
         simp [results, Tryz.f11, go_sem, t0, t1, t2, t3, t4, t5, t6]
     · have hd : (!g3 && decide (q3 = [])) = false := by
         rw [← Bool.not_eq_true]
         intro h
         simp only [Bool.and_eq_true, Bool.not_eq_true', decide_eq_true_eq] at h
         exact hgood h
       rw [hd] at HE
       have HE := Lib.hid HE
       have HNO : Hid (∀ o, mayO o = true → l ≠ opB o) := Lib.hid (HX.out.1.none (fun h => hgood ⟨h.1, h.2.1⟩))
       clear hgood hd
       go_upto_region 26 with (go_at_call 65; (with_reducible refine HE.out.mono ?_); clear HE; rintro e wE ⟨rfl, rfl⟩)
       go_wp2_with (refine wpList_store_rowTo rfl 27 _ _ rfl rfl w.heap.size zCs rfl rfl 27 zCs HX.out.2.rr (by kernel_rfl) rfl (by kernel_rfl) ?_)
       obtain ⟨h7, h8, h9⟩ := HX.out.2.out zCs
       have t0 := h9.cell 0
       have t1 := h9.cell 1
       have t2 := h9.cell 2
       have t3 := h9.cell 3
       have t4 := h9.cell 4
       have t5 := h9.cell 5
       have t6 := h9.cell 6
       have HE2 := Lib.hid h8
       clear h7 h8 h9 d0 d1 d2 d3 d4 d5 d6
       generalize wE.setRow w.heap.size zCs = w7 at t0 t1 t2 t3 t4 t5 t6 HE2 ⊢
       refine bodyPost_ret (v := .tuple #[.agg zCs, .bool false]) ?_ rfl (.inr ⟨HNO.out, rfl, HE2.out⟩)
       simp at t0 t1 t2 t3 t4 t5 t6
       simp [results, Tryz.f11, go_sem, t0, t1, t2, t3, t4, t5, t6]
set_option maxHeartbeats 16000000 in
theorem rop8 (A : Option Addr) (c : Nat) (l : List Int) (w : World) (hr : Rd w w.heap.size A l) (hby : Byt l) (hn : l.length ≤ 1000000) (hc : l.length ≤ c) (hcm : c ≤ 9223372036854775807) (hk : (numV (tk false l 1)).1 = 8) :
   Calls Tryz.prog 11 #[.slice A l.length c] w (RefOpOut w l) := by
 have hb1 : Below w.heap.size w (w.alloc (.cells zCs 27)) := (Below.refl _ _).alloc (Nat.le_refl _) _
 have kR1 := Blk.new w 27 zCs
 have hs2 := RR.new2 (w := w.alloc (.cells zCs 27)) (hr.below hb1) hc hcm hby (by omega) hb1.size
 have hb12 : Below (w.alloc (.cells zCs 27)).heap.size (w.alloc (.cells zCs 27)) ((w.alloc (.cells zCs 27)).alloc (.cells #[.slice A l.length c, .bool false] 107)) := (Below.refl _ _).alloc (Nat.le_refl _) _
 have kR2 := kR1.on hb12
 have hb2 := hb1.trans (hb12.mono hb1.size)
 rw [World.size_alloc] at hs2
 have ht1 := took_numV (f := false) (tag := 1) hby (by decide)
 have hrng := numV_range (f := false) (tag := 1) hby
 generalize hsm : numV (tk false l 1) = S1 at hk ht1 hrng
 obtain ⟨k1', f1, r1⟩ := S1
 dsimp only at hk ht1 hrng
 subst hk
 have HT1 := Lib.hid ht1
 have HSM := Lib.hid hsm
 have HBY := Lib.hid hby
 have HNL := Lib.hid hn
 obtain ⟨g, hg⟩ : ∃ g, g = w.heap.size + 1 := ⟨_, rfl⟩
 obtain ⟨n, hnn⟩ : ∃ n, n = l.length := ⟨_, rfl⟩
 rw [← hnn] at hs2 hb2 kR2 ⊢
 rw [← hg] at hs2
 have H2 := Lib.hid (And.intro hb2 (And.intro kR2 (And.intro hs2 (show w.heap.size < g by omega))))
 clear hr hby hb1 kR1 hs2 hb12 kR2 hb2 hn hnn hc hcm ht1 hsm
 go_enter Tryz.func11, Tryz.ntmps11
 go_upto_region 2 with fail
 rw [← hg]
 clear hg
 generalize (w.alloc (.cells zCs 27)).alloc (.cells #[.slice A n c, .bool false] 107) = W2 at H2 ⊢
 go_upto_region 3 with (refine wpList_store_rowTo rfl 27 _ _ rfl rfl W2.heap.size zCs rfl rfl 27 zCs (Blk.new W2 27 zCs) (by kernel_rfl) rfl (by kernel_rfl) ?_)
 have hb3 : Below W2.heap.size W2 ((W2.alloc (.cells zCs 27)).setRow W2.heap.size zCs) := below_setRow ((Below.refl _ _).alloc (Nat.le_refl _) (.cells zCs 27)) (Nat.le_refl _) _
 have kB : Blk ((W2.alloc (.cells zCs 27)).setRow W2.heap.size zCs) W2.heap.size 27 (opCs (o0 0) (.slice none 0 0) (.slice none 0 0) (.slice none 0 0)) := (Blk.new W2 27 zCs).row _
 have hgo := H2.out.2.2.1.lt
 obtain ⟨Bo, hBo⟩ : ∃ b, b = W2.heap.size := ⟨_, rfl⟩
 have hos : OR w g W2.heap.size (o0 0) (.slice none 0 0) (.slice none 0 0) (.slice none 0 0) false l ((W2.alloc (.cells zCs 27)).setRow W2.heap.size zCs) := ⟨H2.out.1.trans (hb3.mono H2.out.1.size), H2.out.2.1.on hb3, kB, H2.out.2.2.1.on hb3, H2.out.2.2.2, hgo, YtcjiofhjognklaaGreat.nil_row kA _ _, nil_row kStr _ _, RdD.nil _ _⟩
 rw [← hBo] at hos ⊢
 clear hb3 kB hgo H2 hBo
 generalize (W2.alloc (.cells zCs 27)).setRow Bo zCs = W3 at hos ⊢
 have hN := refNumberV w.heap.size g false l 1 W3 hos.rs
 rw [HSM.out] at hN
 dsimp only at hN
 have HN := Lib.hid hN
 have H3 := Lib.hid hos
 clear hN hos
 clear hrng
 have hcv : ∀ W, (convert 55 22 (.int .u64 8)).run Tryz.prog W = .ok (.int .i64 8) W := fun _ => rfl
 go_upto_region 7 with (go_at_call 60; (with_reducible refine HN.out.mono ?_); clear HN; rintro e w4 ⟨rfl, hrs, hg⟩; dsimp only; have H4 := Lib.hid (H3.out.gr hg hrs); clear hrs hg; have fz := H4.out.oo.frozen 0; have cz : w4.cell? ⟨Bo, 0, none⟩ = some (.int .i64 0) := H4.out.oo.cell 0)
 clear fz cz hcv
 have hos := H4.out.kind 8
 generalize w4.setCell ⟨Bo, 0, none⟩ (.int .i64 8) = W0 at hos ⊢
 clear H4 H3
 have hrl : r1.length ≤ 1000000 := by have h := tk_len (f := false) (r := l) (tag := 1); have h4 := numV_rest (tk false l 1); rw [HSM.out] at h4; dsimp only at h4; rw [h4]; have := HNL.out; omega
 have hby1 := hos.rs.byt
 have HC1 := Lib.hid (refTake_any w.heap.size g f1 r1 6 W0 hos.rs)
 have HT2 := Lib.hid (took_bytes (f := f1) (tag := 6) hby1 (by decide))
 have hrl1 : (tk f1 r1 6).2.2.length ≤ 1000000 := Nat.le_trans tk_len hrl
 have HO1 := Lib.hid hos
 clear hos hby1 hrl
 have hrl := hrl1
 clear hrl1
 generalize tk f1 r1 6 = t1 at HC1 HT2 hrl
 go_upto_region 21 with (go_at_call 64; (with_reducible refine HC1.out.mono ?_); clear HC1; intro e V1 hta; obtain ⟨vcu, rfl, hrd, hrs, hg⟩ := take_rdD hta; obtain ⟨Ac, cc, nc, rfl, HNc⟩ := rdD_len hrd; dsimp only; have HP1 := Lib.hid (HO1.out.gr hg hrs); have HR1 := Lib.hid hrd; clear hrs hg hrd hta; have fz := HP1.out.oo.frozen 5; have cz : V1.cell? ⟨Bo, 5, none⟩ = some (.slice none 0 0) := HP1.out.oo.cell 5)
 clear fz cz
 have hos := HP1.out.cur (.slice Ac nc cc) _ HR1.out
 generalize V1.setCell ⟨Bo, 5, none⟩ (.slice Ac nc cc) = W1 at hos ⊢
 clear HP1 HO1 HR1
 have hby2 := hos.rs.byt
 have HC2 := Lib.hid (refNumberV w.heap.size g t1.2.1 t1.2.2 7 W1 hos.rs)
 have HTs := Lib.hid (took_smallV (f := t1.2.1) (tag := 7) (m := 1000) hby2 (by decide) (by decide))
 obtain ⟨hn0, hn1⟩ := numV_range (f := t1.2.1) (tag := 7) hby2
 have hsv : Hid (smallV 1000 (tk t1.2.1 t1.2.2 7) = if 1000 < (numV (tk t1.2.1 t1.2.2 7)).1 then (0, true, (numV (tk t1.2.1 t1.2.2 7)).2.2) else numV (tk t1.2.1 t1.2.2 7)) := Lib.hid rfl
 generalize smallV 1000 (tk t1.2.1 t1.2.2 7) = S7 at HTs hsv
 generalize numV (tk t1.2.1 t1.2.2 7) = x7 at HC2 hn0 hn1 hsv
 obtain ⟨m2, g2, q2⟩ := x7
 dsimp only at HC2 hn0 hn1 hsv
 have HO2 := Lib.hid hos
 clear hos hby2 hrl
 by_cases hbig : 1000 < m2
 · have hs7 := hsv.out
   rw [if_pos hbig] at hs7
   subst hs7
   have HT3 := HTs
   have HNN : Hid (∀ o, mayO o = true → l ≠ opB o) := Lib.hid ((fin_G (by decide) HT1.out rfl HBY.out HT2.out HT3.out : Fin1 l _ _ _).none (fun h => by cases h.1))
   clear HTs
   go_upto_region 23 with (go_at_call 60; (with_reducible refine HC2.out.mono ?_); clear HC2; rintro e V2 ⟨rfl, hrs, hg⟩; dsimp only; have HP2 := Lib.hid (HO2.out.gr hg hrs); clear hrs hg)
   go_wp2_with (refine wpList_store_rowTo rfl 27 _ _ rfl rfl w.heap.size zCs rfl rfl 27 zCs HP2.out.rr (by kernel_rfl) rfl (by kernel_rfl) ?_)
   obtain ⟨h7, h8, h9⟩ := HP2.out.out zCs
   have t0 := h9.cell 0
   have t1 := h9.cell 1
   have t2 := h9.cell 2
   have t3 := h9.cell 3
   have t4 := h9.cell 4
   have t5 := h9.cell 5
   have t6 := h9.cell 6
   have HE2 := Lib.hid h8
   clear h7 h8 h9
   generalize V2.setRow w.heap.size zCs = w7 at t0 t1 t2 t3 t4 t5 t6 HE2 ⊢
   refine bodyPost_ret (v := .tuple #[.agg zCs, .bool false]) ?_ rfl (.inr ⟨HNN.out, rfl, HE2.out⟩)
   simp at t0 t1 t2 t3 t4 t5 t6
   simp [results, Tryz.f11, go_sem, t0, t1, t2, t3, t4, t5, t6]
 have hs7 := hsv.out
 rw [if_neg hbig] at hs7
 subst hs7
 have HT3 := HTs
 dsimp only at HT3
 have hwn : IntKind.i64.wrap m2 = m2 := IntWalk.i64_in _ (by omega)
 clear HTs
 go_upto_region 25 with (go_at_call 60; (with_reducible refine HC2.out.mono ?_); clear HC2; rintro e V2 ⟨rfl, hrs, hg⟩; dsimp only; have HP2 := Lib.hid (HO2.out.gr hg hrs); clear hrs hg; have fz := HP2.out.oo.frozen 6; have cz : V2.cell? ⟨Bo, 6, none⟩ = some (.int .i64 0) := HP2.out.oo.cell 6)
 clear fz cz hwn
 have hos := HP2.out.num m2
 generalize V2.setCell ⟨Bo, 6, none⟩ (.int .i64 m2) = W2 at hos ⊢
 clear HP2 HO2 hbig hn0 hn1
 have HX : ∃ (o : Opn) (va vp vc : Value), Hid (Fin1 l o g2 q2 ∧ OR w g Bo o va vp vc g2 q2 W2) := ⟨_, _, _, _, Lib.hid ⟨fin_G (by decide) HT1.out rfl HBY.out HT2.out HT3.out, hos⟩⟩
 clear hos
 obtain ⟨o, va, vp, vc, HX⟩ := HX
 have d0 : W2.cell? ⟨Bo, 0, none⟩ = some (.int .i64 o.k) := HX.out.2.oo.cell 0
 have d1 : W2.cell? ⟨Bo, 1, none⟩ = some (.string (sx o.name)) := HX.out.2.oo.cell 1
 have d2 : W2.cell? ⟨Bo, 2, none⟩ = some (.string (sx o.dst)) := HX.out.2.oo.cell 2
 have d3 : W2.cell? ⟨Bo, 3, none⟩ = some va := HX.out.2.oo.cell 3
 have d4 : W2.cell? ⟨Bo, 4, none⟩ = some vp := HX.out.2.oo.cell 4
 have d5 : W2.cell? ⟨Bo, 5, none⟩ = some vc := HX.out.2.oo.cell 5
 have d6 : W2.cell? ⟨Bo, 6, none⟩ = some (.int .i64 o.n) := HX.out.2.oo.cell 6
 have HE := refDone_any w.heap.size g g2 q2 W2 HX.out.2.rs
 by_cases hgood : g2 = false ∧ q2 = []
 · have hd : (!g2 && decide (q2 = [])) = true := by rw [hgood.1, hgood.2]; rfl
   rw [hd] at HE
   have HE := Lib.hid HE
   have HSN := Lib.hid (HX.out.1.snd hgood.1 hgood.2)
   have HLM := Lib.hid (HX.out.1.gd hgood.1).lim
   have HMA := refMayOp_any o va vp vc W2 HX.out.2.at_ HLM.out
   clear hd
   cases hm : mayO o with
   | true =>
     rw [hm] at HMA
     have HMA := Lib.hid HMA
     have HM := Lib.hid hm
     clear hm hgood
     go_upto_region 27 with (first
       | (go_at_call 65; (with_reducible refine HE.out.mono ?_); clear HE; rintro e wE ⟨rfl, rfl⟩)
       | (go_at_call 12; (with_reducible refine HMA.out.mono ?_); clear HMA d0 d1 d2 d3 d4 d5 d6; rintro e w6 ⟨rfl, hb6⟩; dsimp only; have H6 := Lib.hid (HX.out.2.on hb6); clear hb6))
     go_wp2_with (first
       | (refine wpList_load_row rfl 27 _ rfl Bo rfl 27 (opCs o va vp vc) (0, 0) _ H6.out.oo rfl rfl (by kernel_rfl) ?_)
       | (refine wpList_store_rowTo rfl 27 _ _ rfl rfl w.heap.size (opCs o va vp vc) rfl rfl 27 zCs H6.out.rr (by kernel_rfl) rfl ?c1 ?_; case c1 => exact H6.out.one))
     obtain ⟨h7, h8, h9⟩ := H6.out.out (opCs o va vp vc)
     have t0 := h9.cell 0
     have t1 := h9.cell 1
     have t2 := h9.cell 2
     have t3 := h9.cell 3
     have t4 := h9.cell 4
     have t5 := h9.cell 5
     have t6 := h9.cell 6
     have HE2 := Lib.hid (And.intro h7 h8)
     clear h7 h8 h9
     generalize w6.setRow w.heap.size (opCs o va vp vc) = w7 at t0 t1 t2 t3 t4 t5 t6 HE2 ⊢
     refine bodyPost_ret (v := .tuple #[opVal o va vp vc, .bool true]) ?_ rfl (.inl ⟨o, va, vp, vc, HM.out, HSN.out, rfl, HE2.out.1, HLM.out, HE2.out.2⟩)
     simp at t0 t1 t2 t3 t4 t5 t6
     simp [results, Tryz.f11, go_sem, t0, t1, t2, t3, t4, t5, t6]
   | false =>
     rw [hm] at HMA
     have HMA := Lib.hid HMA
     have HNO : Hid (∀ o, mayO o = true → l ≠ opB o) := Lib.hid (HX.out.1.none (fun h => by rw [hm] at h; cases h.2.2))
     clear hm hgood
     go_upto_region 26 with (first
       | (go_at_call 65; (with_reducible refine HE.out.mono ?_); clear HE; rintro e wE ⟨rfl, rfl⟩)
       | (go_at_call 12; (with_reducible refine HMA.out.mono ?_); clear HMA d0 d1 d2 d3 d4 d5 d6; rintro e w6 ⟨rfl, hb6⟩; dsimp only; have H6 := Lib.hid (HX.out.2.on hb6); clear hb6))
     go_wp2_with (refine wpList_store_rowTo rfl 27 _ _ rfl rfl w.heap.size zCs rfl rfl 27 zCs H6.out.rr (by kernel_rfl) rfl (by kernel_rfl) ?_)
     obtain ⟨h7, h8, h9⟩ := H6.out.out zCs
     have t0 := h9.cell 0
     have t1 := h9.cell 1
     have t2 := h9.cell 2
     have t3 := h9.cell 3
     have t4 := h9.cell 4
     have t5 := h9.cell 5
     have t6 := h9.cell 6
     have HE2 := Lib.hid h8
     clear h7 h8 h9
     generalize w6.setRow w.heap.size zCs = w7 at t0 t1 t2 t3 t4 t5 t6 HE2 ⊢
     refine bodyPost_ret (v := .tuple #[.agg zCs, .bool false]) ?_ rfl (.inr ⟨HNO.out, rfl, HE2.out⟩)
     simp at t0 t1 t2 t3 t4 t5 t6
     simp [results, Tryz.f11, go_sem, t0, t1, t2, t3, t4, t5, t6]
 · have hd : (!g2 && decide (q2 = [])) = false := by
     rw [← Bool.not_eq_true]
     intro h
     simp only [Bool.and_eq_true, Bool.not_eq_true', decide_eq_true_eq] at h
     exact hgood h
   rw [hd] at HE
   have HE := Lib.hid HE
   have HNO : Hid (∀ o, mayO o = true → l ≠ opB o) := Lib.hid (HX.out.1.none (fun h => hgood ⟨h.1, h.2.1⟩))
   clear hgood hd
   go_upto_region 26 with (go_at_call 65; (with_reducible refine HE.out.mono ?_); clear HE; rintro e wE ⟨rfl, rfl⟩)
   go_wp2_with (refine wpList_store_rowTo rfl 27 _ _ rfl rfl w.heap.size zCs rfl rfl 27 zCs HX.out.2.rr (by kernel_rfl) rfl (by kernel_rfl) ?_)
   obtain ⟨h7, h8, h9⟩ := HX.out.2.out zCs
   have t0 := h9.cell 0
   have t1 := h9.cell 1
   have t2 := h9.cell 2
   have t3 := h9.cell 3
   have t4 := h9.cell 4
   have t5 := h9.cell 5
   have t6 := h9.cell 6
   have HE2 := Lib.hid h8
   clear h7 h8 h9 d0 d1 d2 d3 d4 d5 d6
   generalize wE.setRow w.heap.size zCs = w7 at t0 t1 t2 t3 t4 t5 t6 HE2 ⊢
   refine bodyPost_ret (v := .tuple #[.agg zCs, .bool false]) ?_ rfl (.inr ⟨HNO.out, rfl, HE2.out⟩)
   simp at t0 t1 t2 t3 t4 t5 t6
   simp [results, Tryz.f11, go_sem, t0, t1, t2, t3, t4, t5, t6]
end Go.Proofs.YtcjiofhjognklaaGreat.Tlv
