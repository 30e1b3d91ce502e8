/- The operation of bytes, by the document. -/
import Derived.Test.YtcjiofhjognklaaGreatV43
namespace Go.Proofs.YtcjiofhjognklaaGreat.Tlv
open Go.RowKit
set_option maxRecDepth 100000
set_option linter.unusedVariables false
set_option linter.unusedSimpArgs false
set_option maxHeartbeats 16000000 in
theorem ropNo1 (A : Option Addr) (c : Nat) (l : List Int) (k : Int) (w : World) (hr : Rd w w.heap.size A l) (hby : Byt l) (hn : l.length ≤ 1000000) (hc : l.length ≤ c) (hcm : c ≤ 9223372036854775807) (hk : (numV (tk false l 1)).1 = k) (hno : isK k = false) (hlt : k < 1) :
   Calls Tryz.prog 11 #[.slice A l.length c] w (RefOpOut w l) := by
 have hb1 : Below w.heap.size w (w.alloc (.cells zCs 27)) := (Below.refl _ _).alloc (Nat.le_refl _) _
 have kR1 := Blk.new w 27 zCs
 have hs2 := RR.new2 (w := w.alloc (.cells zCs 27)) (hr.below hb1) hc hcm hby (by omega) hb1.size
 have hb12 : Below (w.alloc (.cells zCs 27)).heap.size (w.alloc (.cells zCs 27)) ((w.alloc (.cells zCs 27)).alloc (.cells #[.slice A l.length c, .bool false] 107)) := (Below.refl _ _).alloc (Nat.le_refl _) _
 have kR2 := kR1.on hb12
 have hb2 := hb1.trans (hb12.mono hb1.size)
 rw [World.size_alloc] at hs2
 have ht1 := took_numV (f := false) (tag := 1) hby (by decide)
 have hrng := numV_range (f := false) (tag := 1) hby
 generalize hsm : numV (tk false l 1) = S1 at hk ht1 hrng
 obtain ⟨k1', f1, r1⟩ := S1
 dsimp only at hk ht1 hrng
 have hk2 := hk.symm; clear hk; subst hk2
 have HT1 := Lib.hid ht1
 have HSM := Lib.hid hsm
 have HBY := Lib.hid hby
 have HNL := Lib.hid hn
 obtain ⟨g, hg⟩ : ∃ g, g = w.heap.size + 1 := ⟨_, rfl⟩
 obtain ⟨n, hnn⟩ : ∃ n, n = l.length := ⟨_, rfl⟩
 rw [← hnn] at hs2 hb2 kR2 ⊢
 rw [← hg] at hs2
 have H2 := Lib.hid (And.intro hb2 (And.intro kR2 (And.intro hs2 (show w.heap.size < g by omega))))
 clear hr hby hb1 kR1 hs2 hb12 kR2 hb2 hn hnn hc hcm ht1 hsm
 have HNN : Hid (∀ o, mayO o = true → l ≠ opB o) := Lib.hid (fin_no (by decide) HT1.out hno)
 clear hno
 go_enter Tryz.func11, Tryz.ntmps11
 go_upto_region 2 with fail
 rw [← hg]
 clear hg
 generalize (w.alloc (.cells zCs 27)).alloc (.cells #[.slice A n c, .bool false] 107) = W2 at H2 ⊢
 go_upto_region 3 with (refine wpList_store_rowTo rfl 27 _ _ rfl rfl W2.heap.size zCs rfl rfl 27 zCs (Blk.new W2 27 zCs) (by kernel_rfl) rfl (by kernel_rfl) ?_)
 have hb3 : Below W2.heap.size W2 ((W2.alloc (.cells zCs 27)).setRow W2.heap.size zCs) := below_setRow ((Below.refl _ _).alloc (Nat.le_refl _) (.cells zCs 27)) (Nat.le_refl _) _
 have kB : Blk ((W2.alloc (.cells zCs 27)).setRow W2.heap.size zCs) W2.heap.size 27 (opCs (o0 0) (.slice none 0 0) (.slice none 0 0) (.slice none 0 0)) := (Blk.new W2 27 zCs).row _
 have hgo := H2.out.2.2.1.lt
 obtain ⟨Bo, hBo⟩ : ∃ b, b = W2.heap.size := ⟨_, rfl⟩
 have hos : OR w g W2.heap.size (o0 0) (.slice none 0 0) (.slice none 0 0) (.slice none 0 0) false l ((W2.alloc (.cells zCs 27)).setRow W2.heap.size zCs) := ⟨H2.out.1.trans (hb3.mono H2.out.1.size), H2.out.2.1.on hb3, kB, H2.out.2.2.1.on hb3, H2.out.2.2.2, hgo, YtcjiofhjognklaaGreat.nil_row kA _ _, nil_row kStr _ _, RdD.nil _ _⟩
 rw [← hBo] at hos ⊢
 clear hb3 kB hgo H2 hBo
 generalize (W2.alloc (.cells zCs 27)).setRow Bo zCs = W3 at hos ⊢
 have hN := refNumberV w.heap.size g false l 1 W3 hos.rs
 rw [HSM.out] at hN
 dsimp only at hN
 have HN := Lib.hid hN
 have H3 := Lib.hid hos
 clear hN hos
 have h0 : 0 ≤ k := hrng.1
 clear hrng
 have z0 : ∀ i, i < 7 → True := fun _ _ => trivial
 clear z0
 go_upto_region 5 with (go_at_call 60; (with_reducible refine HN.out.mono ?_); clear HN; rintro e w4 ⟨rfl, hrs, hg⟩; dsimp only; have H4 := Lib.hid (H3.out.gr hg hrs); clear hrs hg)
 go_wp2_with (first
   | (refine wpList_load_row rfl 27 _ rfl Bo rfl 27 zCs (0, 0) _ H4.out.oo rfl rfl (by kernel_rfl) ?_)
   | (refine wpList_store_rowTo rfl 27 _ _ rfl rfl w.heap.size zCs rfl rfl 27 zCs H4.out.rr (by kernel_rfl) rfl (by kernel_rfl) ?_))
 obtain ⟨h7, h8, h9⟩ := H4.out.out zCs
 have t0 := h9.cell 0
 have t1 := h9.cell 1
 have t2 := h9.cell 2
 have t3 := h9.cell 3
 have t4 := h9.cell 4
 have t5 := h9.cell 5
 have t6 := h9.cell 6
 have HE2 := Lib.hid h8
 clear h7 h8 h9
 generalize w4.setRow w.heap.size zCs = w7 at t0 t1 t2 t3 t4 t5 t6 HE2 ⊢
 refine bodyPost_ret (v := .tuple #[.agg zCs, .bool false]) ?_ rfl (.inr ⟨HNN.out, rfl, HE2.out⟩)
 simp at t0 t1 t2 t3 t4 t5 t6
 simp [results, Tryz.f11, go_sem, t0, t1, t2, t3, t4, t5, t6]
set_option maxHeartbeats 16000000 in
theorem ropNo2 (A : Option Addr) (c : Nat) (l : List Int) (k : Int) (w : World) (hr : Rd w w.heap.size A l) (hby : Byt l) (hn : l.length ≤ 1000000) (hc : l.length ≤ c) (hcm : c ≤ 9223372036854775807) (hk : (numV (tk false l 1)).1 = k) (hno : isK k = false) (hlt : 8 < k) :
   Calls Tryz.prog 11 #[.slice A l.length c] w (RefOpOut w l) := by
 have hb1 : Below w.heap.size w (w.alloc (.cells zCs 27)) := (Below.refl _ _).alloc (Nat.le_refl _) _
 have kR1 := Blk.new w 27 zCs
 have hs2 := RR.new2 (w := w.alloc (.cells zCs 27)) (hr.below hb1) hc hcm hby (by omega) hb1.size
 have hb12 : Below (w.alloc (.cells zCs 27)).heap.size (w.alloc (.cells zCs 27)) ((w.alloc (.cells zCs 27)).alloc (.cells #[.slice A l.length c, .bool false] 107)) := (Below.refl _ _).alloc (Nat.le_refl _) _
 have kR2 := kR1.on hb12
 have hb2 := hb1.trans (hb12.mono hb1.size)
 rw [World.size_alloc] at hs2
 have ht1 := took_numV (f := false) (tag := 1) hby (by decide)
 have hrng := numV_range (f := false) (tag := 1) hby
 generalize hsm : numV (tk false l 1) = S1 at hk ht1 hrng
 obtain ⟨k1', f1, r1⟩ := S1
 dsimp only at hk ht1 hrng
 have hk2 := hk.symm; clear hk; subst hk2
 have HT1 := Lib.hid ht1
 have HSM := Lib.hid hsm
 have HBY := Lib.hid hby
 have HNL := Lib.hid hn
 obtain ⟨g, hg⟩ : ∃ g, g = w.heap.size + 1 := ⟨_, rfl⟩
 obtain ⟨n, hnn⟩ : ∃ n, n = l.length := ⟨_, rfl⟩
 rw [← hnn] at hs2 hb2 kR2 ⊢
 rw [← hg] at hs2
 have H2 := Lib.hid (And.intro hb2 (And.intro kR2 (And.intro hs2 (show w.heap.size < g by omega))))
 clear hr hby hb1 kR1 hs2 hb12 kR2 hb2 hn hnn hc hcm ht1 hsm
 have HNN : Hid (∀ o, mayO o = true → l ≠ opB o) := Lib.hid (fin_no (by decide) HT1.out hno)
 clear hno
 go_enter Tryz.func11, Tryz.ntmps11
 go_upto_region 2 with fail
 rw [← hg]
 clear hg
 generalize (w.alloc (.cells zCs 27)).alloc (.cells #[.slice A n c, .bool false] 107) = W2 at H2 ⊢
 go_upto_region 3 with (refine wpList_store_rowTo rfl 27 _ _ rfl rfl W2.heap.size zCs rfl rfl 27 zCs (Blk.new W2 27 zCs) (by kernel_rfl) rfl (by kernel_rfl) ?_)
 have hb3 : Below W2.heap.size W2 ((W2.alloc (.cells zCs 27)).setRow W2.heap.size zCs) := below_setRow ((Below.refl _ _).alloc (Nat.le_refl _) (.cells zCs 27)) (Nat.le_refl _) _
 have kB : Blk ((W2.alloc (.cells zCs 27)).setRow W2.heap.size zCs) W2.heap.size 27 (opCs (o0 0) (.slice none 0 0) (.slice none 0 0) (.slice none 0 0)) := (Blk.new W2 27 zCs).row _
 have hgo := H2.out.2.2.1.lt
 obtain ⟨Bo, hBo⟩ : ∃ b, b = W2.heap.size := ⟨_, rfl⟩
 have hos : OR w g W2.heap.size (o0 0) (.slice none 0 0) (.slice none 0 0) (.slice none 0 0) false l ((W2.alloc (.cells zCs 27)).setRow W2.heap.size zCs) := ⟨H2.out.1.trans (hb3.mono H2.out.1.size), H2.out.2.1.on hb3, kB, H2.out.2.2.1.on hb3, H2.out.2.2.2, hgo, YtcjiofhjognklaaGreat.nil_row kA _ _, nil_row kStr _ _, RdD.nil _ _⟩
 rw [← hBo] at hos ⊢
 clear hb3 kB hgo H2 hBo
 generalize (W2.alloc (.cells zCs 27)).setRow Bo zCs = W3 at hos ⊢
 have hN := refNumberV w.heap.size g false l 1 W3 hos.rs
 rw [HSM.out] at hN
 dsimp only at hN
 have HN := Lib.hid hN
 have H3 := Lib.hid hos
 clear hN hos
 have h0 : 0 ≤ k := hrng.1
 clear hrng
 have h1 : ¬ k < 1 := by omega
 have z0 : ∀ i, i < 7 → True := fun _ _ => trivial
 clear z0
 go_upto_region 5 with (go_at_call 60; (with_reducible refine HN.out.mono ?_); clear HN; rintro e w4 ⟨rfl, hrs, hg⟩; dsimp only; have H4 := Lib.hid (H3.out.gr hg hrs); clear hrs hg)
 go_wp2_with (first
   | (refine wpList_load_row rfl 27 _ rfl Bo rfl 27 zCs (0, 0) _ H4.out.oo rfl rfl (by kernel_rfl) ?_)
   | (refine wpList_store_rowTo rfl 27 _ _ rfl rfl w.heap.size zCs rfl rfl 27 zCs H4.out.rr (by kernel_rfl) rfl (by kernel_rfl) ?_))
 obtain ⟨h7, h8, h9⟩ := H4.out.out zCs
 have t0 := h9.cell 0
 have t1 := h9.cell 1
 have t2 := h9.cell 2
 have t3 := h9.cell 3
 have t4 := h9.cell 4
 have t5 := h9.cell 5
 have t6 := h9.cell 6
 have HE2 := Lib.hid h8
 clear h7 h8 h9
 generalize w4.setRow w.heap.size zCs = w7 at t0 t1 t2 t3 t4 t5 t6 HE2 ⊢
 refine bodyPost_ret (v := .tuple #[.agg zCs, .bool false]) ?_ rfl (.inr ⟨HNN.out, rfl, HE2.out⟩)
 simp at t0 t1 t2 t3 t4 t5 t6
 simp [results, Tryz.f11, go_sem, t0, t1, t2, t3, t4, t5, t6]
set_option maxHeartbeats 16000000 in
theorem rop1 (A : Option Addr) (c : Nat) (l : List Int) (w : World) (hr : Rd w w.heap.size A l) (hby : Byt l) (hn : l.length ≤ 1000000) (hc : l.length ≤ c) (hcm : c ≤ 9223372036854775807) (hk : (numV (tk false l 1)).1 = 1) :
   Calls Tryz.prog 11 #[.slice A l.length c] w (RefOpOut w l) := by
 have hb1 : Below w.heap.size w (w.alloc (.cells zCs 27)) := (Below.refl _ _).alloc (Nat.le_refl _) _
 have kR1 := Blk.new w 27 zCs
 have hs2 := RR.new2 (w := w.alloc (.cells zCs 27)) (hr.below hb1) hc hcm hby (by omega) hb1.size
 have hb12 : Below (w.alloc (.cells zCs 27)).heap.size (w.alloc (.cells zCs 27)) ((w.alloc (.cells zCs 27)).alloc (.cells #[.slice A l.length c, .bool false] 107)) := (Below.refl _ _).alloc (Nat.le_refl _) _
 have kR2 := kR1.on hb12
 have hb2 := hb1.trans (hb12.mono hb1.size)
 rw [World.size_alloc] at hs2
 have ht1 := took_numV (f := false) (tag := 1) hby (by decide)
 have hrng := numV_range (f := false) (tag := 1) hby
 generalize hsm : numV (tk false l 1) = S1 at hk ht1 hrng
 obtain ⟨k1', f1, r1⟩ := S1
 dsimp only at hk ht1 hrng
 subst hk
 have HT1 := Lib.hid ht1
 have HSM := Lib.hid hsm
 have HBY := Lib.hid hby
 have HNL := Lib.hid hn
 obtain ⟨g, hg⟩ : ∃ g, g = w.heap.size + 1 := ⟨_, rfl⟩
 obtain ⟨n, hnn⟩ : ∃ n, n = l.length := ⟨_, rfl⟩
 rw [← hnn] at hs2 hb2 kR2 ⊢
 rw [← hg] at hs2
 have H2 := Lib.hid (And.intro hb2 (And.intro kR2 (And.intro hs2 (show w.heap.size < g by omega))))
 clear hr hby hb1 kR1 hs2 hb12 kR2 hb2 hn hnn hc hcm ht1 hsm
 go_enter Tryz.func11, Tryz.ntmps11
 go_upto_region 2 with fail
 rw [← hg]
 clear hg
 generalize (w.alloc (.cells zCs 27)).alloc (.cells #[.slice A n c, .bool false] 107) = W2 at H2 ⊢
 go_upto_region 3 with (refine wpList_store_rowTo rfl 27 _ _ rfl rfl W2.heap.size zCs rfl rfl 27 zCs (Blk.new W2 27 zCs) (by kernel_rfl) rfl (by kernel_rfl) ?_)
 have hb3 : Below W2.heap.size W2 ((W2.alloc (.cells zCs 27)).setRow W2.heap.size zCs) := below_setRow ((Below.refl _ _).alloc (Nat.le_refl _) (.cells zCs 27)) (Nat.le_refl _) _
 have kB : Blk ((W2.alloc (.cells zCs 27)).setRow W2.heap.size zCs) W2.heap.size 27 (opCs (o0 0) (.slice none 0 0) (.slice none 0 0) (.slice none 0 0)) := (Blk.new W2 27 zCs).row _
 have hgo := H2.out.2.2.1.lt
 obtain ⟨Bo, hBo⟩ : ∃ b, b = W2.heap.size := ⟨_, rfl⟩
 have hos : OR w g W2.heap.size (o0 0) (.slice none 0 0) (.slice none 0 0) (.slice none 0 0) false l ((W2.alloc (.cells zCs 27)).setRow W2.heap.size zCs) := ⟨H2.out.1.trans (hb3.mono H2.out.1.size), H2.out.2.1.on hb3, kB, H2.out.2.2.1.on hb3, H2.out.2.2.2, hgo, YtcjiofhjognklaaGreat.nil_row kA _ _, nil_row kStr _ _, RdD.nil _ _⟩
 rw [← hBo] at hos ⊢
 clear hb3 kB hgo H2 hBo
 generalize (W2.alloc (.cells zCs 27)).setRow Bo zCs = W3 at hos ⊢
 have hN := refNumberV w.heap.size g false l 1 W3 hos.rs
 rw [HSM.out] at hN
 dsimp only at hN
 have HN := Lib.hid hN
 have H3 := Lib.hid hos
 clear hN hos
 clear hrng
 have hcv : ∀ W, (convert 55 22 (.int .u64 1)).run Tryz.prog W = .ok (.int .i64 1) W := fun _ => rfl
 go_upto_region 7 with (go_at_call 60; (with_reducible refine HN.out.mono ?_); clear HN; rintro e w4 ⟨rfl, hrs, hg⟩; dsimp only; have H4 := Lib.hid (H3.out.gr hg hrs); clear hrs hg; have fz := H4.out.oo.frozen 0; have cz : w4.cell? ⟨Bo, 0, none⟩ = some (.int .i64 0) := H4.out.oo.cell 0)
 clear fz cz hcv
 have hos := H4.out.kind 1
 generalize w4.setCell ⟨Bo, 0, none⟩ (.int .i64 1) = W0 at hos ⊢
 clear H4 H3
 have hrl : r1.length ≤ 1000000 := by have h := tk_len (f := false) (r := l) (tag := 1); have h4 := numV_rest (tk false l 1); rw [HSM.out] at h4; dsimp only at h4; rw [h4]; have := HNL.out; omega
 have hby1 := hos.rs.byt
 have hrl1 : (tk f1 r1 2).2.2.length ≤ 1000000 := Nat.le_trans tk_len hrl
 have HC1 : Hid (Calls Tryz.prog 61 #[.pointer (some ⟨g, 0, none⟩), .int .u8 2] W0 fun e w' => e = .returned (.string (sx (u8s ((tk f1 r1 2).1.getD [])))) ∧ RR w' w.heap.size g (tk f1 r1 2).2.1 (tk f1 r1 2).2.2 ∧ W0.grownBy w' (some g)) := Lib.hid (by
   have h := refText_any w.heap.size g f1 r1 2 W0 hos.rs
   rw [← sx_u8s] at h
   exact h)
 have HT2 := Lib.hid (took_text (f := f1) (tag := 2) hby1 (by decide))
 generalize u8s ((tk f1 r1 2).1.getD []) = s1 at HC1 HT2
 generalize (tk f1 r1 2).2.1 = g1 at HC1 HT2
 generalize (tk f1 r1 2).2.2 = q1 at HC1 HT2 hrl1
 have HO1 := Lib.hid hos
 clear hos hby1 hrl
 have hrl := hrl1
 clear hrl1
 go_upto_region 9 with (go_at_call 61; (with_reducible refine HC1.out.mono ?_); clear HC1; rintro e V1 ⟨rfl, hrs, hg⟩; dsimp only; have HP1 := Lib.hid (HO1.out.gr hg hrs); clear hrs hg; have fz := HP1.out.oo.frozen 1; have cz : V1.cell? ⟨Bo, 1, none⟩ = some (.string (sx _)) := HP1.out.oo.cell 1)
 clear fz cz
 have hos := HP1.out.name s1
 generalize V1.setCell ⟨Bo, 1, none⟩ (.string (sx s1)) = W1 at hos ⊢
 clear HP1 HO1
 have hby2 := hos.rs.byt
 have HC2 := Lib.hid (refTakeAttrs_any w.heap.size g g1 q1 4 W1 hos.rs hrl)
 have HT3 := Lib.hid (took_attrsR (f := g1) (tag := 4) hby2 (by decide))
 have HO2 := Lib.hid hos
 clear hos hby2 hrl
 generalize tk g1 q1 4 = t2 at HC2 HT3
 generalize hl2 : (if t2.2.1 = false ∧ okL (t2.1.getD []) = true then mkL (t2.1.getD []) else []) = l2 at HT3
 generalize hg2 : (if t2.2.1 = false ∧ okL (t2.1.getD []) = true then false else true) = g2 at HT3
 have HLG := Lib.hid (And.intro hl2 hg2)
 clear hl2 hg2
 go_upto_region 13 with (go_at_call 62; (with_reducible refine HC2.out.mono ?_); clear HC2; intro e V2 hta; obtain ⟨Aa, ca, na, rfl, hrow, hrs, hg⟩ := takeQ_out HLG.out.1 HLG.out.2 hta; dsimp only; have HP2 := Lib.hid (HO2.out.gr hg hrs); have HR2 := Lib.hid (YtcjiofhjognklaaGreat.RowK.low hrow HO2.out.bel.size); clear hrs hg hrow hta; have fz := HP2.out.oo.frozen 3; have cz : V2.cell? ⟨Bo, 3, none⟩ = some (.slice none 0 0) := HP2.out.oo.cell 3)
 clear fz cz
 have hos := HP2.out.attrs (.slice Aa na ca) l2 HR2.out
 generalize V2.setCell ⟨Bo, 3, none⟩ (.slice Aa na ca) = W2 at hos ⊢
 clear HP2 HO2 HR2 HLG
 have HX : ∃ (o : Opn) (va vp vc : Value), Hid (Fin1 l o g2 t2.2.2 ∧ OR w g Bo o va vp vc g2 t2.2.2 W2) := ⟨_, _, _, _, Lib.hid ⟨fin_A (by decide) HT1.out (by simp [fA]) HT2.out HT3.out, hos⟩⟩
 clear hos
 obtain ⟨o, va, vp, vc, HX⟩ := HX
 have d0 : W2.cell? ⟨Bo, 0, none⟩ = some (.int .i64 o.k) := HX.out.2.oo.cell 0
 have d1 : W2.cell? ⟨Bo, 1, none⟩ = some (.string (sx o.name)) := HX.out.2.oo.cell 1
 have d2 : W2.cell? ⟨Bo, 2, none⟩ = some (.string (sx o.dst)) := HX.out.2.oo.cell 2
 have d3 : W2.cell? ⟨Bo, 3, none⟩ = some va := HX.out.2.oo.cell 3
 have d4 : W2.cell? ⟨Bo, 4, none⟩ = some vp := HX.out.2.oo.cell 4
 have d5 : W2.cell? ⟨Bo, 5, none⟩ = some vc := HX.out.2.oo.cell 5
 have d6 : W2.cell? ⟨Bo, 6, none⟩ = some (.int .i64 o.n) := HX.out.2.oo.cell 6
 have HE := refDone_any w.heap.size g g2 t2.2.2 W2 HX.out.2.rs
 by_cases hgood : g2 = false ∧ t2.2.2 = []
 · have hd : (!g2 && decide (t2.2.2 = [])) = true := by rw [hgood.1, hgood.2]; rfl
   rw [hd] at HE
   have HE := Lib.hid HE
   have HSN := Lib.hid (HX.out.1.snd hgood.1 hgood.2)
   have HLM := Lib.hid (HX.out.1.gd hgood.1).lim
   have HMA := refMayOp_any o va vp vc W2 HX.out.2.at_ HLM.out
   clear hd
   cases hm : mayO o with
   | true =>
     rw [hm] at HMA
     have HMA := Lib.hid HMA
     have HM := Lib.hid hm
     clear hm hgood
     go_upto_region 27 with (first
       | (go_at_call 65; (with_reducible refine HE.out.mono ?_); clear HE; rintro e wE ⟨rfl, rfl⟩)
       | (go_at_call 12; (with_reducible refine HMA.out.mono ?_); clear HMA d0 d1 d2 d3 d4 d5 d6; rintro e w6 ⟨rfl, hb6⟩; dsimp only; have H6 := Lib.hid (HX.out.2.on hb6); clear hb6))
     go_wp2_with (first
       | (refine wpList_load_row rfl 27 _ rfl Bo rfl 27 (opCs o va vp vc) (0, 0) _ H6.out.oo rfl rfl (by kernel_rfl) ?_)
       | (refine wpList_store_rowTo rfl 27 _ _ rfl rfl w.heap.size (opCs o va vp vc) rfl rfl 27 zCs H6.out.rr (by kernel_rfl) rfl ?c1 ?_; case c1 => exact H6.out.one))
     obtain ⟨h7, h8, h9⟩ := H6.out.out (opCs o va vp vc)
     have t0 := h9.cell 0
     have t1 := h9.cell 1
     have t2 := h9.cell 2
     have t3 := h9.cell 3
     have t4 := h9.cell 4
     have t5 := h9.cell 5
     have t6 := h9.cell 6
     have HE2 := Lib.hid (And.intro h7 h8)
     clear h7 h8 h9
     generalize w6.setRow w.heap.size (opCs o va vp vc) = w7 at t0 t1 t2 t3 t4 t5 t6 HE2 ⊢
     refine bodyPost_ret (v := .tuple #[opVal o va vp vc, .bool true]) ?_ rfl (.inl ⟨o, va, vp, vc, HM.out, HSN.out, rfl, HE2.out.1, HLM.out, HE2.out.2⟩)
     simp at t0 t1 t2 t3 t4 t5 t6
     simp [results, Tryz.f11, go_sem, t0, t1, t2, t3, t4, t5, t6]
   | false =>
     rw [hm] at HMA
     have HMA := Lib.hid HMA
     have HNO : Hid (∀ o, mayO o = true → l ≠ opB o) := Lib.hid (HX.out.1.none (fun h => by rw [hm] at h; cases h.2.2))
     clear hm hgood
     go_upto_region 26 with (first
       | (go_at_call 65; (with_reducible refine HE.out.mono ?_); clear HE; rintro e wE ⟨rfl, rfl⟩)
       | (go_at_call 12; (with_reducible refine HMA.out.mono ?_); clear HMA d0 d1 d2 d3 d4 d5 d6; rintro e w6 ⟨rfl, hb6⟩; dsimp only; have H6 := Lib.hid (HX.out.2.on hb6); clear hb6))
     go_wp2_with (refine wpList_store_rowTo rfl 27 _ _ rfl rfl w.heap.size zCs rfl rfl 27 zCs H6.out.rr (by kernel_rfl) rfl (by kernel_rfl) ?_)
     obtain ⟨h7, h8, h9⟩ := H6.out.out zCs
     have t0 := h9.cell 0
     have t1 := h9.cell 1
     have t2 := h9.cell 2
     have t3 := h9.cell 3
     have t4 := h9.cell 4
     have t5 := h9.cell 5
     have t6 := h9.cell 6
     have HE2 := Lib.hid h8
     clear h7 h8 h9
     generalize w6.setRow w.heap.size zCs = w7 at t0 t1 t2 t3 t4 t5 t6 HE2 ⊢
     refine bodyPost_ret (v := .tuple #[.agg zCs, .bool false]) ?_ rfl (.inr ⟨HNO.out, rfl, HE2.out⟩)
     simp at t0 t1 t2 t3 t4 t5 t6
     simp [results, Tryz.f11, go_sem, t0, t1, t2, t3, t4, t5, t6]
 · have hd : (!g2 && decide (t2.2.2 = [])) = false := by
     rw [← Bool.not_eq_true]
     intro h
     simp only [Bool.and_eq_true, Bool.not_eq_true', decide_eq_true_eq] at h
     exact hgood h
   rw [hd] at HE
   have HE := Lib.hid HE
   have HNO : Hid (∀ o, mayO o = true → l ≠ opB o) := Lib.hid (HX.out.1.none (fun h => hgood ⟨h.1, h.2.1⟩))
   clear hgood hd
   go_upto_region 26 with (go_at_call 65; (with_reducible refine HE.out.mono ?_); clear HE; rintro e wE ⟨rfl, rfl⟩)
   go_wp2_with (refine wpList_store_rowTo rfl 27 _ _ rfl rfl w.heap.size zCs rfl rfl 27 zCs HX.out.2.rr (by kernel_rfl) rfl (by kernel_rfl) ?_)
   obtain ⟨h7, h8, h9⟩ := HX.out.2.out zCs
   have t0 := h9.cell 0
   have t1 := h9.cell 1
   have t2 := h9.cell 2
   have t3 := h9.cell 3
   have t4 := h9.cell 4
   have t5 := h9.cell 5
   have t6 := h9.cell 6
   have HE2 := Lib.hid h8
   clear h7 h8 h9 d0 d1 d2 d3 d4 d5 d6
   generalize wE.setRow w.heap.size zCs = w7 at t0 t1 t2 t3 t4 t5 t6 HE2 ⊢
   refine bodyPost_ret (v := .tuple #[.agg zCs, .bool false]) ?_ rfl (.inr ⟨HNO.out, rfl, HE2.out⟩)
   simp at t0 t1 t2 t3 t4 t5 t6
   simp [results, Tryz.f11, go_sem, t0, t1, t2, t3, t4, t5, t6]
set_option maxHeartbeats 16000000 in
theorem rop2 (A : Option Addr) (c : Nat) (l : List Int) (w : World) (hr : Rd w w.heap.size A l) (hby : Byt l) (hn : l.length ≤ 1000000) (hc : l.length ≤ c) (hcm : c ≤ 9223372036854775807) (hk : (numV (tk false l 1)).1 = 2) :
   Calls Tryz.prog 11 #[.slice A l.length c] w (RefOpOut w l) := by
 have hb1 : Below w.heap.size w (w.alloc (.cells zCs 27)) := (Below.refl _ _).alloc (Nat.le_refl _) _
 have kR1 := Blk.new w 27 zCs
 have hs2 := RR.new2 (w := w.alloc (.cells zCs 27)) (hr.below hb1) hc hcm hby (by omega) hb1.size
 have hb12 : Below (w.alloc (.cells zCs 27)).heap.size (w.alloc (.cells zCs 27)) ((w.alloc (.cells zCs 27)).alloc (.cells #[.slice A l.length c, .bool false] 107)) := (Below.refl _ _).alloc (Nat.le_refl _) _
 have kR2 := kR1.on hb12
 have hb2 := hb1.trans (hb12.mono hb1.size)
 rw [World.size_alloc] at hs2
 have ht1 := took_numV (f := false) (tag := 1) hby (by decide)
 have hrng := numV_range (f := false) (tag := 1) hby
 generalize hsm : numV (tk false l 1) = S1 at hk ht1 hrng
 obtain ⟨k1', f1, r1⟩ := S1
 dsimp only at hk ht1 hrng
 subst hk
 have HT1 := Lib.hid ht1
 have HSM := Lib.hid hsm
 have HBY := Lib.hid hby
 have HNL := Lib.hid hn
 obtain ⟨g, hg⟩ : ∃ g, g = w.heap.size + 1 := ⟨_, rfl⟩
 obtain ⟨n, hnn⟩ : ∃ n, n = l.length := ⟨_, rfl⟩
 rw [← hnn] at hs2 hb2 kR2 ⊢
 rw [← hg] at hs2
 have H2 := Lib.hid (And.intro hb2 (And.intro kR2 (And.intro hs2 (show w.heap.size < g by omega))))
 clear hr hby hb1 kR1 hs2 hb12 kR2 hb2 hn hnn hc hcm ht1 hsm
 go_enter Tryz.func11, Tryz.ntmps11
 go_upto_region 2 with fail
 rw [← hg]
 clear hg
 generalize (w.alloc (.cells zCs 27)).alloc (.cells #[.slice A n c, .bool false] 107) = W2 at H2 ⊢
 go_upto_region 3 with (refine wpList_store_rowTo rfl 27 _ _ rfl rfl W2.heap.size zCs rfl rfl 27 zCs (Blk.new W2 27 zCs) (by kernel_rfl) rfl (by kernel_rfl) ?_)
 have hb3 : Below W2.heap.size W2 ((W2.alloc (.cells zCs 27)).setRow W2.heap.size zCs) := below_setRow ((Below.refl _ _).alloc (Nat.le_refl _) (.cells zCs 27)) (Nat.le_refl _) _
 have kB : Blk ((W2.alloc (.cells zCs 27)).setRow W2.heap.size zCs) W2.heap.size 27 (opCs (o0 0) (.slice none 0 0) (.slice none 0 0) (.slice none 0 0)) := (Blk.new W2 27 zCs).row _
 have hgo := H2.out.2.2.1.lt
 obtain ⟨Bo, hBo⟩ : ∃ b, b = W2.heap.size := ⟨_, rfl⟩
 have hos : OR w g W2.heap.size (o0 0) (.slice none 0 0) (.slice none 0 0) (.slice none 0 0) false l ((W2.alloc (.cells zCs 27)).setRow W2.heap.size zCs) := ⟨H2.out.1.trans (hb3.mono H2.out.1.size), H2.out.2.1.on hb3, kB, H2.out.2.2.1.on hb3, H2.out.2.2.2, hgo, YtcjiofhjognklaaGreat.nil_row kA _ _, nil_row kStr _ _, RdD.nil _ _⟩
 rw [← hBo] at hos ⊢
 clear hb3 kB hgo H2 hBo
 generalize (W2.alloc (.cells zCs 27)).setRow Bo zCs = W3 at hos ⊢
 have hN := refNumberV w.heap.size g false l 1 W3 hos.rs
 rw [HSM.out] at hN
 dsimp only at hN
 have HN := Lib.hid hN
 have H3 := Lib.hid hos
 clear hN hos
 clear hrng
 have hcv : ∀ W, (convert 55 22 (.int .u64 2)).run Tryz.prog W = .ok (.int .i64 2) W := fun _ => rfl
 go_upto_region 7 with (go_at_call 60; (with_reducible refine HN.out.mono ?_); clear HN; rintro e w4 ⟨rfl, hrs, hg⟩; dsimp only; have H4 := Lib.hid (H3.out.gr hg hrs); clear hrs hg; have fz := H4.out.oo.frozen 0; have cz : w4.cell? ⟨Bo, 0, none⟩ = some (.int .i64 0) := H4.out.oo.cell 0)
 clear fz cz hcv
 have hos := H4.out.kind 2
 generalize w4.setCell ⟨Bo, 0, none⟩ (.int .i64 2) = W0 at hos ⊢
 clear H4 H3
 have hrl : r1.length ≤ 1000000 := by have h := tk_len (f := false) (r := l) (tag := 1); have h4 := numV_rest (tk false l 1); rw [HSM.out] at h4; dsimp only at h4; rw [h4]; have := HNL.out; omega
 have hby1 := hos.rs.byt
 have hrl1 : (tk f1 r1 2).2.2.length ≤ 1000000 := Nat.le_trans tk_len hrl
 have HC1 : Hid (Calls Tryz.prog 61 #[.pointer (some ⟨g, 0, none⟩), .int .u8 2] W0 fun e w' => e = .returned (.string (sx (u8s ((tk f1 r1 2).1.getD [])))) ∧ RR w' w.heap.size g (tk f1 r1 2).2.1 (tk f1 r1 2).2.2 ∧ W0.grownBy w' (some g)) := Lib.hid (by
   have h := refText_any w.heap.size g f1 r1 2 W0 hos.rs
   rw [← sx_u8s] at h
   exact h)
 have HT2 := Lib.hid (took_text (f := f1) (tag := 2) hby1 (by decide))
 generalize u8s ((tk f1 r1 2).1.getD []) = s1 at HC1 HT2
 generalize (tk f1 r1 2).2.1 = g1 at HC1 HT2
 generalize (tk f1 r1 2).2.2 = q1 at HC1 HT2 hrl1
 have HO1 := Lib.hid hos
 clear hos hby1 hrl
 have hrl := hrl1
 clear hrl1
 go_upto_region 9 with (go_at_call 61; (with_reducible refine HC1.out.mono ?_); clear HC1; rintro e V1 ⟨rfl, hrs, hg⟩; dsimp only; have HP1 := Lib.hid (HO1.out.gr hg hrs); clear hrs hg; have fz := HP1.out.oo.frozen 1; have cz : V1.cell? ⟨Bo, 1, none⟩ = some (.string (sx _)) := HP1.out.oo.cell 1)
 clear fz cz
 have hos := HP1.out.name s1
 generalize V1.setCell ⟨Bo, 1, none⟩ (.string (sx s1)) = W1 at hos ⊢
 clear HP1 HO1
 have HX : ∃ (o : Opn) (va vp vc : Value), Hid (Fin1 l o g1 q1 ∧ OR w g Bo o va vp vc g1 q1 W1) := ⟨_, _, _, _, Lib.hid ⟨fin_N (by decide) HT1.out (.inl rfl) HT2.out, hos⟩⟩
 clear hos
 obtain ⟨o, va, vp, vc, HX⟩ := HX
 have d0 : W1.cell? ⟨Bo, 0, none⟩ = some (.int .i64 o.k) := HX.out.2.oo.cell 0
 have d1 : W1.cell? ⟨Bo, 1, none⟩ = some (.string (sx o.name)) := HX.out.2.oo.cell 1
 have d2 : W1.cell? ⟨Bo, 2, none⟩ = some (.string (sx o.dst)) := HX.out.2.oo.cell 2
 have d3 : W1.cell? ⟨Bo, 3, none⟩ = some va := HX.out.2.oo.cell 3
 have d4 : W1.cell? ⟨Bo, 4, none⟩ = some vp := HX.out.2.oo.cell 4
 have d5 : W1.cell? ⟨Bo, 5, none⟩ = some vc := HX.out.2.oo.cell 5
 have d6 : W1.cell? ⟨Bo, 6, none⟩ = some (.int .i64 o.n) := HX.out.2.oo.cell 6
 have HE := refDone_any w.heap.size g g1 q1 W1 HX.out.2.rs
 by_cases hgood : g1 = false ∧ q1 = []
 · have hd : (!g1 && decide (q1 = [])) = true := by rw [hgood.1, hgood.2]; rfl
   rw [hd] at HE
   have HE := Lib.hid HE
   have HSN := Lib.hid (HX.out.1.snd hgood.1 hgood.2)
   have HLM := Lib.hid (HX.out.1.gd hgood.1).lim
   have HMA := refMayOp_any o va vp vc W1 HX.out.2.at_ HLM.out
   clear hd
   cases hm : mayO o with
   | true =>
     rw [hm] at HMA
     have HMA := Lib.hid HMA
     have HM := Lib.hid hm
     clear hm hgood
     go_upto_region 27 with (first
       | (go_at_call 65; (with_reducible refine HE.out.mono ?_); clear HE; rintro e wE ⟨rfl, rfl⟩)
       | (go_at_call 12; (with_reducible refine HMA.out.mono ?_); clear HMA d0 d1 d2 d3 d4 d5 d6; rintro e w6 ⟨rfl, hb6⟩; dsimp only; have H6 := Lib.hid (HX.out.2.on hb6); clear hb6))
     go_wp2_with (first
       | (refine wpList_load_row rfl 27 _ rfl Bo rfl 27 (opCs o va vp vc) (0, 0) _ H6.out.oo rfl rfl (by kernel_rfl) ?_)
       | (refine wpList_store_rowTo rfl 27 _ _ rfl rfl w.heap.size (opCs o va vp vc) rfl rfl 27 zCs H6.out.rr (by kernel_rfl) rfl ?c1 ?_; case c1 => exact H6.out.one))
     obtain ⟨h7, h8, h9⟩ := H6.out.out (opCs o va vp vc)
     have t0 := h9.cell 0
     have t1 := h9.cell 1
     have t2 := h9.cell 2
     have t3 := h9.cell 3
     have t4 := h9.cell 4
     have t5 := h9.cell 5
     have t6 := h9.cell 6
     have HE2 := Lib.hid (And.intro h7 h8)
     clear h7 h8 h9
     generalize w6.setRow w.heap.size (opCs o va vp vc) = w7 at t0 t1 t2 t3 t4 t5 t6 HE2 ⊢
     refine bodyPost_ret (v := .tuple #[opVal o va vp vc, .bool true]) ?_ rfl (.inl ⟨o, va, vp, vc, HM.out, HSN.out, rfl, HE2.out.1, HLM.out, HE2.out.2⟩)
     simp at t0 t1 t2 t3 t4 t5 t6
     simp [results, Tryz.f11, go_sem, t0, t1, t2, t3, t4, t5, t6]
   | false =>
     rw [hm] at HMA
     have HMA := Lib.hid HMA
     have HNO : Hid (∀ o, mayO o = true → l ≠ opB o) := Lib.hid (HX.out.1.none (fun h => by rw [hm] at h; cases h.2.2))
     clear hm hgood
     go_upto_region 26 with (first
       | (go_at_call 65; (with_reducible refine HE.out.mono ?_); clear HE; rintro e wE ⟨rfl, rfl⟩)
       | (go_at_call 12; (with_reducible refine HMA.out.mono ?_); clear HMA d0 d1 d2 d3 d4 d5 d6; rintro e w6 ⟨rfl, hb6⟩; dsimp only; have H6 := Lib.hid (HX.out.2.on hb6); clear hb6))
     go_wp2_with (refine wpList_store_rowTo rfl 27 _ _ rfl rfl w.heap.size zCs rfl rfl 27 zCs H6.out.rr (by kernel_rfl) rfl (by kernel_rfl) ?_)
     obtain ⟨h7, h8, h9⟩ := H6.out.out zCs
     have t0 := h9.cell 0
     have t1 := h9.cell 1
     have t2 := h9.cell 2
     have t3 := h9.cell 3
     have t4 := h9.cell 4
     have t5 := h9.cell 5
     have t6 := h9.cell 6
     have HE2 := Lib.hid h8
     clear h7 h8 h9
     generalize w6.setRow w.heap.size zCs = w7 at t0 t1 t2 t3 t4 t5 t6 HE2 ⊢
     refine bodyPost_ret (v := .tuple #[.agg zCs, .bool false]) ?_ rfl (.inr ⟨HNO.out, rfl, HE2.out⟩)
     simp at t0 t1 t2 t3 t4 t5 t6
     simp [results, Tryz.f11, go_sem, t0, t1, t2, t3, t4, t5, t6]
 · have hd : (!g1 && decide (q1 = [])) = false := by
     rw [← Bool.not_eq_true]
     intro h
     simp only [Bool.and_eq_true, Bool.not_eq_true', decide_eq_true_eq] at h
     exact hgood h
   rw [hd] at HE
   have HE := Lib.hid HE
   have HNO : Hid (∀ o, mayO o = true → l ≠ opB o) := Lib.hid (HX.out.1.none (fun h => hgood ⟨h.1, h.2.1⟩))
   clear hgood hd
   go_upto_region 26 with (go_at_call 65; (with_reducible refine HE.out.mono ?_); clear HE; rintro e wE ⟨rfl, rfl⟩)
   go_wp2_with (refine wpList_store_rowTo rfl 27 _ _ rfl rfl w.heap.size zCs rfl rfl 27 zCs HX.out.2.rr (by kernel_rfl) rfl (by kernel_rfl) ?_)
   obtain ⟨h7, h8, h9⟩ := HX.out.2.out zCs
   have t0 := h9.cell 0
   have t1 := h9.cell 1
   have t2 := h9.cell 2
   have t3 := h9.cell 3
   have t4 := h9.cell 4
   have t5 := h9.cell 5
   have t6 := h9.cell 6
   have HE2 := Lib.hid h8
   clear h7 h8 h9 d0 d1 d2 d3 d4 d5 d6
   generalize wE.setRow w.heap.size zCs = w7 at t0 t1 t2 t3 t4 t5 t6 HE2 ⊢
   refine bodyPost_ret (v := .tuple #[.agg zCs, .bool false]) ?_ rfl (.inr ⟨HNO.out, rfl, HE2.out⟩)
   simp at t0 t1 t2 t3 t4 t5 t6
   simp [results, Tryz.f11, go_sem, t0, t1, t2, t3, t4, t5, t6]
set_option maxHeartbeats 16000000 in
theorem rop3 (A : Option Addr) (c : Nat) (l : List Int) (w : World) (hr : Rd w w.heap.size A l) (hby : Byt l) (hn : l.length ≤ 1000000) (hc : l.length ≤ c) (hcm : c ≤ 9223372036854775807) (hk : (numV (tk false l 1)).1 = 3) :
   Calls Tryz.prog 11 #[.slice A l.length c] w (RefOpOut w l) := by
 have hb1 : Below w.heap.size w (w.alloc (.cells zCs 27)) := (Below.refl _ _).alloc (Nat.le_refl _) _
 have kR1 := Blk.new w 27 zCs
 have hs2 := RR.new2 (w := w.alloc (.cells zCs 27)) (hr.below hb1) hc hcm hby (by omega) hb1.size
 have hb12 : Below (w.alloc (.cells zCs 27)).heap.size (w.alloc (.cells zCs 27)) ((w.alloc (.cells zCs 27)).alloc (.cells #[.slice A l.length c, .bool false] 107)) := (Below.refl _ _).alloc (Nat.le_refl _) _
 have kR2 := kR1.on hb12
 have hb2 := hb1.trans (hb12.mono hb1.size)
 rw [World.size_alloc] at hs2
 have ht1 := took_numV (f := false) (tag := 1) hby (by decide)
 have hrng := numV_range (f := false) (tag := 1) hby
 generalize hsm : numV (tk false l 1) = S1 at hk ht1 hrng
 obtain ⟨k1', f1, r1⟩ := S1
 dsimp only at hk ht1 hrng
 subst hk
 have HT1 := Lib.hid ht1
 have HSM := Lib.hid hsm
 have HBY := Lib.hid hby
 have HNL := Lib.hid hn
 obtain ⟨g, hg⟩ : ∃ g, g = w.heap.size + 1 := ⟨_, rfl⟩
 obtain ⟨n, hnn⟩ : ∃ n, n = l.length := ⟨_, rfl⟩
 rw [← hnn] at hs2 hb2 kR2 ⊢
 rw [← hg] at hs2
 have H2 := Lib.hid (And.intro hb2 (And.intro kR2 (And.intro hs2 (show w.heap.size < g by omega))))
 clear hr hby hb1 kR1 hs2 hb12 kR2 hb2 hn hnn hc hcm ht1 hsm
 go_enter Tryz.func11, Tryz.ntmps11
 go_upto_region 2 with fail
 rw [← hg]
 clear hg
 generalize (w.alloc (.cells zCs 27)).alloc (.cells #[.slice A n c, .bool false] 107) = W2 at H2 ⊢
 go_upto_region 3 with (refine wpList_store_rowTo rfl 27 _ _ rfl rfl W2.heap.size zCs rfl rfl 27 zCs (Blk.new W2 27 zCs) (by kernel_rfl) rfl (by kernel_rfl) ?_)
 have hb3 : Below W2.heap.size W2 ((W2.alloc (.cells zCs 27)).setRow W2.heap.size zCs) := below_setRow ((Below.refl _ _).alloc (Nat.le_refl _) (.cells zCs 27)) (Nat.le_refl _) _
 have kB : Blk ((W2.alloc (.cells zCs 27)).setRow W2.heap.size zCs) W2.heap.size 27 (opCs (o0 0) (.slice none 0 0) (.slice none 0 0) (.slice none 0 0)) := (Blk.new W2 27 zCs).row _
 have hgo := H2.out.2.2.1.lt
 obtain ⟨Bo, hBo⟩ : ∃ b, b = W2.heap.size := ⟨_, rfl⟩
 have hos : OR w g W2.heap.size (o0 0) (.slice none 0 0) (.slice none 0 0) (.slice none 0 0) false l ((W2.alloc (.cells zCs 27)).setRow W2.heap.size zCs) := ⟨H2.out.1.trans (hb3.mono H2.out.1.size), H2.out.2.1.on hb3, kB, H2.out.2.2.1.on hb3, H2.out.2.2.2, hgo, YtcjiofhjognklaaGreat.nil_row kA _ _, nil_row kStr _ _, RdD.nil _ _⟩
 rw [← hBo] at hos ⊢
 clear hb3 kB hgo H2 hBo
 generalize (W2.alloc (.cells zCs 27)).setRow Bo zCs = W3 at hos ⊢
 have hN := refNumberV w.heap.size g false l 1 W3 hos.rs
 rw [HSM.out] at hN
 dsimp only at hN
 have HN := Lib.hid hN
 have H3 := Lib.hid hos
 clear hN hos
 clear hrng
 have hcv : ∀ W, (convert 55 22 (.int .u64 3)).run Tryz.prog W = .ok (.int .i64 3) W := fun _ => rfl
 go_upto_region 7 with (go_at_call 60; (with_reducible refine HN.out.mono ?_); clear HN; rintro e w4 ⟨rfl, hrs, hg⟩; dsimp only; have H4 := Lib.hid (H3.out.gr hg hrs); clear hrs hg; have fz := H4.out.oo.frozen 0; have cz : w4.cell? ⟨Bo, 0, none⟩ = some (.int .i64 0) := H4.out.oo.cell 0)
 clear fz cz hcv
 have hos := H4.out.kind 3
 generalize w4.setCell ⟨Bo, 0, none⟩ (.int .i64 3) = W0 at hos ⊢
 clear H4 H3
 have hrl : r1.length ≤ 1000000 := by have h := tk_len (f := false) (r := l) (tag := 1); have h4 := numV_rest (tk false l 1); rw [HSM.out] at h4; dsimp only at h4; rw [h4]; have := HNL.out; omega
 have hby1 := hos.rs.byt
 have hrl1 : (tk f1 r1 2).2.2.length ≤ 1000000 := Nat.le_trans tk_len hrl
 have HC1 : Hid (Calls Tryz.prog 61 #[.pointer (some ⟨g, 0, none⟩), .int .u8 2] W0 fun e w' => e = .returned (.string (sx (u8s ((tk f1 r1 2).1.getD [])))) ∧ RR w' w.heap.size g (tk f1 r1 2).2.1 (tk f1 r1 2).2.2 ∧ W0.grownBy w' (some g)) := Lib.hid (by
   have h := refText_any w.heap.size g f1 r1 2 W0 hos.rs
   rw [← sx_u8s] at h
   exact h)
 have HT2 := Lib.hid (took_text (f := f1) (tag := 2) hby1 (by decide))
 generalize u8s ((tk f1 r1 2).1.getD []) = s1 at HC1 HT2
 generalize (tk f1 r1 2).2.1 = g1 at HC1 HT2
 generalize (tk f1 r1 2).2.2 = q1 at HC1 HT2 hrl1
 have HO1 := Lib.hid hos
 clear hos hby1 hrl
 have hrl := hrl1
 clear hrl1
 go_upto_region 9 with (go_at_call 61; (with_reducible refine HC1.out.mono ?_); clear HC1; rintro e V1 ⟨rfl, hrs, hg⟩; dsimp only; have HP1 := Lib.hid (HO1.out.gr hg hrs); clear hrs hg; have fz := HP1.out.oo.frozen 1; have cz : V1.cell? ⟨Bo, 1, none⟩ = some (.string (sx _)) := HP1.out.oo.cell 1)
 clear fz cz
 have hos := HP1.out.name s1
 generalize V1.setCell ⟨Bo, 1, none⟩ (.string (sx s1)) = W1 at hos ⊢
 clear HP1 HO1
 have hby2 := hos.rs.byt
 have HC2 := Lib.hid (refTakeAttrs_any w.heap.size g g1 q1 4 W1 hos.rs hrl)
 have HT3 := Lib.hid (took_attrsR (f := g1) (tag := 4) hby2 (by decide))
 have HO2 := Lib.hid hos
 clear hos hby2 hrl
 generalize tk g1 q1 4 = t2 at HC2 HT3
 generalize hl2 : (if t2.2.1 = false ∧ okL (t2.1.getD []) = true then mkL (t2.1.getD []) else []) = l2 at HT3
 generalize hg2 : (if t2.2.1 = false ∧ okL (t2.1.getD []) = true then false else true) = g2 at HT3
 have HLG := Lib.hid (And.intro hl2 hg2)
 clear hl2 hg2
 go_upto_region 13 with (go_at_call 62; (with_reducible refine HC2.out.mono ?_); clear HC2; intro e V2 hta; obtain ⟨Aa, ca, na, rfl, hrow, hrs, hg⟩ := takeQ_out HLG.out.1 HLG.out.2 hta; dsimp only; have HP2 := Lib.hid (HO2.out.gr hg hrs); have HR2 := Lib.hid (YtcjiofhjognklaaGreat.RowK.low hrow HO2.out.bel.size); clear hrs hg hrow hta; have fz := HP2.out.oo.frozen 3; have cz : V2.cell? ⟨Bo, 3, none⟩ = some (.slice none 0 0) := HP2.out.oo.cell 3)
 clear fz cz
 have hos := HP2.out.attrs (.slice Aa na ca) l2 HR2.out
 generalize V2.setCell ⟨Bo, 3, none⟩ (.slice Aa na ca) = W2 at hos ⊢
 clear HP2 HO2 HR2 HLG
 have HX : ∃ (o : Opn) (va vp vc : Value), Hid (Fin1 l o g2 t2.2.2 ∧ OR w g Bo o va vp vc g2 t2.2.2 W2) := ⟨_, _, _, _, Lib.hid ⟨fin_A (by decide) HT1.out (by simp [fA]) HT2.out HT3.out, hos⟩⟩
 clear hos
 obtain ⟨o, va, vp, vc, HX⟩ := HX
 have d0 : W2.cell? ⟨Bo, 0, none⟩ = some (.int .i64 o.k) := HX.out.2.oo.cell 0
 have d1 : W2.cell? ⟨Bo, 1, none⟩ = some (.string (sx o.name)) := HX.out.2.oo.cell 1
 have d2 : W2.cell? ⟨Bo, 2, none⟩ = some (.string (sx o.dst)) := HX.out.2.oo.cell 2
 have d3 : W2.cell? ⟨Bo, 3, none⟩ = some va := HX.out.2.oo.cell 3
 have d4 : W2.cell? ⟨Bo, 4, none⟩ = some vp := HX.out.2.oo.cell 4
 have d5 : W2.cell? ⟨Bo, 5, none⟩ = some vc := HX.out.2.oo.cell 5
 have d6 : W2.cell? ⟨Bo, 6, none⟩ = some (.int .i64 o.n) := HX.out.2.oo.cell 6
 have HE := refDone_any w.heap.size g g2 t2.2.2 W2 HX.out.2.rs
 by_cases hgood : g2 = false ∧ t2.2.2 = []
 · have hd : (!g2 && decide (t2.2.2 = [])) = true := by rw [hgood.1, hgood.2]; rfl
   rw [hd] at HE
   have HE := Lib.hid HE
   have HSN := Lib.hid (HX.out.1.snd hgood.1 hgood.2)
   have HLM := Lib.hid (HX.out.1.gd hgood.1).lim
   have HMA := refMayOp_any o va vp vc W2 HX.out.2.at_ HLM.out
   clear hd
   cases hm : mayO o with
   | true =>
     rw [hm] at HMA
     have HMA := Lib.hid HMA
     have HM := Lib.hid hm
     clear hm hgood
     go_upto_region 27 with (first
       | (go_at_call 65; (with_reducible refine HE.out.mono ?_); clear HE; rintro e wE ⟨rfl, rfl⟩)
       | (go_at_call 12; (with_reducible refine HMA.out.mono ?_); clear HMA d0 d1 d2 d3 d4 d5 d6; rintro e w6 ⟨rfl, hb6⟩; dsimp only; have H6 := Lib.hid (HX.out.2.on hb6); clear hb6))
     go_wp2_with (first
       | (refine wpList_load_row rfl 27 _ rfl Bo rfl 27 (opCs o va vp vc) (0, 0) _ H6.out.oo rfl rfl (by kernel_rfl) ?_)
       | (refine wpList_store_rowTo rfl 27 _ _ rfl rfl w.heap.size (opCs o va vp vc) rfl rfl 27 zCs H6.out.rr (by kernel_rfl) rfl ?c1 ?_; case c1 => exact H6.out.one))
     obtain ⟨h7, h8, h9⟩ := H6.out.out (opCs o va vp vc)
     have t0 := h9.cell 0
     have t1 := h9.cell 1
     have t2 := h9.cell 2
     have t3 := h9.cell 3
     have t4 := h9.cell 4
     have t5 := h9.cell 5
     have t6 := h9.cell 6
     have HE2 := Lib.hid (And.intro h7 h8)
     clear h7 h8 h9
     generalize w6.setRow w.heap.size (opCs o va vp vc) = w7 at t0 t1 t2 t3 t4 t5 t6 HE2 ⊢
     refine bodyPost_ret (v := .tuple #[opVal o va vp vc, .bool true]) ?_ rfl (.inl ⟨o, va, vp, vc, HM.out, HSN.out, rfl, HE2.out.1, HLM.out, HE2.out.2⟩)
     simp at t0 t1 t2 t3 t4 t5 t6
     simp [results, Tryz.f11, go_sem, t0, t1, t2, t3, t4, t5, t6]
   | false =>
     rw [hm] at HMA
     have HMA := Lib.hid HMA
     have HNO : Hid (∀ o, mayO o = true → l ≠ opB o) := Lib.hid (HX.out.1.none (fun h => by rw [hm] at h; cases h.2.2))
     clear hm hgood
     go_upto_region 26 with (first
       | (go_at_call 65; (with_reducible refine HE.out.mono ?_); clear HE; rintro e wE ⟨rfl, rfl⟩)
       | (go_at_call 12; (with_reducible refine HMA.out.mono ?_); clear HMA d0 d1 d2 d3 d4 d5 d6; rintro e w6 ⟨rfl, hb6⟩; dsimp only; have H6 := Lib.hid (HX.out.2.on hb6); clear hb6))
     go_wp2_with (refine wpList_store_rowTo rfl 27 _ _ rfl rfl w.heap.size zCs rfl rfl 27 zCs H6.out.rr (by kernel_rfl) rfl (by kernel_rfl) ?_)
     obtain ⟨h7, h8, h9⟩ := H6.out.out zCs
     have t0 := h9.cell 0
     have t1 := h9.cell 1
     have t2 := h9.cell 2
     have t3 := h9.cell 3
     have t4 := h9.cell 4
     have t5 := h9.cell 5
     have t6 := h9.cell 6
     have HE2 := Lib.hid h8
     clear h7 h8 h9
     generalize w6.setRow w.heap.size zCs = w7 at t0 t1 t2 t3 t4 t5 t6 HE2 ⊢
     refine bodyPost_ret (v := .tuple #[.agg zCs, .bool false]) ?_ rfl (.inr ⟨HNO.out, rfl, HE2.out⟩)
     simp at t0 t1 t2 t3 t4 t5 t6
     simp [results, Tryz.f11, go_sem, t0, t1, t2, t3, t4, t5, t6]
 · have hd : (!g2 && decide (t2.2.2 = [])) = false := by
     rw [← Bool.not_eq_true]
     intro h
     simp only [Bool.and_eq_true, Bool.not_eq_true', decide_eq_true_eq] at h
     exact hgood h
   rw [hd] at HE
   have HE := Lib.hid HE
   have HNO : Hid (∀ o, mayO o = true → l ≠ opB o) := Lib.hid (HX.out.1.none (fun h => hgood ⟨h.1, h.2.1⟩))
   clear hgood hd
   go_upto_region 26 with (go_at_call 65; (with_reducible refine HE.out.mono ?_); clear HE; rintro e wE ⟨rfl, rfl⟩)
   go_wp2_with (refine wpList_store_rowTo rfl 27 _ _ rfl rfl w.heap.size zCs rfl rfl 27 zCs HX.out.2.rr (by kernel_rfl) rfl (by kernel_rfl) ?_)
   obtain ⟨h7, h8, h9⟩ := HX.out.2.out zCs
   have t0 := h9.cell 0
   have t1 := h9.cell 1
   have t2 := h9.cell 2
   have t3 := h9.cell 3
   have t4 := h9.cell 4
   have t5 := h9.cell 5
   have t6 := h9.cell 6
   have HE2 := Lib.hid h8
   clear h7 h8 h9 d0 d1 d2 d3 d4 d5 d6
   generalize wE.setRow w.heap.size zCs = w7 at t0 t1 t2 t3 t4 t5 t6 HE2 ⊢
   refine bodyPost_ret (v := .tuple #[.agg zCs, .bool false]) ?_ rfl (.inr ⟨HNO.out, rfl, HE2.out⟩)
   simp at t0 t1 t2 t3 t4 t5 t6
   simp [results, Tryz.f11, go_sem, t0, t1, t2, t3, t4, t5, t6]
set_option maxHeartbeats 16000000 in
theorem rop4 (A : Option Addr) (c : Nat) (l : List Int) (w : World) (hr : Rd w w.heap.size A l) (hby : Byt l) (hn : l.length ≤ 1000000) (hc : l.length ≤ c) (hcm : c ≤ 9223372036854775807) (hk : (numV (tk false l 1)).1 = 4) :
   Calls Tryz.prog 11 #[.slice A l.length c] w (RefOpOut w l) := by
 have hb1 : Below w.heap.size w (w.alloc (.cells zCs 27)) := (Below.refl _ _).alloc (Nat.le_refl _) _
 have kR1 := Blk.new w 27 zCs
 have hs2 := RR.new2 (w := w.alloc (.cells zCs 27)) (hr.below hb1) hc hcm hby (by omega) hb1.size
 have hb12 : Below (w.alloc (.cells zCs 27)).heap.size (w.alloc (.cells zCs 27)) ((w.alloc (.cells zCs 27)).alloc (.cells #[.slice A l.length c, .bool false] 107)) := (Below.refl _ _).alloc (Nat.le_refl _) _
 have kR2 := kR1.on hb12
 have hb2 := hb1.trans (hb12.mono hb1.size)
 rw [World.size_alloc] at hs2
 have ht1 := took_numV (f := false) (tag := 1) hby (by decide)
 have hrng := numV_range (f := false) (tag := 1) hby
 generalize hsm : numV (tk false l 1) = S1 at hk ht1 hrng
 obtain ⟨k1', f1, r1⟩ := S1
 dsimp only at hk ht1 hrng
 subst hk
 have HT1 := Lib.hid ht1
 have HSM := Lib.hid hsm
 have HBY := Lib.hid hby
 have HNL := Lib.hid hn
 obtain ⟨g, hg⟩ : ∃ g, g = w.heap.size + 1 := ⟨_, rfl⟩
 obtain ⟨n, hnn⟩ : ∃ n, n = l.length := ⟨_, rfl⟩
 rw [← hnn] at hs2 hb2 kR2 ⊢
 rw [← hg] at hs2
 have H2 := Lib.hid (And.intro hb2 (And.intro kR2 (And.intro hs2 (show w.heap.size < g by omega))))
 clear hr hby hb1 kR1 hs2 hb12 kR2 hb2 hn hnn hc hcm ht1 hsm
 go_enter Tryz.func11, Tryz.ntmps11
 go_upto_region 2 with fail
 rw [← hg]
 clear hg
 generalize (w.alloc (.cells zCs 27)).alloc (.cells #[.slice A n c, .bool false] 107) = W2 at H2 ⊢
 go_upto_region 3 with (refine wpList_store_rowTo rfl 27 _ _ rfl rfl W2.heap.size zCs rfl rfl 27 zCs (Blk.new W2 27 zCs) (by kernel_rfl) rfl (by kernel_rfl) ?_)
 have hb3 : Below W2.heap.size W2 ((W2.alloc (.cells zCs 27)).setRow W2.heap.size zCs) := below_setRow ((Below.refl _ _).alloc (Nat.le_refl _) (.cells zCs 27)) (Nat.le_refl _) _
 have kB : Blk ((W2.alloc (.cells zCs 27)).setRow W2.heap.size zCs) W2.heap.size 27 (opCs (o0 0) (.slice none 0 0) (.slice none 0 0) (.slice none 0 0)) := (Blk.new W2 27 zCs).row _
 have hgo := H2.out.2.2.1.lt
 obtain ⟨Bo, hBo⟩ : ∃ b, b = W2.heap.size := ⟨_, rfl⟩
 have hos : OR w g W2.heap.size (o0 0) (.slice none 0 0) (.slice none 0 0) (.slice none 0 0) false l ((W2.alloc (.cells zCs 27)).setRow W2.heap.size zCs) := ⟨H2.out.1.trans (hb3.mono H2.out.1.size), H2.out.2.1.on hb3, kB, H2.out.2.2.1.on hb3, H2.out.2.2.2, hgo, YtcjiofhjognklaaGreat.nil_row kA _ _, nil_row kStr _ _, RdD.nil _ _⟩
 rw [← hBo] at hos ⊢
 clear hb3 kB hgo H2 hBo
 generalize (W2.alloc (.cells zCs 27)).setRow Bo zCs = W3 at hos ⊢
 have hN := refNumberV w.heap.size g false l 1 W3 hos.rs
 rw [HSM.out] at hN
 dsimp only at hN
 have HN := Lib.hid hN
 have H3 := Lib.hid hos
 clear hN hos
 clear hrng
 have hcv : ∀ W, (convert 55 22 (.int .u64 4)).run Tryz.prog W = .ok (.int .i64 4) W := fun _ => rfl
 go_upto_region 7 with (go_at_call 60; (with_reducible refine HN.out.mono ?_); clear HN; rintro e w4 ⟨rfl, hrs, hg⟩; dsimp only; have H4 := Lib.hid (H3.out.gr hg hrs); clear hrs hg; have fz := H4.out.oo.frozen 0; have cz : w4.cell? ⟨Bo, 0, none⟩ = some (.int .i64 0) := H4.out.oo.cell 0)
 clear fz cz hcv
 have hos := H4.out.kind 4
 generalize w4.setCell ⟨Bo, 0, none⟩ (.int .i64 4) = W0 at hos ⊢
 clear H4 H3
 have hrl : r1.length ≤ 1000000 := by have h := tk_len (f := false) (r := l) (tag := 1); have h4 := numV_rest (tk false l 1); rw [HSM.out] at h4; dsimp only at h4; rw [h4]; have := HNL.out; omega
 have hby1 := hos.rs.byt
 have hrl1 : (tk f1 r1 2).2.2.length ≤ 1000000 := Nat.le_trans tk_len hrl
 have HC1 : Hid (Calls Tryz.prog 61 #[.pointer (some ⟨g, 0, none⟩), .int .u8 2] W0 fun e w' => e = .returned (.string (sx (u8s ((tk f1 r1 2).1.getD [])))) ∧ RR w' w.heap.size g (tk f1 r1 2).2.1 (tk f1 r1 2).2.2 ∧ W0.grownBy w' (some g)) := Lib.hid (by
   have h := refText_any w.heap.size g f1 r1 2 W0 hos.rs
   rw [← sx_u8s] at h
   exact h)
 have HT2 := Lib.hid (took_text (f := f1) (tag := 2) hby1 (by decide))
 generalize u8s ((tk f1 r1 2).1.getD []) = s1 at HC1 HT2
 generalize (tk f1 r1 2).2.1 = g1 at HC1 HT2
 generalize (tk f1 r1 2).2.2 = q1 at HC1 HT2 hrl1
 have HO1 := Lib.hid hos
 clear hos hby1 hrl
 have hrl := hrl1
 clear hrl1
 go_upto_region 9 with (go_at_call 61; (with_reducible refine HC1.out.mono ?_); clear HC1; rintro e V1 ⟨rfl, hrs, hg⟩; dsimp only; have HP1 := Lib.hid (HO1.out.gr hg hrs); clear hrs hg; have fz := HP1.out.oo.frozen 1; have cz : V1.cell? ⟨Bo, 1, none⟩ = some (.string (sx _)) := HP1.out.oo.cell 1)
 clear fz cz
 have hos := HP1.out.name s1
 generalize V1.setCell ⟨Bo, 1, none⟩ (.string (sx s1)) = W1 at hos ⊢
 clear HP1 HO1
 have hby2 := hos.rs.byt
 have hrl2 : (tk g1 q1 3).2.2.length ≤ 1000000 := Nat.le_trans tk_len hrl
 have HC2 : Hid (Calls Tryz.prog 61 #[.pointer (some ⟨g, 0, none⟩), .int .u8 3] W1 fun e w' => e = .returned (.string (sx (u8s ((tk g1 q1 3).1.getD [])))) ∧ RR w' w.heap.size g (tk g1 q1 3).2.1 (tk g1 q1 3).2.2 ∧ W1.grownBy w' (some g)) := Lib.hid (by
   have h := refText_any w.heap.size g g1 q1 3 W1 hos.rs
   rw [← sx_u8s] at h
   exact h)
 have HT3 := Lib.hid (took_text (f := g1) (tag := 3) hby2 (by decide))
 generalize u8s ((tk g1 q1 3).1.getD []) = s2 at HC2 HT3
 generalize (tk g1 q1 3).2.1 = g2 at HC2 HT3
 generalize (tk g1 q1 3).2.2 = q2 at HC2 HT3 hrl2
 have HO2 := Lib.hid hos
 clear hos hby2 hrl
 have hrl := hrl2
 clear hrl2
 go_upto_region 11 with (go_at_call 61; (with_reducible refine HC2.out.mono ?_); clear HC2; rintro e V2 ⟨rfl, hrs, hg⟩; dsimp only; have HP2 := Lib.hid (HO2.out.gr hg hrs); clear hrs hg; have fz := HP2.out.oo.frozen 2; have cz : V2.cell? ⟨Bo, 2, none⟩ = some (.string (sx _)) := HP2.out.oo.cell 2)
 clear fz cz
 have hos := HP2.out.dst s2
 generalize V2.setCell ⟨Bo, 2, none⟩ (.string (sx s2)) = W2 at hos ⊢
 clear HP2 HO2
 have HX : ∃ (o : Opn) (va vp vc : Value), Hid (Fin1 l o g2 q2 ∧ OR w g Bo o va vp vc g2 q2 W2) := ⟨_, _, _, _, Lib.hid ⟨fin_R (by decide) HT1.out rfl HT2.out HT3.out, hos⟩⟩
 clear hos
 obtain ⟨o, va, vp, vc, HX⟩ := HX
 have d0 : W2.cell? ⟨Bo, 0, none⟩ = some (.int .i64 o.k) := HX.out.2.oo.cell 0
 have d1 : W2.cell? ⟨Bo, 1, none⟩ = some (.string (sx o.name)) := HX.out.2.oo.cell 1
 have d2 : W2.cell? ⟨Bo, 2, none⟩ = some (.string (sx o.dst)) := HX.out.2.oo.cell 2
 have d3 : W2.cell? ⟨Bo, 3, none⟩ = some va := HX.out.2.oo.cell 3
 have d4 : W2.cell? ⟨Bo, 4, none⟩ = some vp := HX.out.2.oo.cell 4
 have d5 : W2.cell? ⟨Bo, 5, none⟩ = some vc := HX.out.2.oo.cell 5
 have d6 : W2.cell? ⟨Bo, 6, none⟩ = some (.int .i64 o.n) := HX.out.2.oo.cell 6
 have HE := refDone_any w.heap.size g g2 q2 W2 HX.out.2.rs
 by_cases hgood : g2 = false ∧ q2 = []
 · have hd : (!g2 && decide (q2 = [])) = true := by rw [hgood.1, hgood.2]; rfl
   rw [hd] at HE
   have HE := Lib.hid HE
   have HSN := Lib.hid (HX.out.1.snd hgood.1 hgood.2)
   have HLM := Lib.hid (HX.out.1.gd hgood.1).lim
   have HMA := refMayOp_any o va vp vc W2 HX.out.2.at_ HLM.out
   clear hd
   cases hm : mayO o with
   | true =>
     rw [hm] at HMA
     have HMA := Lib.hid HMA
     have HM := Lib.hid hm
     clear hm hgood
     go_upto_region 27 with (first
       | (go_at_call 65; (with_reducible refine HE.out.mono ?_); clear HE; rintro e wE ⟨rfl, rfl⟩)
       | (go_at_call 12; (with_reducible refine HMA.out.mono ?_); clear HMA d0 d1 d2 d3 d4 d5 d6; rintro e w6 ⟨rfl, hb6⟩; dsimp only; have H6 := Lib.hid (HX.out.2.on hb6); clear hb6))
     go_wp2_with (first
       | (refine wpList_load_row rfl 27 _ rfl Bo rfl 27 (opCs o va vp vc) (0, 0) _ H6.out.oo rfl rfl (by kernel_rfl) ?_)
       | (refine wpList_store_rowTo rfl 27 _ _ rfl rfl w.heap.size (opCs o va vp vc) rfl rfl 27 zCs H6.out.rr (by kernel_rfl) rfl ?c1 ?_; case c1 => exact H6.out.one))
     obtain ⟨h7, h8, h9⟩ := H6.out.out (opCs o va vp vc)
     have t0 := h9.cell 0
     have t1 := h9.cell 1
     have t2 := h9.cell 2
     have t3 := h9.cell 3
     have t4 := h9.cell 4
     have t5 := h9.cell 5
     have t6 := h9.cell 6
     have HE2 := Lib.hid (And.intro h7 h8)
     clear h7 h8 h9
     generalize w6.setRow w.heap.size (opCs o va vp vc) = w7 at t0 t1 t2 t3 t4 t5 t6 HE2 ⊢
     refine bodyPost_ret (v := .tuple #[opVal o va vp vc, .bool true]) ?_ rfl (.inl ⟨o, va, vp, vc, HM.out, HSN.out, rfl, HE2.out.1, HLM.out, HE2.out.2⟩)
     simp at t0 t1 t2 t3 t4 t5 t6
     simp [results, Tryz.f11, go_sem, t0, t1, t2, t3, t4, t5, t6]
   | false =>
     rw [hm] at HMA
     have HMA := Lib.hid HMA
     have HNO : Hid (∀ o, mayO o = true → l ≠ opB o) := Lib.hid (HX.out.1.none (fun h => by rw [hm] at h; cases h.2.2))
     clear hm hgood
     go_upto_region 26 with (first
       | (go_at_call 65; (with_reducible refine HE.out.mono ?_); clear HE; rintro e wE ⟨rfl, rfl⟩)
       | (go_at_call 12; (with_reducible refine HMA.out.mono ?_); clear HMA d0 d1 d2 d3 d4 d5 d6; rintro e w6 ⟨rfl, hb6⟩; dsimp only; have H6 := Lib.hid (HX.out.2.on hb6); clear hb6))
     go_wp2_with (refine wpList_store_rowTo rfl 27 _ _ rfl rfl w.heap.size zCs rfl rfl 27 zCs H6.out.rr (by kernel_rfl) rfl (by kernel_rfl) ?_)
     obtain ⟨h7, h8, h9⟩ := H6.out.out zCs
     have t0 := h9.cell 0
     have t1 := h9.cell 1
     have t2 := h9.cell 2
     have t3 := h9.cell 3
     have t4 := h9.cell 4
     have t5 := h9.cell 5
     have t6 := h9.cell 6
     have HE2 := Lib.hid h8
     clear h7 h8 h9
     generalize w6.setRow w.heap.size zCs = w7 at t0 t1 t2 t3 t4 t5 t6 HE2 ⊢
     refine bodyPost_ret (v := .tuple #[.agg zCs, .bool false]) ?_ rfl (.inr ⟨HNO.out, rfl, HE2.out⟩)
     simp at t0 t1 t2 t3 t4 t5 t6
     simp [results, Tryz.f11, go_sem, t0, t1, t2, t3, t4, t5, t6]
 · have hd : (!g2 && decide (q2 = [])) = false := by
     rw [← Bool.not_eq_true]
     intro h
     simp only [Bool.and_eq_true, Bool.not_eq_true', decide_eq_true_eq] at h
     exact hgood h
   rw [hd] at HE
   have HE := Lib.hid HE
   have HNO : Hid (∀ o, mayO o = true → l ≠ opB o) := Lib.hid (HX.out.1.none (fun h => hgood ⟨h.1, h.2.1⟩))
   clear hgood hd
   go_upto_region 26 with (go_at_call 65; (with_reducible refine HE.out.mono ?_); clear HE; rintro e wE ⟨rfl, rfl⟩)
   go_wp2_with (refine wpList_store_rowTo rfl 27 _ _ rfl rfl w.heap.size zCs rfl rfl 27 zCs HX.out.2.rr (by kernel_rfl) rfl (by kernel_rfl) ?_)
   obtain ⟨h7, h8, h9⟩ := HX.out.2.out zCs
   have t0 := h9.cell 0
   have t1 := h9.cell 1
   have t2 := h9.cell 2
   have t3 := h9.cell 3
   have t4 := h9.cell 4
   have t5 := h9.cell 5
   have t6 := h9.cell 6
   have HE2 := Lib.hid h8
   clear h7 h8 h9 d0 d1 d2 d3 d4 d5 d6
   generalize wE.setRow w.heap.size zCs = w7 at t0 t1 t2 t3 t4 t5 t6 HE2 ⊢
   refine bodyPost_ret (v := .tuple #[.agg zCs, .bool false]) ?_ rfl (.inr ⟨HNO.out, rfl, HE2.out⟩)
   simp at t0 t1 t2 t3 t4 t5 t6
   simp [results, Tryz.f11, go_sem, t0, t1, t2, t3, t4, t5, t6]
end Go.Proofs.YtcjiofhjognklaaGreat.Tlv
