/- An operation's bytes, kind by kind. -/
import Derived.Test.YtniaijgejljjbaaGreatY17
namespace Go.Proofs.YtniaijgejljjbaaGreat.Tlv
open Go.RowKit
set_option maxRecDepth 100000
set_option linter.unusedVariables false
set_option linter.unusedSimpArgs false
theorem RdP.full {w : World} {v : Value} {l : List (List UInt8)} (h : RdP w v l) : ∃ A c n, v = .slice A n c ∧ Hid (n = l.length) ∧ Hid (RdK kStr w w.heap.size A l) := by
 obtain ⟨A, c, e, _, h1⟩ := h
 exact ⟨A, c, _, e, Lib.hid rfl, Lib.hid h1⟩
theorem RdC.full {w : World} {v : Value} {l : List Int} (h : RdC w v l) : ∃ A c n, v = .slice A n c ∧ Hid (n = l.length) ∧ Hid (Rd w w.heap.size A l ∧ (A = none → c = 0)) := by
 obtain ⟨A, c, e, h0, h1⟩ := h
 exact ⟨A, c, _, e, Lib.hid rfl, Lib.hid ⟨h1, h0.1⟩⟩
theorem Row.lowC {w : World} {base base' : Nat} {v : Value} {l : List Int} (h : Row w base v l) (hb : base' ≤ base) : Row w base' v l := by
 refine ⟨h.1, ?_⟩
 rcases h.2 with h0 | ⟨g, cap, cur, hv, hg, rest⟩
 · exact .inl h0
 · exact .inr ⟨g, cap, cur, hv, Nat.le_trans hb hg, rest⟩
theorem app_len {q x : List Int} {a b c : Nat} (h : q.length ≤ a) (h2 : x.length ≤ b) (h3 : a + b ≤ c) : (q ++ x).length ≤ c := by rw [List.length_append]; omega
theorem txt_len {t : Int} {s : List UInt8} (h : s.length ≤ 1000) : (txtB t s).length ≤ 1100 := by simp only [valB_length, bytes_sx]; omega
theorem num_len {t n : Int} : (numB t n).length ≤ 100 := by simp [valB_length, be8_length]
theorem attr_len {l : List At} (h : FewA l) : (valB 4 (atsB l)).length ≤ 104000 := by have := atsB_few h; simp only [valB_length]; omega
theorem part_len {l : List (List UInt8)} (h : l.length ≤ 8) (h2 : ∀ s ∈ l, s.length ≤ 1000) : (valB 5 (partsB l)).length ≤ 9000 := by have := partsB_len l h2; simp only [valB_length]; omega
theorem cur_len {l : List Int} (h : l.length ≤ 4000) : (valB 6 l).length ≤ 4100 := by simp only [valB_length]; omega
theorem op_end {o : Opn} {w W W' : World} {cs fs : Array Value} {b g : Nat} {q : List Int} {v : Value} (hq : q = opB o) (hw : BW w cs fs b g W) (hg : g ≤ W.heap.size) (hr : Row W' W.heap.size v q) (hb : Below W.heap.size W W') : ∃ A n c, v = .slice A n c ∧ OpOut o w (.returned (.tuple #[.slice A n c, .int .i64 0])) W' := by
 subst hq
 obtain ⟨A, c, rfl, _, _⟩ := hr.rd
 have h1 : w.heap.size ≤ W.heap.size := hw.bel.size
 exact ⟨A, _, c, rfl, A, _, c, rfl, rfl, hr.lowC h1, hw.bel.trans (hb.mono h1)⟩
set_option maxHeartbeats 8000000 in
theorem opBytes1 (o : Opn) (va vp vc : Value) (w : World) (ho : OpAt w o va vp vc) (hl : Lim o) (hm : mayO o = true) (hk : o.k = 1) : Calls Tryz.prog 44 #[opVal o va vp vc] w (OpOut o w) := by
 obtain ⟨Aa, ca, na, rfl, HNA, _⟩ := rdv_len ho.a
 obtain ⟨Ap, cp, np, rfl, HNP, HRP⟩ := ho.p.full
 obtain ⟨Ac, cc, nc, rfl, HNC, HRC⟩ := ho.c.full
 have HD := Lib.hid (mayD hm)
 have hb : Below w.heap.size w (w.alloc (.cells (opCs o (.slice Aa na ca) (.slice Ap np cp) (.slice Ac nc cc)) 44)) := (Below.refl _ _).alloc (Nat.le_refl _) _
 have k1 := Blk.new w 44 (opCs o (.slice Aa na ca) (.slice Ap np cp) (.slice Ac nc cc))
 have h := mayOp_any o _ _ _ _ (ho.on hb) hl
 rw [hm] at h
 have HM := Lib.hid h
 have HB := Lib.hid (And.intro hb k1)
 have HO := Lib.hid ho
 have HK := Lib.hid hk
 clear h ho hb k1 hl hm hk
 go_enter Tryz.func44, Tryz.ntmps44
 go_upto_region 3 with ((with_reducible refine HM.out.mono ?_); rintro e w1 ⟨rfl, hb1⟩; dsimp only; have HB1 := Lib.hid (And.intro (HB.out.1.trans (hb1.mono HB.out.1.size)) (HB.out.2.on hb1)); clear hb1)
 have c0 : w1.cell? ⟨w.heap.size, 0, none⟩ = some (.int .i64 1) := by rw [← HK.out]; exact HB1.out.2.cell 0
 go_upto_region 4 with (first
   | (go_at_call 63; (with_reducible refine (fields1 _).mono ?_); rintro e w2 ⟨rfl, hb2⟩; dsimp only; have HB2 := Lib.hid (And.intro (HB1.out.1.trans (hb2.mono HB1.out.1.size)) (HB1.out.2.on hb2)); clear hb2 c0)
   | (refine wpList_store_rowTo rfl 111 _ _ rfl rfl w2.heap.size (fdCs 1) rfl rfl 111 #[.bool false, .bool false, .bool false, .bool false, .bool false] (Blk.new w2 111 #[.bool false, .bool false, .bool false, .bool false, .bool false]) (by kernel_rfl) rfl (by kernel_rfl) ?_))
 have hb3 : Below w2.heap.size w2 ((w2.alloc (.cells #[.bool false, .bool false, .bool false, .bool false, .bool false] 111)).setRow w2.heap.size (fdCs 1)) := below_setRow ((Below.refl _ _).alloc (Nat.le_refl _) (.cells #[.bool false, .bool false, .bool false, .bool false, .bool false] 111)) (Nat.le_refl _) (fdCs 1)
 have kf : Blk ((w2.alloc (.cells #[.bool false, .bool false, .bool false, .bool false, .bool false] 111)).setRow w2.heap.size (fdCs 1)) w2.heap.size 111 (fdCs 1) := (Blk.new w2 111 #[.bool false, .bool false, .bool false, .bool false, .bool false]).row (fdCs 1)
 obtain ⟨b, hbb⟩ : ∃ b, b = w2.heap.size := ⟨_, rfl⟩
 have hbel := HB2.out.1.trans (hb3.mono HB2.out.1.size)
 have hop := HB2.out.2.on hb3
 have hfd := kf
 clear hb3 kf
 rw [← hbb] at hbel hop hfd ⊢
 generalize (w2.alloc (.cells #[.bool false, .bool false, .bool false, .bool false, .bool false] 111)).setRow b (fdCs 1) = W at hbel hop hfd ⊢
 have hws := ws_new W
 have hBg : w.heap.size < W.heap.size := hop.lt
 have HW := Lib.hid (BW.mk (hbel.alloc hbel.size (.cells #[.slice none 0 0, .int .i64 0, .int .i64 0] 91)) ((hop.alloc (.cells #[.slice none 0 0, .int .i64 0, .int .i64 0] 91))) (hfd.alloc (.cells #[.slice none 0 0, .int .i64 0, .int .i64 0] 91)) hBg hfd.lt)
 have c0 : (W.alloc (.cells #[.slice none 0 0, .int .i64 0, .int .i64 0] 91)).cell? ⟨w.heap.size, 0, none⟩ = some (.int .i64 1) := by rw [← HK.out]; exact (hop.alloc _).cell 0
 have HGB := Lib.hid (show w.heap.size < W.heap.size ∧ True from ⟨hBg, trivial⟩)
 have hwr : IntKind.u64.wrap 1 = 1 := by decide
 have HC := w_num W.heap.size [] 0 1 1 _ hws (by decide) (by decide) (by decide) (by decide) (by simp) (by decide)
 have HQE : Hid ([] ++ numB 1 1 ++ txtB 2 o.name ++ valB 4 (atsB o.attrs) = opB o) := Lib.hid (by unfold opB; rw [HK.out]; simp [fA, fT, fN, fP])
 clear hbel hop hfd hws hBg hbb HB HB1 HB2 HM
 go_wp2_with (first
   | (go_at_call 46; (with_reducible refine HC.out.mono ?_); clear HC c0; rintro e w4 ⟨rfl, hs, hwb⟩; dsimp only; have HS0 : Hid (WS w4 W.heap.size W.heap.size (some ([] ++ numB 1 1)) 1) := Lib.hid hs; have HW0 := Lib.hid (HW.out.step hwb); have HL0 : Hid (([] ++ numB 1 1).length ≤ 200) := Lib.hid (by simp [valB_length, be8_length]); have f0 : w4.cell? ⟨b, 0, none⟩ = some (.bool true) := (HW0.out.fd.cell 0).trans rfl; have f1 : w4.cell? ⟨b, 1, none⟩ = some (.bool false) := (HW0.out.fd.cell 1).trans rfl; have f2 : w4.cell? ⟨b, 2, none⟩ = some (.bool true) := (HW0.out.fd.cell 2).trans rfl; have f3 : w4.cell? ⟨b, 3, none⟩ = some (.bool false) := (HW0.out.fd.cell 3).trans rfl; have f4 : w4.cell? ⟨b, 4, none⟩ = some (.bool false) := (HW0.out.fd.cell 4).trans rfl; have c1 : w4.cell? ⟨w.heap.size, 1, none⟩ = some (.string (sx o.name)) := HW0.out.op.cell 1; have c2 : w4.cell? ⟨w.heap.size, 2, none⟩ = some (.string (sx o.dst)) := HW0.out.op.cell 2; have c3 : w4.cell? ⟨w.heap.size, 3, none⟩ = some (.slice Aa na ca) := HW0.out.op.cell 3; have c4 : w4.cell? ⟨w.heap.size, 4, none⟩ = some (.slice Ap np cp) := HW0.out.op.cell 4; have c5 : w4.cell? ⟨w.heap.size, 5, none⟩ = some (.slice Ac nc cc) := HW0.out.op.cell 5; have c6 : w4.cell? ⟨w.heap.size, 6, none⟩ = some (.int .i64 o.n) := HW0.out.op.cell 6; have HC := w_text W.heap.size ([] ++ numB 1 1) 1 2 o.name w4 HS0.out (by decide) (by decide) (Nat.le_trans HD.out.nm (by decide)) (Nat.le_trans HL0.out (by decide)) (by decide); clear hs hwb)
   | (go_at_call 64; (with_reducible refine HC.out.mono ?_); clear HC; clear f0 f1 f2 f3 f4 c1 c2 c3 c4 c5 c6; rintro e w5 ⟨rfl, hs, hwb⟩; dsimp only; have HS1 : Hid (WS w5 W.heap.size W.heap.size (some ([] ++ numB 1 1 ++ txtB 2 o.name)) 2) := Lib.hid hs; have HW1 := Lib.hid (HW0.out.step hwb); have HL1 : Hid (([] ++ numB 1 1 ++ txtB 2 o.name).length ≤ 1300) := Lib.hid (by exact app_len HL0.out (txt_len HD.out.nm) (by decide)); have f0 : w5.cell? ⟨b, 0, none⟩ = some (.bool true) := (HW1.out.fd.cell 0).trans rfl; have f1 : w5.cell? ⟨b, 1, none⟩ = some (.bool false) := (HW1.out.fd.cell 1).trans rfl; have f2 : w5.cell? ⟨b, 2, none⟩ = some (.bool true) := (HW1.out.fd.cell 2).trans rfl; have f3 : w5.cell? ⟨b, 3, none⟩ = some (.bool false) := (HW1.out.fd.cell 3).trans rfl; have f4 : w5.cell? ⟨b, 4, none⟩ = some (.bool false) := (HW1.out.fd.cell 4).trans rfl; have c1 : w5.cell? ⟨w.heap.size, 1, none⟩ = some (.string (sx o.name)) := HW1.out.op.cell 1; have c2 : w5.cell? ⟨w.heap.size, 2, none⟩ = some (.string (sx o.dst)) := HW1.out.op.cell 2; have c3 : w5.cell? ⟨w.heap.size, 3, none⟩ = some (.slice Aa na ca) := HW1.out.op.cell 3; have c4 : w5.cell? ⟨w.heap.size, 4, none⟩ = some (.slice Ap np cp) := HW1.out.op.cell 4; have c5 : w5.cell? ⟨w.heap.size, 5, none⟩ = some (.slice Ac nc cc) := HW1.out.op.cell 5; have c6 : w5.cell? ⟨w.heap.size, 6, none⟩ = some (.int .i64 o.n) := HW1.out.op.cell 6; have HC := w_attrs W.heap.size ([] ++ numB 1 1 ++ txtB 2 o.name) 2 4 o.attrs (.slice Aa na ca) w5 HS1.out (RdV.on HO.out.a HW1.out.bel) HD.out.few (by decide) (by decide) (Nat.le_trans HL1.out (by decide)) (by decide); clear hs hwb)
   | (go_at_call 65; (with_reducible refine HC.out.mono ?_); clear HC; clear f0 f1 f2 f3 f4 c1 c2 c3 c4 c5 c6; rintro e w6 ⟨⟨u, rfl⟩, hs, hwb⟩; dsimp only; have HS2 : Hid (WS w6 W.heap.size W.heap.size (some ([] ++ numB 1 1 ++ txtB 2 o.name ++ valB 4 (atsB o.attrs))) 3) := Lib.hid hs; have HW2 := Lib.hid (HW1.out.step hwb); have HL2 : Hid (([] ++ numB 1 1 ++ txtB 2 o.name ++ valB 4 (atsB o.attrs)).length ≤ 105300) := Lib.hid (by exact app_len HL1.out (attr_len HD.out.few) (by decide)); have f0 : w6.cell? ⟨b, 0, none⟩ = some (.bool true) := (HW2.out.fd.cell 0).trans rfl; have f1 : w6.cell? ⟨b, 1, none⟩ = some (.bool false) := (HW2.out.fd.cell 1).trans rfl; have f2 : w6.cell? ⟨b, 2, none⟩ = some (.bool true) := (HW2.out.fd.cell 2).trans rfl; have f3 : w6.cell? ⟨b, 3, none⟩ = some (.bool false) := (HW2.out.fd.cell 3).trans rfl; have f4 : w6.cell? ⟨b, 4, none⟩ = some (.bool false) := (HW2.out.fd.cell 4).trans rfl; have c1 : w6.cell? ⟨w.heap.size, 1, none⟩ = some (.string (sx o.name)) := HW2.out.op.cell 1; have c2 : w6.cell? ⟨w.heap.size, 2, none⟩ = some (.string (sx o.dst)) := HW2.out.op.cell 2; have c3 : w6.cell? ⟨w.heap.size, 3, none⟩ = some (.slice Aa na ca) := HW2.out.op.cell 3; have c4 : w6.cell? ⟨w.heap.size, 4, none⟩ = some (.slice Ap np cp) := HW2.out.op.cell 4; have c5 : w6.cell? ⟨w.heap.size, 5, none⟩ = some (.slice Ac nc cc) := HW2.out.op.cell 5; have c6 : w6.cell? ⟨w.heap.size, 6, none⟩ = some (.int .i64 o.n) := HW2.out.op.cell 6; have HC := end_ws W.heap.size 3 ([] ++ numB 1 1 ++ txtB 2 o.name ++ valB 4 (atsB o.attrs)) w6 HS2.out (Nat.le_trans HL2.out (by decide)); clear hs hwb)
   | (go_at_call 68; (with_reducible refine HC.out.mono ?_); clear HC; rintro e wf ⟨v', rfl, hr, hb⟩; obtain ⟨A, nn, c, rfl, hout⟩ := op_end HQE.out HW2.out (Nat.le_of_lt HS2.out.lt) hr hb; dsimp only; have HF := Lib.hid hout; clear hout hr hb))
 go_ret2
 exact HF.out
set_option maxHeartbeats 8000000 in
theorem opBytes2 (o : Opn) (va vp vc : Value) (w : World) (ho : OpAt w o va vp vc) (hl : Lim o) (hm : mayO o = true) (hk : o.k = 2) : Calls Tryz.prog 44 #[opVal o va vp vc] w (OpOut o w) := by
 obtain ⟨Aa, ca, na, rfl, HNA, _⟩ := rdv_len ho.a
 obtain ⟨Ap, cp, np, rfl, HNP, HRP⟩ := ho.p.full
 obtain ⟨Ac, cc, nc, rfl, HNC, HRC⟩ := ho.c.full
 have HD := Lib.hid (mayD hm)
 have hb : Below w.heap.size w (w.alloc (.cells (opCs o (.slice Aa na ca) (.slice Ap np cp) (.slice Ac nc cc)) 44)) := (Below.refl _ _).alloc (Nat.le_refl _) _
 have k1 := Blk.new w 44 (opCs o (.slice Aa na ca) (.slice Ap np cp) (.slice Ac nc cc))
 have h := mayOp_any o _ _ _ _ (ho.on hb) hl
 rw [hm] at h
 have HM := Lib.hid h
 have HB := Lib.hid (And.intro hb k1)
 have HO := Lib.hid ho
 have HK := Lib.hid hk
 clear h ho hb k1 hl hm hk
 go_enter Tryz.func44, Tryz.ntmps44
 go_upto_region 3 with ((with_reducible refine HM.out.mono ?_); rintro e w1 ⟨rfl, hb1⟩; dsimp only; have HB1 := Lib.hid (And.intro (HB.out.1.trans (hb1.mono HB.out.1.size)) (HB.out.2.on hb1)); clear hb1)
 have c0 : w1.cell? ⟨w.heap.size, 0, none⟩ = some (.int .i64 2) := by rw [← HK.out]; exact HB1.out.2.cell 0
 go_upto_region 4 with (first
   | (go_at_call 63; (with_reducible refine (fields2 _).mono ?_); rintro e w2 ⟨rfl, hb2⟩; dsimp only; have HB2 := Lib.hid (And.intro (HB1.out.1.trans (hb2.mono HB1.out.1.size)) (HB1.out.2.on hb2)); clear hb2 c0)
   | (refine wpList_store_rowTo rfl 111 _ _ rfl rfl w2.heap.size (fdCs 2) rfl rfl 111 #[.bool false, .bool false, .bool false, .bool false, .bool false] (Blk.new w2 111 #[.bool false, .bool false, .bool false, .bool false, .bool false]) (by kernel_rfl) rfl (by kernel_rfl) ?_))
 have hb3 : Below w2.heap.size w2 ((w2.alloc (.cells #[.bool false, .bool false, .bool false, .bool false, .bool false] 111)).setRow w2.heap.size (fdCs 2)) := below_setRow ((Below.refl _ _).alloc (Nat.le_refl _) (.cells #[.bool false, .bool false, .bool false, .bool false, .bool false] 111)) (Nat.le_refl _) (fdCs 2)
 have kf : Blk ((w2.alloc (.cells #[.bool false, .bool false, .bool false, .bool false, .bool false] 111)).setRow w2.heap.size (fdCs 2)) w2.heap.size 111 (fdCs 2) := (Blk.new w2 111 #[.bool false, .bool false, .bool false, .bool false, .bool false]).row (fdCs 2)
 obtain ⟨b, hbb⟩ : ∃ b, b = w2.heap.size := ⟨_, rfl⟩
 have hbel := HB2.out.1.trans (hb3.mono HB2.out.1.size)
 have hop := HB2.out.2.on hb3
 have hfd := kf
 clear hb3 kf
 rw [← hbb] at hbel hop hfd ⊢
 generalize (w2.alloc (.cells #[.bool false, .bool false, .bool false, .bool false, .bool false] 111)).setRow b (fdCs 2) = W at hbel hop hfd ⊢
 have hws := ws_new W
 have hBg : w.heap.size < W.heap.size := hop.lt
 have HW := Lib.hid (BW.mk (hbel.alloc hbel.size (.cells #[.slice none 0 0, .int .i64 0, .int .i64 0] 91)) ((hop.alloc (.cells #[.slice none 0 0, .int .i64 0, .int .i64 0] 91))) (hfd.alloc (.cells #[.slice none 0 0, .int .i64 0, .int .i64 0] 91)) hBg hfd.lt)
 have c0 : (W.alloc (.cells #[.slice none 0 0, .int .i64 0, .int .i64 0] 91)).cell? ⟨w.heap.size, 0, none⟩ = some (.int .i64 2) := by rw [← HK.out]; exact (hop.alloc _).cell 0
 have HGB := Lib.hid (show w.heap.size < W.heap.size ∧ True from ⟨hBg, trivial⟩)
 have hwr : IntKind.u64.wrap 2 = 2 := by decide
 have HC := w_num W.heap.size [] 0 1 2 _ hws (by decide) (by decide) (by decide) (by decide) (by simp) (by decide)
 have HQE : Hid ([] ++ numB 1 2 ++ txtB 2 o.name = opB o) := Lib.hid (by unfold opB; rw [HK.out]; simp [fA, fT, fN, fP])
 clear hbel hop hfd hws hBg hbb HB HB1 HB2 HM
 go_wp2_with (first
   | (go_at_call 46; (with_reducible refine HC.out.mono ?_); clear HC c0; rintro e w4 ⟨rfl, hs, hwb⟩; dsimp only; have HS0 : Hid (WS w4 W.heap.size W.heap.size (some ([] ++ numB 1 2)) 1) := Lib.hid hs; have HW0 := Lib.hid (HW.out.step hwb); have HL0 : Hid (([] ++ numB 1 2).length ≤ 200) := Lib.hid (by simp [valB_length, be8_length]); have f0 : w4.cell? ⟨b, 0, none⟩ = some (.bool true) := (HW0.out.fd.cell 0).trans rfl; have f1 : w4.cell? ⟨b, 1, none⟩ = some (.bool false) := (HW0.out.fd.cell 1).trans rfl; have f2 : w4.cell? ⟨b, 2, none⟩ = some (.bool false) := (HW0.out.fd.cell 2).trans rfl; have f3 : w4.cell? ⟨b, 3, none⟩ = some (.bool false) := (HW0.out.fd.cell 3).trans rfl; have f4 : w4.cell? ⟨b, 4, none⟩ = some (.bool false) := (HW0.out.fd.cell 4).trans rfl; have c1 : w4.cell? ⟨w.heap.size, 1, none⟩ = some (.string (sx o.name)) := HW0.out.op.cell 1; have c2 : w4.cell? ⟨w.heap.size, 2, none⟩ = some (.string (sx o.dst)) := HW0.out.op.cell 2; have c3 : w4.cell? ⟨w.heap.size, 3, none⟩ = some (.slice Aa na ca) := HW0.out.op.cell 3; have c4 : w4.cell? ⟨w.heap.size, 4, none⟩ = some (.slice Ap np cp) := HW0.out.op.cell 4; have c5 : w4.cell? ⟨w.heap.size, 5, none⟩ = some (.slice Ac nc cc) := HW0.out.op.cell 5; have c6 : w4.cell? ⟨w.heap.size, 6, none⟩ = some (.int .i64 o.n) := HW0.out.op.cell 6; have HC := w_text W.heap.size ([] ++ numB 1 2) 1 2 o.name w4 HS0.out (by decide) (by decide) (Nat.le_trans HD.out.nm (by decide)) (Nat.le_trans HL0.out (by decide)) (by decide); clear hs hwb)
   | (go_at_call 64; (with_reducible refine HC.out.mono ?_); clear HC; clear f0 f1 f2 f3 f4 c1 c2 c3 c4 c5 c6; rintro e w5 ⟨rfl, hs, hwb⟩; dsimp only; have HS1 : Hid (WS w5 W.heap.size W.heap.size (some ([] ++ numB 1 2 ++ txtB 2 o.name)) 2) := Lib.hid hs; have HW1 := Lib.hid (HW0.out.step hwb); have HL1 : Hid (([] ++ numB 1 2 ++ txtB 2 o.name).length ≤ 1300) := Lib.hid (by exact app_len HL0.out (txt_len HD.out.nm) (by decide)); have f0 : w5.cell? ⟨b, 0, none⟩ = some (.bool true) := (HW1.out.fd.cell 0).trans rfl; have f1 : w5.cell? ⟨b, 1, none⟩ = some (.bool false) := (HW1.out.fd.cell 1).trans rfl; have f2 : w5.cell? ⟨b, 2, none⟩ = some (.bool false) := (HW1.out.fd.cell 2).trans rfl; have f3 : w5.cell? ⟨b, 3, none⟩ = some (.bool false) := (HW1.out.fd.cell 3).trans rfl; have f4 : w5.cell? ⟨b, 4, none⟩ = some (.bool false) := (HW1.out.fd.cell 4).trans rfl; have c1 : w5.cell? ⟨w.heap.size, 1, none⟩ = some (.string (sx o.name)) := HW1.out.op.cell 1; have c2 : w5.cell? ⟨w.heap.size, 2, none⟩ = some (.string (sx o.dst)) := HW1.out.op.cell 2; have c3 : w5.cell? ⟨w.heap.size, 3, none⟩ = some (.slice Aa na ca) := HW1.out.op.cell 3; have c4 : w5.cell? ⟨w.heap.size, 4, none⟩ = some (.slice Ap np cp) := HW1.out.op.cell 4; have c5 : w5.cell? ⟨w.heap.size, 5, none⟩ = some (.slice Ac nc cc) := HW1.out.op.cell 5; have c6 : w5.cell? ⟨w.heap.size, 6, none⟩ = some (.int .i64 o.n) := HW1.out.op.cell 6; have HC := end_ws W.heap.size 2 ([] ++ numB 1 2 ++ txtB 2 o.name) w5 HS1.out (Nat.le_trans HL1.out (by decide)); clear hs hwb)
   | (go_at_call 68; (with_reducible refine HC.out.mono ?_); clear HC; rintro e wf ⟨v', rfl, hr, hb⟩; obtain ⟨A, nn, c, rfl, hout⟩ := op_end HQE.out HW1.out (Nat.le_of_lt HS1.out.lt) hr hb; dsimp only; have HF := Lib.hid hout; clear hout hr hb))
 go_ret2
 exact HF.out
set_option maxHeartbeats 8000000 in
theorem opBytes3 (o : Opn) (va vp vc : Value) (w : World) (ho : OpAt w o va vp vc) (hl : Lim o) (hm : mayO o = true) (hk : o.k = 3) : Calls Tryz.prog 44 #[opVal o va vp vc] w (OpOut o w) := by
 obtain ⟨Aa, ca, na, rfl, HNA, _⟩ := rdv_len ho.a
 obtain ⟨Ap, cp, np, rfl, HNP, HRP⟩ := ho.p.full
 obtain ⟨Ac, cc, nc, rfl, HNC, HRC⟩ := ho.c.full
 have HD := Lib.hid (mayD hm)
 have hb : Below w.heap.size w (w.alloc (.cells (opCs o (.slice Aa na ca) (.slice Ap np cp) (.slice Ac nc cc)) 44)) := (Below.refl _ _).alloc (Nat.le_refl _) _
 have k1 := Blk.new w 44 (opCs o (.slice Aa na ca) (.slice Ap np cp) (.slice Ac nc cc))
 have h := mayOp_any o _ _ _ _ (ho.on hb) hl
 rw [hm] at h
 have HM := Lib.hid h
 have HB := Lib.hid (And.intro hb k1)
 have HO := Lib.hid ho
 have HK := Lib.hid hk
 clear h ho hb k1 hl hm hk
 go_enter Tryz.func44, Tryz.ntmps44
 go_upto_region 3 with ((with_reducible refine HM.out.mono ?_); rintro e w1 ⟨rfl, hb1⟩; dsimp only; have HB1 := Lib.hid (And.intro (HB.out.1.trans (hb1.mono HB.out.1.size)) (HB.out.2.on hb1)); clear hb1)
 have c0 : w1.cell? ⟨w.heap.size, 0, none⟩ = some (.int .i64 3) := by rw [← HK.out]; exact HB1.out.2.cell 0
 go_upto_region 4 with (first
   | (go_at_call 63; (with_reducible refine (fields3 _).mono ?_); rintro e w2 ⟨rfl, hb2⟩; dsimp only; have HB2 := Lib.hid (And.intro (HB1.out.1.trans (hb2.mono HB1.out.1.size)) (HB1.out.2.on hb2)); clear hb2 c0)
   | (refine wpList_store_rowTo rfl 111 _ _ rfl rfl w2.heap.size (fdCs 3) rfl rfl 111 #[.bool false, .bool false, .bool false, .bool false, .bool false] (Blk.new w2 111 #[.bool false, .bool false, .bool false, .bool false, .bool false]) (by kernel_rfl) rfl (by kernel_rfl) ?_))
 have hb3 : Below w2.heap.size w2 ((w2.alloc (.cells #[.bool false, .bool false, .bool false, .bool false, .bool false] 111)).setRow w2.heap.size (fdCs 3)) := below_setRow ((Below.refl _ _).alloc (Nat.le_refl _) (.cells #[.bool false, .bool false, .bool false, .bool false, .bool false] 111)) (Nat.le_refl _) (fdCs 3)
 have kf : Blk ((w2.alloc (.cells #[.bool false, .bool false, .bool false, .bool false, .bool false] 111)).setRow w2.heap.size (fdCs 3)) w2.heap.size 111 (fdCs 3) := (Blk.new w2 111 #[.bool false, .bool false, .bool false, .bool false, .bool false]).row (fdCs 3)
 obtain ⟨b, hbb⟩ : ∃ b, b = w2.heap.size := ⟨_, rfl⟩
 have hbel := HB2.out.1.trans (hb3.mono HB2.out.1.size)
 have hop := HB2.out.2.on hb3
 have hfd := kf
 clear hb3 kf
 rw [← hbb] at hbel hop hfd ⊢
 generalize (w2.alloc (.cells #[.bool false, .bool false, .bool false, .bool false, .bool false] 111)).setRow b (fdCs 3) = W at hbel hop hfd ⊢
 have hws := ws_new W
 have hBg : w.heap.size < W.heap.size := hop.lt
 have HW := Lib.hid (BW.mk (hbel.alloc hbel.size (.cells #[.slice none 0 0, .int .i64 0, .int .i64 0] 91)) ((hop.alloc (.cells #[.slice none 0 0, .int .i64 0, .int .i64 0] 91))) (hfd.alloc (.cells #[.slice none 0 0, .int .i64 0, .int .i64 0] 91)) hBg hfd.lt)
 have c0 : (W.alloc (.cells #[.slice none 0 0, .int .i64 0, .int .i64 0] 91)).cell? ⟨w.heap.size, 0, none⟩ = some (.int .i64 3) := by rw [← HK.out]; exact (hop.alloc _).cell 0
 have HGB := Lib.hid (show w.heap.size < W.heap.size ∧ True from ⟨hBg, trivial⟩)
 have hwr : IntKind.u64.wrap 3 = 3 := by decide
 have HC := w_num W.heap.size [] 0 1 3 _ hws (by decide) (by decide) (by decide) (by decide) (by simp) (by decide)
 have HQE : Hid ([] ++ numB 1 3 ++ txtB 2 o.name ++ valB 4 (atsB o.attrs) = opB o) := Lib.hid (by unfold opB; rw [HK.out]; simp [fA, fT, fN, fP])
 clear hbel hop hfd hws hBg hbb HB HB1 HB2 HM
 go_wp2_with (first
   | (go_at_call 46; (with_reducible refine HC.out.mono ?_); clear HC c0; rintro e w4 ⟨rfl, hs, hwb⟩; dsimp only; have HS0 : Hid (WS w4 W.heap.size W.heap.size (some ([] ++ numB 1 3)) 1) := Lib.hid hs; have HW0 := Lib.hid (HW.out.step hwb); have HL0 : Hid (([] ++ numB 1 3).length ≤ 200) := Lib.hid (by simp [valB_length, be8_length]); have f0 : w4.cell? ⟨b, 0, none⟩ = some (.bool true) := (HW0.out.fd.cell 0).trans rfl; have f1 : w4.cell? ⟨b, 1, none⟩ = some (.bool false) := (HW0.out.fd.cell 1).trans rfl; have f2 : w4.cell? ⟨b, 2, none⟩ = some (.bool true) := (HW0.out.fd.cell 2).trans rfl; have f3 : w4.cell? ⟨b, 3, none⟩ = some (.bool false) := (HW0.out.fd.cell 3).trans rfl; have f4 : w4.cell? ⟨b, 4, none⟩ = some (.bool false) := (HW0.out.fd.cell 4).trans rfl; have c1 : w4.cell? ⟨w.heap.size, 1, none⟩ = some (.string (sx o.name)) := HW0.out.op.cell 1; have c2 : w4.cell? ⟨w.heap.size, 2, none⟩ = some (.string (sx o.dst)) := HW0.out.op.cell 2; have c3 : w4.cell? ⟨w.heap.size, 3, none⟩ = some (.slice Aa na ca) := HW0.out.op.cell 3; have c4 : w4.cell? ⟨w.heap.size, 4, none⟩ = some (.slice Ap np cp) := HW0.out.op.cell 4; have c5 : w4.cell? ⟨w.heap.size, 5, none⟩ = some (.slice Ac nc cc) := HW0.out.op.cell 5; have c6 : w4.cell? ⟨w.heap.size, 6, none⟩ = some (.int .i64 o.n) := HW0.out.op.cell 6; have HC := w_text W.heap.size ([] ++ numB 1 3) 1 2 o.name w4 HS0.out (by decide) (by decide) (Nat.le_trans HD.out.nm (by decide)) (Nat.le_trans HL0.out (by decide)) (by decide); clear hs hwb)
   | (go_at_call 64; (with_reducible refine HC.out.mono ?_); clear HC; clear f0 f1 f2 f3 f4 c1 c2 c3 c4 c5 c6; rintro e w5 ⟨rfl, hs, hwb⟩; dsimp only; have HS1 : Hid (WS w5 W.heap.size W.heap.size (some ([] ++ numB 1 3 ++ txtB 2 o.name)) 2) := Lib.hid hs; have HW1 := Lib.hid (HW0.out.step hwb); have HL1 : Hid (([] ++ numB 1 3 ++ txtB 2 o.name).length ≤ 1300) := Lib.hid (by exact app_len HL0.out (txt_len HD.out.nm) (by decide)); have f0 : w5.cell? ⟨b, 0, none⟩ = some (.bool true) := (HW1.out.fd.cell 0).trans rfl; have f1 : w5.cell? ⟨b, 1, none⟩ = some (.bool false) := (HW1.out.fd.cell 1).trans rfl; have f2 : w5.cell? ⟨b, 2, none⟩ = some (.bool true) := (HW1.out.fd.cell 2).trans rfl; have f3 : w5.cell? ⟨b, 3, none⟩ = some (.bool false) := (HW1.out.fd.cell 3).trans rfl; have f4 : w5.cell? ⟨b, 4, none⟩ = some (.bool false) := (HW1.out.fd.cell 4).trans rfl; have c1 : w5.cell? ⟨w.heap.size, 1, none⟩ = some (.string (sx o.name)) := HW1.out.op.cell 1; have c2 : w5.cell? ⟨w.heap.size, 2, none⟩ = some (.string (sx o.dst)) := HW1.out.op.cell 2; have c3 : w5.cell? ⟨w.heap.size, 3, none⟩ = some (.slice Aa na ca) := HW1.out.op.cell 3; have c4 : w5.cell? ⟨w.heap.size, 4, none⟩ = some (.slice Ap np cp) := HW1.out.op.cell 4; have c5 : w5.cell? ⟨w.heap.size, 5, none⟩ = some (.slice Ac nc cc) := HW1.out.op.cell 5; have c6 : w5.cell? ⟨w.heap.size, 6, none⟩ = some (.int .i64 o.n) := HW1.out.op.cell 6; have HC := w_attrs W.heap.size ([] ++ numB 1 3 ++ txtB 2 o.name) 2 4 o.attrs (.slice Aa na ca) w5 HS1.out (RdV.on HO.out.a HW1.out.bel) HD.out.few (by decide) (by decide) (Nat.le_trans HL1.out (by decide)) (by decide); clear hs hwb)
   | (go_at_call 65; (with_reducible refine HC.out.mono ?_); clear HC; clear f0 f1 f2 f3 f4 c1 c2 c3 c4 c5 c6; rintro e w6 ⟨⟨u, rfl⟩, hs, hwb⟩; dsimp only; have HS2 : Hid (WS w6 W.heap.size W.heap.size (some ([] ++ numB 1 3 ++ txtB 2 o.name ++ valB 4 (atsB o.attrs))) 3) := Lib.hid hs; have HW2 := Lib.hid (HW1.out.step hwb); have HL2 : Hid (([] ++ numB 1 3 ++ txtB 2 o.name ++ valB 4 (atsB o.attrs)).length ≤ 105300) := Lib.hid (by exact app_len HL1.out (attr_len HD.out.few) (by decide)); have f0 : w6.cell? ⟨b, 0, none⟩ = some (.bool true) := (HW2.out.fd.cell 0).trans rfl; have f1 : w6.cell? ⟨b, 1, none⟩ = some (.bool false) := (HW2.out.fd.cell 1).trans rfl; have f2 : w6.cell? ⟨b, 2, none⟩ = some (.bool true) := (HW2.out.fd.cell 2).trans rfl; have f3 : w6.cell? ⟨b, 3, none⟩ = some (.bool false) := (HW2.out.fd.cell 3).trans rfl; have f4 : w6.cell? ⟨b, 4, none⟩ = some (.bool false) := (HW2.out.fd.cell 4).trans rfl; have c1 : w6.cell? ⟨w.heap.size, 1, none⟩ = some (.string (sx o.name)) := HW2.out.op.cell 1; have c2 : w6.cell? ⟨w.heap.size, 2, none⟩ = some (.string (sx o.dst)) := HW2.out.op.cell 2; have c3 : w6.cell? ⟨w.heap.size, 3, none⟩ = some (.slice Aa na ca) := HW2.out.op.cell 3; have c4 : w6.cell? ⟨w.heap.size, 4, none⟩ = some (.slice Ap np cp) := HW2.out.op.cell 4; have c5 : w6.cell? ⟨w.heap.size, 5, none⟩ = some (.slice Ac nc cc) := HW2.out.op.cell 5; have c6 : w6.cell? ⟨w.heap.size, 6, none⟩ = some (.int .i64 o.n) := HW2.out.op.cell 6; have HC := end_ws W.heap.size 3 ([] ++ numB 1 3 ++ txtB 2 o.name ++ valB 4 (atsB o.attrs)) w6 HS2.out (Nat.le_trans HL2.out (by decide)); clear hs hwb)
   | (go_at_call 68; (with_reducible refine HC.out.mono ?_); clear HC; rintro e wf ⟨v', rfl, hr, hb⟩; obtain ⟨A, nn, c, rfl, hout⟩ := op_end HQE.out HW2.out (Nat.le_of_lt HS2.out.lt) hr hb; dsimp only; have HF := Lib.hid hout; clear hout hr hb))
 go_ret2
 exact HF.out
set_option maxHeartbeats 8000000 in
theorem opBytes4 (o : Opn) (va vp vc : Value) (w : World) (ho : OpAt w o va vp vc) (hl : Lim o) (hm : mayO o = true) (hk : o.k = 4) : Calls Tryz.prog 44 #[opVal o va vp vc] w (OpOut o w) := by
 obtain ⟨Aa, ca, na, rfl, HNA, _⟩ := rdv_len ho.a
 obtain ⟨Ap, cp, np, rfl, HNP, HRP⟩ := ho.p.full
 obtain ⟨Ac, cc, nc, rfl, HNC, HRC⟩ := ho.c.full
 have HD := Lib.hid (mayD hm)
 have hb : Below w.heap.size w (w.alloc (.cells (opCs o (.slice Aa na ca) (.slice Ap np cp) (.slice Ac nc cc)) 44)) := (Below.refl _ _).alloc (Nat.le_refl _) _
 have k1 := Blk.new w 44 (opCs o (.slice Aa na ca) (.slice Ap np cp) (.slice Ac nc cc))
 have h := mayOp_any o _ _ _ _ (ho.on hb) hl
 rw [hm] at h
 have HM := Lib.hid h
 have HB := Lib.hid (And.intro hb k1)
 have HO := Lib.hid ho
 have HK := Lib.hid hk
 clear h ho hb k1 hl hm hk
 go_enter Tryz.func44, Tryz.ntmps44
 go_upto_region 3 with ((with_reducible refine HM.out.mono ?_); rintro e w1 ⟨rfl, hb1⟩; dsimp only; have HB1 := Lib.hid (And.intro (HB.out.1.trans (hb1.mono HB.out.1.size)) (HB.out.2.on hb1)); clear hb1)
 have c0 : w1.cell? ⟨w.heap.size, 0, none⟩ = some (.int .i64 4) := by rw [← HK.out]; exact HB1.out.2.cell 0
 go_upto_region 4 with (first
   | (go_at_call 63; (with_reducible refine (fields4 _).mono ?_); rintro e w2 ⟨rfl, hb2⟩; dsimp only; have HB2 := Lib.hid (And.intro (HB1.out.1.trans (hb2.mono HB1.out.1.size)) (HB1.out.2.on hb2)); clear hb2 c0)
   | (refine wpList_store_rowTo rfl 111 _ _ rfl rfl w2.heap.size (fdCs 4) rfl rfl 111 #[.bool false, .bool false, .bool false, .bool false, .bool false] (Blk.new w2 111 #[.bool false, .bool false, .bool false, .bool false, .bool false]) (by kernel_rfl) rfl (by kernel_rfl) ?_))
 have hb3 : Below w2.heap.size w2 ((w2.alloc (.cells #[.bool false, .bool false, .bool false, .bool false, .bool false] 111)).setRow w2.heap.size (fdCs 4)) := below_setRow ((Below.refl _ _).alloc (Nat.le_refl _) (.cells #[.bool false, .bool false, .bool false, .bool false, .bool false] 111)) (Nat.le_refl _) (fdCs 4)
 have kf : Blk ((w2.alloc (.cells #[.bool false, .bool false, .bool false, .bool false, .bool false] 111)).setRow w2.heap.size (fdCs 4)) w2.heap.size 111 (fdCs 4) := (Blk.new w2 111 #[.bool false, .bool false, .bool false, .bool false, .bool false]).row (fdCs 4)
 obtain ⟨b, hbb⟩ : ∃ b, b = w2.heap.size := ⟨_, rfl⟩
 have hbel := HB2.out.1.trans (hb3.mono HB2.out.1.size)
 have hop := HB2.out.2.on hb3
 have hfd := kf
 clear hb3 kf
 rw [← hbb] at hbel hop hfd ⊢
 generalize (w2.alloc (.cells #[.bool false, .bool false, .bool false, .bool false, .bool false] 111)).setRow b (fdCs 4) = W at hbel hop hfd ⊢
 have hws := ws_new W
 have hBg : w.heap.size < W.heap.size := hop.lt
 have HW := Lib.hid (BW.mk (hbel.alloc hbel.size (.cells #[.slice none 0 0, .int .i64 0, .int .i64 0] 91)) ((hop.alloc (.cells #[.slice none 0 0, .int .i64 0, .int .i64 0] 91))) (hfd.alloc (.cells #[.slice none 0 0, .int .i64 0, .int .i64 0] 91)) hBg hfd.lt)
 have c0 : (W.alloc (.cells #[.slice none 0 0, .int .i64 0, .int .i64 0] 91)).cell? ⟨w.heap.size, 0, none⟩ = some (.int .i64 4) := by rw [← HK.out]; exact (hop.alloc _).cell 0
 have HGB := Lib.hid (show w.heap.size < W.heap.size ∧ True from ⟨hBg, trivial⟩)
 have hwr : IntKind.u64.wrap 4 = 4 := by decide
 have HC := w_num W.heap.size [] 0 1 4 _ hws (by decide) (by decide) (by decide) (by decide) (by simp) (by decide)
 have HQE : Hid ([] ++ numB 1 4 ++ txtB 2 o.name ++ txtB 3 o.dst = opB o) := Lib.hid (by unfold opB; rw [HK.out]; simp [fA, fT, fN, fP])
 clear hbel hop hfd hws hBg hbb HB HB1 HB2 HM
 go_wp2_with (first
   | (go_at_call 46; (with_reducible refine HC.out.mono ?_); clear HC c0; rintro e w4 ⟨rfl, hs, hwb⟩; dsimp only; have HS0 : Hid (WS w4 W.heap.size W.heap.size (some ([] ++ numB 1 4)) 1) := Lib.hid hs; have HW0 := Lib.hid (HW.out.step hwb); have HL0 : Hid (([] ++ numB 1 4).length ≤ 200) := Lib.hid (by simp [valB_length, be8_length]); have f0 : w4.cell? ⟨b, 0, none⟩ = some (.bool true) := (HW0.out.fd.cell 0).trans rfl; have f1 : w4.cell? ⟨b, 1, none⟩ = some (.bool true) := (HW0.out.fd.cell 1).trans rfl; have f2 : w4.cell? ⟨b, 2, none⟩ = some (.bool false) := (HW0.out.fd.cell 2).trans rfl; have f3 : w4.cell? ⟨b, 3, none⟩ = some (.bool false) := (HW0.out.fd.cell 3).trans rfl; have f4 : w4.cell? ⟨b, 4, none⟩ = some (.bool false) := (HW0.out.fd.cell 4).trans rfl; have c1 : w4.cell? ⟨w.heap.size, 1, none⟩ = some (.string (sx o.name)) := HW0.out.op.cell 1; have c2 : w4.cell? ⟨w.heap.size, 2, none⟩ = some (.string (sx o.dst)) := HW0.out.op.cell 2; have c3 : w4.cell? ⟨w.heap.size, 3, none⟩ = some (.slice Aa na ca) := HW0.out.op.cell 3; have c4 : w4.cell? ⟨w.heap.size, 4, none⟩ = some (.slice Ap np cp) := HW0.out.op.cell 4; have c5 : w4.cell? ⟨w.heap.size, 5, none⟩ = some (.slice Ac nc cc) := HW0.out.op.cell 5; have c6 : w4.cell? ⟨w.heap.size, 6, none⟩ = some (.int .i64 o.n) := HW0.out.op.cell 6; have HC := w_text W.heap.size ([] ++ numB 1 4) 1 2 o.name w4 HS0.out (by decide) (by decide) (Nat.le_trans HD.out.nm (by decide)) (Nat.le_trans HL0.out (by decide)) (by decide); clear hs hwb)
   | (go_at_call 64; (with_reducible refine HC.out.mono ?_); clear HC; clear f0 f1 f2 f3 f4 c1 c2 c3 c4 c5 c6; rintro e w5 ⟨rfl, hs, hwb⟩; dsimp only; have HS1 : Hid (WS w5 W.heap.size W.heap.size (some ([] ++ numB 1 4 ++ txtB 2 o.name)) 2) := Lib.hid hs; have HW1 := Lib.hid (HW0.out.step hwb); have HL1 : Hid (([] ++ numB 1 4 ++ txtB 2 o.name).length ≤ 1300) := Lib.hid (by exact app_len HL0.out (txt_len HD.out.nm) (by decide)); have f0 : w5.cell? ⟨b, 0, none⟩ = some (.bool true) := (HW1.out.fd.cell 0).trans rfl; have f1 : w5.cell? ⟨b, 1, none⟩ = some (.bool true) := (HW1.out.fd.cell 1).trans rfl; have f2 : w5.cell? ⟨b, 2, none⟩ = some (.bool false) := (HW1.out.fd.cell 2).trans rfl; have f3 : w5.cell? ⟨b, 3, none⟩ = some (.bool false) := (HW1.out.fd.cell 3).trans rfl; have f4 : w5.cell? ⟨b, 4, none⟩ = some (.bool false) := (HW1.out.fd.cell 4).trans rfl; have c1 : w5.cell? ⟨w.heap.size, 1, none⟩ = some (.string (sx o.name)) := HW1.out.op.cell 1; have c2 : w5.cell? ⟨w.heap.size, 2, none⟩ = some (.string (sx o.dst)) := HW1.out.op.cell 2; have c3 : w5.cell? ⟨w.heap.size, 3, none⟩ = some (.slice Aa na ca) := HW1.out.op.cell 3; have c4 : w5.cell? ⟨w.heap.size, 4, none⟩ = some (.slice Ap np cp) := HW1.out.op.cell 4; have c5 : w5.cell? ⟨w.heap.size, 5, none⟩ = some (.slice Ac nc cc) := HW1.out.op.cell 5; have c6 : w5.cell? ⟨w.heap.size, 6, none⟩ = some (.int .i64 o.n) := HW1.out.op.cell 6; have HC := w_text W.heap.size ([] ++ numB 1 4 ++ txtB 2 o.name) 2 3 o.dst w5 HS1.out (by decide) (by decide) (Nat.le_trans HD.out.ds (by decide)) (Nat.le_trans HL1.out (by decide)) (by decide); clear hs hwb)
   | (go_at_call 64; (with_reducible refine HC.out.mono ?_); clear HC; clear f0 f1 f2 f3 f4 c1 c2 c3 c4 c5 c6; rintro e w6 ⟨rfl, hs, hwb⟩; dsimp only; have HS2 : Hid (WS w6 W.heap.size W.heap.size (some ([] ++ numB 1 4 ++ txtB 2 o.name ++ txtB 3 o.dst)) 3) := Lib.hid hs; have HW2 := Lib.hid (HW1.out.step hwb); have HL2 : Hid (([] ++ numB 1 4 ++ txtB 2 o.name ++ txtB 3 o.dst).length ≤ 2400) := Lib.hid (by exact app_len HL1.out (txt_len HD.out.ds) (by decide)); have f0 : w6.cell? ⟨b, 0, none⟩ = some (.bool true) := (HW2.out.fd.cell 0).trans rfl; have f1 : w6.cell? ⟨b, 1, none⟩ = some (.bool true) := (HW2.out.fd.cell 1).trans rfl; have f2 : w6.cell? ⟨b, 2, none⟩ = some (.bool false) := (HW2.out.fd.cell 2).trans rfl; have f3 : w6.cell? ⟨b, 3, none⟩ = some (.bool false) := (HW2.out.fd.cell 3).trans rfl; have f4 : w6.cell? ⟨b, 4, none⟩ = some (.bool false) := (HW2.out.fd.cell 4).trans rfl; have c1 : w6.cell? ⟨w.heap.size, 1, none⟩ = some (.string (sx o.name)) := HW2.out.op.cell 1; have c2 : w6.cell? ⟨w.heap.size, 2, none⟩ = some (.string (sx o.dst)) := HW2.out.op.cell 2; have c3 : w6.cell? ⟨w.heap.size, 3, none⟩ = some (.slice Aa na ca) := HW2.out.op.cell 3; have c4 : w6.cell? ⟨w.heap.size, 4, none⟩ = some (.slice Ap np cp) := HW2.out.op.cell 4; have c5 : w6.cell? ⟨w.heap.size, 5, none⟩ = some (.slice Ac nc cc) := HW2.out.op.cell 5; have c6 : w6.cell? ⟨w.heap.size, 6, none⟩ = some (.int .i64 o.n) := HW2.out.op.cell 6; have HC := end_ws W.heap.size 3 ([] ++ numB 1 4 ++ txtB 2 o.name ++ txtB 3 o.dst) w6 HS2.out (Nat.le_trans HL2.out (by decide)); clear hs hwb)
   | (go_at_call 68; (with_reducible refine HC.out.mono ?_); clear HC; rintro e wf ⟨v', rfl, hr, hb⟩; obtain ⟨A, nn, c, rfl, hout⟩ := op_end HQE.out HW2.out (Nat.le_of_lt HS2.out.lt) hr hb; dsimp only; have HF := Lib.hid hout; clear hout hr hb))
 go_ret2
 exact HF.out
set_option maxHeartbeats 8000000 in
theorem opBytes5 (o : Opn) (va vp vc : Value) (w : World) (ho : OpAt w o va vp vc) (hl : Lim o) (hm : mayO o = true) (hk : o.k = 5) : Calls Tryz.prog 44 #[opVal o va vp vc] w (OpOut o w) := by
 obtain ⟨Aa, ca, na, rfl, HNA, _⟩ := rdv_len ho.a
 obtain ⟨Ap, cp, np, rfl, HNP, HRP⟩ := ho.p.full
 obtain ⟨Ac, cc, nc, rfl, HNC, HRC⟩ := ho.c.full
 have HD := Lib.hid (mayD hm)
 have hb : Below w.heap.size w (w.alloc (.cells (opCs o (.slice Aa na ca) (.slice Ap np cp) (.slice Ac nc cc)) 44)) := (Below.refl _ _).alloc (Nat.le_refl _) _
 have k1 := Blk.new w 44 (opCs o (.slice Aa na ca) (.slice Ap np cp) (.slice Ac nc cc))
 have h := mayOp_any o _ _ _ _ (ho.on hb) hl
 rw [hm] at h
 have HM := Lib.hid h
 have HB := Lib.hid (And.intro hb k1)
 have HO := Lib.hid ho
 have HK := Lib.hid hk
 clear h ho hb k1 hl hm hk
 go_enter Tryz.func44, Tryz.ntmps44
 go_upto_region 3 with ((with_reducible refine HM.out.mono ?_); rintro e w1 ⟨rfl, hb1⟩; dsimp only; have HB1 := Lib.hid (And.intro (HB.out.1.trans (hb1.mono HB.out.1.size)) (HB.out.2.on hb1)); clear hb1)
 have c0 : w1.cell? ⟨w.heap.size, 0, none⟩ = some (.int .i64 5) := by rw [← HK.out]; exact HB1.out.2.cell 0
 go_upto_region 4 with (first
   | (go_at_call 63; (with_reducible refine (fields5 _).mono ?_); rintro e w2 ⟨rfl, hb2⟩; dsimp only; have HB2 := Lib.hid (And.intro (HB1.out.1.trans (hb2.mono HB1.out.1.size)) (HB1.out.2.on hb2)); clear hb2 c0)
   | (refine wpList_store_rowTo rfl 111 _ _ rfl rfl w2.heap.size (fdCs 5) rfl rfl 111 #[.bool false, .bool false, .bool false, .bool false, .bool false] (Blk.new w2 111 #[.bool false, .bool false, .bool false, .bool false, .bool false]) (by kernel_rfl) rfl (by kernel_rfl) ?_))
 have hb3 : Below w2.heap.size w2 ((w2.alloc (.cells #[.bool false, .bool false, .bool false, .bool false, .bool false] 111)).setRow w2.heap.size (fdCs 5)) := below_setRow ((Below.refl _ _).alloc (Nat.le_refl _) (.cells #[.bool false, .bool false, .bool false, .bool false, .bool false] 111)) (Nat.le_refl _) (fdCs 5)
 have kf : Blk ((w2.alloc (.cells #[.bool false, .bool false, .bool false, .bool false, .bool false] 111)).setRow w2.heap.size (fdCs 5)) w2.heap.size 111 (fdCs 5) := (Blk.new w2 111 #[.bool false, .bool false, .bool false, .bool false, .bool false]).row (fdCs 5)
 obtain ⟨b, hbb⟩ : ∃ b, b = w2.heap.size := ⟨_, rfl⟩
 have hbel := HB2.out.1.trans (hb3.mono HB2.out.1.size)
 have hop := HB2.out.2.on hb3
 have hfd := kf
 clear hb3 kf
 rw [← hbb] at hbel hop hfd ⊢
 generalize (w2.alloc (.cells #[.bool false, .bool false, .bool false, .bool false, .bool false] 111)).setRow b (fdCs 5) = W at hbel hop hfd ⊢
 have hws := ws_new W
 have hBg : w.heap.size < W.heap.size := hop.lt
 have HW := Lib.hid (BW.mk (hbel.alloc hbel.size (.cells #[.slice none 0 0, .int .i64 0, .int .i64 0] 91)) ((hop.alloc (.cells #[.slice none 0 0, .int .i64 0, .int .i64 0] 91))) (hfd.alloc (.cells #[.slice none 0 0, .int .i64 0, .int .i64 0] 91)) hBg hfd.lt)
 have c0 : (W.alloc (.cells #[.slice none 0 0, .int .i64 0, .int .i64 0] 91)).cell? ⟨w.heap.size, 0, none⟩ = some (.int .i64 5) := by rw [← HK.out]; exact (hop.alloc _).cell 0
 have HGB := Lib.hid (show w.heap.size < W.heap.size ∧ True from ⟨hBg, trivial⟩)
 have hwr : IntKind.u64.wrap 5 = 5 := by decide
 have HC := w_num W.heap.size [] 0 1 5 _ hws (by decide) (by decide) (by decide) (by decide) (by simp) (by decide)
 have HQE : Hid ([] ++ numB 1 5 ++ txtB 2 o.name ++ valB 4 (atsB o.attrs) = opB o) := Lib.hid (by unfold opB; rw [HK.out]; simp [fA, fT, fN, fP])
 clear hbel hop hfd hws hBg hbb HB HB1 HB2 HM
 go_wp2_with (first
   | (go_at_call 46; (with_reducible refine HC.out.mono ?_); clear HC c0; rintro e w4 ⟨rfl, hs, hwb⟩; dsimp only; have HS0 : Hid (WS w4 W.heap.size W.heap.size (some ([] ++ numB 1 5)) 1) := Lib.hid hs; have HW0 := Lib.hid (HW.out.step hwb); have HL0 : Hid (([] ++ numB 1 5).length ≤ 200) := Lib.hid (by simp [valB_length, be8_length]); have f0 : w4.cell? ⟨b, 0, none⟩ = some (.bool true) := (HW0.out.fd.cell 0).trans rfl; have f1 : w4.cell? ⟨b, 1, none⟩ = some (.bool false) := (HW0.out.fd.cell 1).trans rfl; have f2 : w4.cell? ⟨b, 2, none⟩ = some (.bool true) := (HW0.out.fd.cell 2).trans rfl; have f3 : w4.cell? ⟨b, 3, none⟩ = some (.bool false) := (HW0.out.fd.cell 3).trans rfl; have f4 : w4.cell? ⟨b, 4, none⟩ = some (.bool false) := (HW0.out.fd.cell 4).trans rfl; have c1 : w4.cell? ⟨w.heap.size, 1, none⟩ = some (.string (sx o.name)) := HW0.out.op.cell 1; have c2 : w4.cell? ⟨w.heap.size, 2, none⟩ = some (.string (sx o.dst)) := HW0.out.op.cell 2; have c3 : w4.cell? ⟨w.heap.size, 3, none⟩ = some (.slice Aa na ca) := HW0.out.op.cell 3; have c4 : w4.cell? ⟨w.heap.size, 4, none⟩ = some (.slice Ap np cp) := HW0.out.op.cell 4; have c5 : w4.cell? ⟨w.heap.size, 5, none⟩ = some (.slice Ac nc cc) := HW0.out.op.cell 5; have c6 : w4.cell? ⟨w.heap.size, 6, none⟩ = some (.int .i64 o.n) := HW0.out.op.cell 6; have HC := w_text W.heap.size ([] ++ numB 1 5) 1 2 o.name w4 HS0.out (by decide) (by decide) (Nat.le_trans HD.out.nm (by decide)) (Nat.le_trans HL0.out (by decide)) (by decide); clear hs hwb)
   | (go_at_call 64; (with_reducible refine HC.out.mono ?_); clear HC; clear f0 f1 f2 f3 f4 c1 c2 c3 c4 c5 c6; rintro e w5 ⟨rfl, hs, hwb⟩; dsimp only; have HS1 : Hid (WS w5 W.heap.size W.heap.size (some ([] ++ numB 1 5 ++ txtB 2 o.name)) 2) := Lib.hid hs; have HW1 := Lib.hid (HW0.out.step hwb); have HL1 : Hid (([] ++ numB 1 5 ++ txtB 2 o.name).length ≤ 1300) := Lib.hid (by exact app_len HL0.out (txt_len HD.out.nm) (by decide)); have f0 : w5.cell? ⟨b, 0, none⟩ = some (.bool true) := (HW1.out.fd.cell 0).trans rfl; have f1 : w5.cell? ⟨b, 1, none⟩ = some (.bool false) := (HW1.out.fd.cell 1).trans rfl; have f2 : w5.cell? ⟨b, 2, none⟩ = some (.bool true) := (HW1.out.fd.cell 2).trans rfl; have f3 : w5.cell? ⟨b, 3, none⟩ = some (.bool false) := (HW1.out.fd.cell 3).trans rfl; have f4 : w5.cell? ⟨b, 4, none⟩ = some (.bool false) := (HW1.out.fd.cell 4).trans rfl; have c1 : w5.cell? ⟨w.heap.size, 1, none⟩ = some (.string (sx o.name)) := HW1.out.op.cell 1; have c2 : w5.cell? ⟨w.heap.size, 2, none⟩ = some (.string (sx o.dst)) := HW1.out.op.cell 2; have c3 : w5.cell? ⟨w.heap.size, 3, none⟩ = some (.slice Aa na ca) := HW1.out.op.cell 3; have c4 : w5.cell? ⟨w.heap.size, 4, none⟩ = some (.slice Ap np cp) := HW1.out.op.cell 4; have c5 : w5.cell? ⟨w.heap.size, 5, none⟩ = some (.slice Ac nc cc) := HW1.out.op.cell 5; have c6 : w5.cell? ⟨w.heap.size, 6, none⟩ = some (.int .i64 o.n) := HW1.out.op.cell 6; have HC := w_attrs W.heap.size ([] ++ numB 1 5 ++ txtB 2 o.name) 2 4 o.attrs (.slice Aa na ca) w5 HS1.out (RdV.on HO.out.a HW1.out.bel) HD.out.few (by decide) (by decide) (Nat.le_trans HL1.out (by decide)) (by decide); clear hs hwb)
   | (go_at_call 65; (with_reducible refine HC.out.mono ?_); clear HC; clear f0 f1 f2 f3 f4 c1 c2 c3 c4 c5 c6; rintro e w6 ⟨⟨u, rfl⟩, hs, hwb⟩; dsimp only; have HS2 : Hid (WS w6 W.heap.size W.heap.size (some ([] ++ numB 1 5 ++ txtB 2 o.name ++ valB 4 (atsB o.attrs))) 3) := Lib.hid hs; have HW2 := Lib.hid (HW1.out.step hwb); have HL2 : Hid (([] ++ numB 1 5 ++ txtB 2 o.name ++ valB 4 (atsB o.attrs)).length ≤ 105300) := Lib.hid (by exact app_len HL1.out (attr_len HD.out.few) (by decide)); have f0 : w6.cell? ⟨b, 0, none⟩ = some (.bool true) := (HW2.out.fd.cell 0).trans rfl; have f1 : w6.cell? ⟨b, 1, none⟩ = some (.bool false) := (HW2.out.fd.cell 1).trans rfl; have f2 : w6.cell? ⟨b, 2, none⟩ = some (.bool true) := (HW2.out.fd.cell 2).trans rfl; have f3 : w6.cell? ⟨b, 3, none⟩ = some (.bool false) := (HW2.out.fd.cell 3).trans rfl; have f4 : w6.cell? ⟨b, 4, none⟩ = some (.bool false) := (HW2.out.fd.cell 4).trans rfl; have c1 : w6.cell? ⟨w.heap.size, 1, none⟩ = some (.string (sx o.name)) := HW2.out.op.cell 1; have c2 : w6.cell? ⟨w.heap.size, 2, none⟩ = some (.string (sx o.dst)) := HW2.out.op.cell 2; have c3 : w6.cell? ⟨w.heap.size, 3, none⟩ = some (.slice Aa na ca) := HW2.out.op.cell 3; have c4 : w6.cell? ⟨w.heap.size, 4, none⟩ = some (.slice Ap np cp) := HW2.out.op.cell 4; have c5 : w6.cell? ⟨w.heap.size, 5, none⟩ = some (.slice Ac nc cc) := HW2.out.op.cell 5; have c6 : w6.cell? ⟨w.heap.size, 6, none⟩ = some (.int .i64 o.n) := HW2.out.op.cell 6; have HC := end_ws W.heap.size 3 ([] ++ numB 1 5 ++ txtB 2 o.name ++ valB 4 (atsB o.attrs)) w6 HS2.out (Nat.le_trans HL2.out (by decide)); clear hs hwb)
   | (go_at_call 68; (with_reducible refine HC.out.mono ?_); clear HC; rintro e wf ⟨v', rfl, hr, hb⟩; obtain ⟨A, nn, c, rfl, hout⟩ := op_end HQE.out HW2.out (Nat.le_of_lt HS2.out.lt) hr hb; dsimp only; have HF := Lib.hid hout; clear hout hr hb))
 go_ret2
 exact HF.out
set_option maxHeartbeats 8000000 in
theorem opBytes6 (o : Opn) (va vp vc : Value) (w : World) (ho : OpAt w o va vp vc) (hl : Lim o) (hm : mayO o = true) (hk : o.k = 6) : Calls Tryz.prog 44 #[opVal o va vp vc] w (OpOut o w) := by
 obtain ⟨Aa, ca, na, rfl, HNA, _⟩ := rdv_len ho.a
 obtain ⟨Ap, cp, np, rfl, HNP, HRP⟩ := ho.p.full
 obtain ⟨Ac, cc, nc, rfl, HNC, HRC⟩ := ho.c.full
 have HD := Lib.hid (mayD hm)
 have hb : Below w.heap.size w (w.alloc (.cells (opCs o (.slice Aa na ca) (.slice Ap np cp) (.slice Ac nc cc)) 44)) := (Below.refl _ _).alloc (Nat.le_refl _) _
 have k1 := Blk.new w 44 (opCs o (.slice Aa na ca) (.slice Ap np cp) (.slice Ac nc cc))
 have h := mayOp_any o _ _ _ _ (ho.on hb) hl
 rw [hm] at h
 have HM := Lib.hid h
 have HB := Lib.hid (And.intro hb k1)
 have HO := Lib.hid ho
 have HK := Lib.hid hk
 clear h ho hb k1 hl hm hk
 go_enter Tryz.func44, Tryz.ntmps44
 go_upto_region 3 with ((with_reducible refine HM.out.mono ?_); rintro e w1 ⟨rfl, hb1⟩; dsimp only; have HB1 := Lib.hid (And.intro (HB.out.1.trans (hb1.mono HB.out.1.size)) (HB.out.2.on hb1)); clear hb1)
 have c0 : w1.cell? ⟨w.heap.size, 0, none⟩ = some (.int .i64 6) := by rw [← HK.out]; exact HB1.out.2.cell 0
 go_upto_region 4 with (first
   | (go_at_call 63; (with_reducible refine (fields6 _).mono ?_); rintro e w2 ⟨rfl, hb2⟩; dsimp only; have HB2 := Lib.hid (And.intro (HB1.out.1.trans (hb2.mono HB1.out.1.size)) (HB1.out.2.on hb2)); clear hb2 c0)
   | (refine wpList_store_rowTo rfl 111 _ _ rfl rfl w2.heap.size (fdCs 6) rfl rfl 111 #[.bool false, .bool false, .bool false, .bool false, .bool false] (Blk.new w2 111 #[.bool false, .bool false, .bool false, .bool false, .bool false]) (by kernel_rfl) rfl (by kernel_rfl) ?_))
 have hb3 : Below w2.heap.size w2 ((w2.alloc (.cells #[.bool false, .bool false, .bool false, .bool false, .bool false] 111)).setRow w2.heap.size (fdCs 6)) := below_setRow ((Below.refl _ _).alloc (Nat.le_refl _) (.cells #[.bool false, .bool false, .bool false, .bool false, .bool false] 111)) (Nat.le_refl _) (fdCs 6)
 have kf : Blk ((w2.alloc (.cells #[.bool false, .bool false, .bool false, .bool false, .bool false] 111)).setRow w2.heap.size (fdCs 6)) w2.heap.size 111 (fdCs 6) := (Blk.new w2 111 #[.bool false, .bool false, .bool false, .bool false, .bool false]).row (fdCs 6)
 obtain ⟨b, hbb⟩ : ∃ b, b = w2.heap.size := ⟨_, rfl⟩
 have hbel := HB2.out.1.trans (hb3.mono HB2.out.1.size)
 have hop := HB2.out.2.on hb3
 have hfd := kf
 clear hb3 kf
 rw [← hbb] at hbel hop hfd ⊢
 generalize (w2.alloc (.cells #[.bool false, .bool false, .bool false, .bool false, .bool false] 111)).setRow b (fdCs 6) = W at hbel hop hfd ⊢
 have hws := ws_new W
 have hBg : w.heap.size < W.heap.size := hop.lt
 have HW := Lib.hid (BW.mk (hbel.alloc hbel.size (.cells #[.slice none 0 0, .int .i64 0, .int .i64 0] 91)) ((hop.alloc (.cells #[.slice none 0 0, .int .i64 0, .int .i64 0] 91))) (hfd.alloc (.cells #[.slice none 0 0, .int .i64 0, .int .i64 0] 91)) hBg hfd.lt)
 have c0 : (W.alloc (.cells #[.slice none 0 0, .int .i64 0, .int .i64 0] 91)).cell? ⟨w.heap.size, 0, none⟩ = some (.int .i64 6) := by rw [← HK.out]; exact (hop.alloc _).cell 0
 have HGB := Lib.hid (show w.heap.size < W.heap.size ∧ True from ⟨hBg, trivial⟩)
 have hwr : IntKind.u64.wrap 6 = 6 := by decide
 have HC := w_num W.heap.size [] 0 1 6 _ hws (by decide) (by decide) (by decide) (by decide) (by simp) (by decide)
 have HQE : Hid ([] ++ numB 1 6 ++ txtB 2 o.name = opB o) := Lib.hid (by unfold opB; rw [HK.out]; simp [fA, fT, fN, fP])
 clear hbel hop hfd hws hBg hbb HB HB1 HB2 HM
 go_wp2_with (first
   | (go_at_call 46; (with_reducible refine HC.out.mono ?_); clear HC c0; rintro e w4 ⟨rfl, hs, hwb⟩; dsimp only; have HS0 : Hid (WS w4 W.heap.size W.heap.size (some ([] ++ numB 1 6)) 1) := Lib.hid hs; have HW0 := Lib.hid (HW.out.step hwb); have HL0 : Hid (([] ++ numB 1 6).length ≤ 200) := Lib.hid (by simp [valB_length, be8_length]); have f0 : w4.cell? ⟨b, 0, none⟩ = some (.bool true) := (HW0.out.fd.cell 0).trans rfl; have f1 : w4.cell? ⟨b, 1, none⟩ = some (.bool false) := (HW0.out.fd.cell 1).trans rfl; have f2 : w4.cell? ⟨b, 2, none⟩ = some (.bool false) := (HW0.out.fd.cell 2).trans rfl; have f3 : w4.cell? ⟨b, 3, none⟩ = some (.bool false) := (HW0.out.fd.cell 3).trans rfl; have f4 : w4.cell? ⟨b, 4, none⟩ = some (.bool false) := (HW0.out.fd.cell 4).trans rfl; have c1 : w4.cell? ⟨w.heap.size, 1, none⟩ = some (.string (sx o.name)) := HW0.out.op.cell 1; have c2 : w4.cell? ⟨w.heap.size, 2, none⟩ = some (.string (sx o.dst)) := HW0.out.op.cell 2; have c3 : w4.cell? ⟨w.heap.size, 3, none⟩ = some (.slice Aa na ca) := HW0.out.op.cell 3; have c4 : w4.cell? ⟨w.heap.size, 4, none⟩ = some (.slice Ap np cp) := HW0.out.op.cell 4; have c5 : w4.cell? ⟨w.heap.size, 5, none⟩ = some (.slice Ac nc cc) := HW0.out.op.cell 5; have c6 : w4.cell? ⟨w.heap.size, 6, none⟩ = some (.int .i64 o.n) := HW0.out.op.cell 6; have HC := w_text W.heap.size ([] ++ numB 1 6) 1 2 o.name w4 HS0.out (by decide) (by decide) (Nat.le_trans HD.out.nm (by decide)) (Nat.le_trans HL0.out (by decide)) (by decide); clear hs hwb)
   | (go_at_call 64; (with_reducible refine HC.out.mono ?_); clear HC; clear f0 f1 f2 f3 f4 c1 c2 c3 c4 c5 c6; rintro e w5 ⟨rfl, hs, hwb⟩; dsimp only; have HS1 : Hid (WS w5 W.heap.size W.heap.size (some ([] ++ numB 1 6 ++ txtB 2 o.name)) 2) := Lib.hid hs; have HW1 := Lib.hid (HW0.out.step hwb); have HL1 : Hid (([] ++ numB 1 6 ++ txtB 2 o.name).length ≤ 1300) := Lib.hid (by exact app_len HL0.out (txt_len HD.out.nm) (by decide)); have f0 : w5.cell? ⟨b, 0, none⟩ = some (.bool true) := (HW1.out.fd.cell 0).trans rfl; have f1 : w5.cell? ⟨b, 1, none⟩ = some (.bool false) := (HW1.out.fd.cell 1).trans rfl; have f2 : w5.cell? ⟨b, 2, none⟩ = some (.bool false) := (HW1.out.fd.cell 2).trans rfl; have f3 : w5.cell? ⟨b, 3, none⟩ = some (.bool false) := (HW1.out.fd.cell 3).trans rfl; have f4 : w5.cell? ⟨b, 4, none⟩ = some (.bool false) := (HW1.out.fd.cell 4).trans rfl; have c1 : w5.cell? ⟨w.heap.size, 1, none⟩ = some (.string (sx o.name)) := HW1.out.op.cell 1; have c2 : w5.cell? ⟨w.heap.size, 2, none⟩ = some (.string (sx o.dst)) := HW1.out.op.cell 2; have c3 : w5.cell? ⟨w.heap.size, 3, none⟩ = some (.slice Aa na ca) := HW1.out.op.cell 3; have c4 : w5.cell? ⟨w.heap.size, 4, none⟩ = some (.slice Ap np cp) := HW1.out.op.cell 4; have c5 : w5.cell? ⟨w.heap.size, 5, none⟩ = some (.slice Ac nc cc) := HW1.out.op.cell 5; have c6 : w5.cell? ⟨w.heap.size, 6, none⟩ = some (.int .i64 o.n) := HW1.out.op.cell 6; have HC := end_ws W.heap.size 2 ([] ++ numB 1 6 ++ txtB 2 o.name) w5 HS1.out (Nat.le_trans HL1.out (by decide)); clear hs hwb)
   | (go_at_call 68; (with_reducible refine HC.out.mono ?_); clear HC; rintro e wf ⟨v', rfl, hr, hb⟩; obtain ⟨A, nn, c, rfl, hout⟩ := op_end HQE.out HW1.out (Nat.le_of_lt HS1.out.lt) hr hb; dsimp only; have HF := Lib.hid hout; clear hout hr hb))
 go_ret2
 exact HF.out
set_option maxHeartbeats 8000000 in
theorem opBytes7 (o : Opn) (va vp vc : Value) (w : World) (ho : OpAt w o va vp vc) (hl : Lim o) (hm : mayO o = true) (hk : o.k = 7) : Calls Tryz.prog 44 #[opVal o va vp vc] w (OpOut o w) := by
 obtain ⟨Aa, ca, na, rfl, HNA, _⟩ := rdv_len ho.a
 obtain ⟨Ap, cp, np, rfl, HNP, HRP⟩ := ho.p.full
 obtain ⟨Ac, cc, nc, rfl, HNC, HRC⟩ := ho.c.full
 have HD := Lib.hid (mayD hm)
 have hb : Below w.heap.size w (w.alloc (.cells (opCs o (.slice Aa na ca) (.slice Ap np cp) (.slice Ac nc cc)) 44)) := (Below.refl _ _).alloc (Nat.le_refl _) _
 have k1 := Blk.new w 44 (opCs o (.slice Aa na ca) (.slice Ap np cp) (.slice Ac nc cc))
 have h := mayOp_any o _ _ _ _ (ho.on hb) hl
 rw [hm] at h
 have HM := Lib.hid h
 have HB := Lib.hid (And.intro hb k1)
 have HO := Lib.hid ho
 have HK := Lib.hid hk
 clear h ho hb k1 hl hm hk
 go_enter Tryz.func44, Tryz.ntmps44
 go_upto_region 3 with ((with_reducible refine HM.out.mono ?_); rintro e w1 ⟨rfl, hb1⟩; dsimp only; have HB1 := Lib.hid (And.intro (HB.out.1.trans (hb1.mono HB.out.1.size)) (HB.out.2.on hb1)); clear hb1)
 have c0 : w1.cell? ⟨w.heap.size, 0, none⟩ = some (.int .i64 7) := by rw [← HK.out]; exact HB1.out.2.cell 0
 go_upto_region 4 with (first
   | (go_at_call 63; (with_reducible refine (fields7 _).mono ?_); rintro e w2 ⟨rfl, hb2⟩; dsimp only; have HB2 := Lib.hid (And.intro (HB1.out.1.trans (hb2.mono HB1.out.1.size)) (HB1.out.2.on hb2)); clear hb2 c0)
   | (refine wpList_store_rowTo rfl 111 _ _ rfl rfl w2.heap.size (fdCs 7) rfl rfl 111 #[.bool false, .bool false, .bool false, .bool false, .bool false] (Blk.new w2 111 #[.bool false, .bool false, .bool false, .bool false, .bool false]) (by kernel_rfl) rfl (by kernel_rfl) ?_))
 have hb3 : Below w2.heap.size w2 ((w2.alloc (.cells #[.bool false, .bool false, .bool false, .bool false, .bool false] 111)).setRow w2.heap.size (fdCs 7)) := below_setRow ((Below.refl _ _).alloc (Nat.le_refl _) (.cells #[.bool false, .bool false, .bool false, .bool false, .bool false] 111)) (Nat.le_refl _) (fdCs 7)
 have kf : Blk ((w2.alloc (.cells #[.bool false, .bool false, .bool false, .bool false, .bool false] 111)).setRow w2.heap.size (fdCs 7)) w2.heap.size 111 (fdCs 7) := (Blk.new w2 111 #[.bool false, .bool false, .bool false, .bool false, .bool false]).row (fdCs 7)
 obtain ⟨b, hbb⟩ : ∃ b, b = w2.heap.size := ⟨_, rfl⟩
 have hbel := HB2.out.1.trans (hb3.mono HB2.out.1.size)
 have hop := HB2.out.2.on hb3
 have hfd := kf
 clear hb3 kf
 rw [← hbb] at hbel hop hfd ⊢
 generalize (w2.alloc (.cells #[.bool false, .bool false, .bool false, .bool false, .bool false] 111)).setRow b (fdCs 7) = W at hbel hop hfd ⊢
 have hws := ws_new W
 have hBg : w.heap.size < W.heap.size := hop.lt
 have HW := Lib.hid (BW.mk (hbel.alloc hbel.size (.cells #[.slice none 0 0, .int .i64 0, .int .i64 0] 91)) ((hop.alloc (.cells #[.slice none 0 0, .int .i64 0, .int .i64 0] 91))) (hfd.alloc (.cells #[.slice none 0 0, .int .i64 0, .int .i64 0] 91)) hBg hfd.lt)
 have c0 : (W.alloc (.cells #[.slice none 0 0, .int .i64 0, .int .i64 0] 91)).cell? ⟨w.heap.size, 0, none⟩ = some (.int .i64 7) := by rw [← HK.out]; exact (hop.alloc _).cell 0
 have HGB := Lib.hid (show w.heap.size < W.heap.size ∧ True from ⟨hBg, trivial⟩)
 have hwr : IntKind.u64.wrap 7 = 7 := by decide
 have HC := w_num W.heap.size [] 0 1 7 _ hws (by decide) (by decide) (by decide) (by decide) (by simp) (by decide)
 have HQE : Hid ([] ++ numB 1 7 ++ valB 5 (partsB o.parts) ++ valB 6 o.cur ++ numB 7 o.n = opB o) := Lib.hid (by unfold opB; rw [HK.out]; simp [fA, fT, fN, fP])
 clear hbel hop hfd hws hBg hbb HB HB1 HB2 HM
 go_upto_region 14 with (first
   | (go_at_call 46; (with_reducible refine HC.out.mono ?_); clear HC c0; rintro e w4 ⟨rfl, hs, hwb⟩; dsimp only; have HS0 : Hid (WS w4 W.heap.size W.heap.size (some ([] ++ numB 1 7)) 1) := Lib.hid hs; have HW0 := Lib.hid (HW.out.step hwb); have HL0 : Hid (([] ++ numB 1 7).length ≤ 200) := Lib.hid (by simp [valB_length, be8_length]); have f0 : w4.cell? ⟨b, 0, none⟩ = some (.bool false) := (HW0.out.fd.cell 0).trans rfl; have f1 : w4.cell? ⟨b, 1, none⟩ = some (.bool false) := (HW0.out.fd.cell 1).trans rfl; have f2 : w4.cell? ⟨b, 2, none⟩ = some (.bool false) := (HW0.out.fd.cell 2).trans rfl; have f3 : w4.cell? ⟨b, 3, none⟩ = some (.bool true) := (HW0.out.fd.cell 3).trans rfl; have f4 : w4.cell? ⟨b, 4, none⟩ = some (.bool true) := (HW0.out.fd.cell 4).trans rfl; have c1 : w4.cell? ⟨w.heap.size, 1, none⟩ = some (.string (sx o.name)) := HW0.out.op.cell 1; have c2 : w4.cell? ⟨w.heap.size, 2, none⟩ = some (.string (sx o.dst)) := HW0.out.op.cell 2; have c3 : w4.cell? ⟨w.heap.size, 3, none⟩ = some (.slice Aa na ca) := HW0.out.op.cell 3; have c4 : w4.cell? ⟨w.heap.size, 4, none⟩ = some (.slice Ap np cp) := HW0.out.op.cell 4; have c5 : w4.cell? ⟨w.heap.size, 5, none⟩ = some (.slice Ac nc cc) := HW0.out.op.cell 5; have c6 : w4.cell? ⟨w.heap.size, 6, none⟩ = some (.int .i64 o.n) := HW0.out.op.cell 6; have HC := w_parts W.heap.size w.heap.size 1 ([] ++ numB 1 7) o.parts Ap cp np (opCs o (.slice Aa na ca) (.slice Ap np cp) (.slice Ac nc cc)) w4 HS0.out HW0.out.op rfl (((HRP.out.below HW0.out.bel)).more (Nat.le_of_lt HGB.out.1)) HNP.out HD.out.pl HD.out.psl (Nat.le_trans HL0.out (by decide)) (by decide); clear hs hwb)
   | (go_at_call 66; (with_reducible refine HC.out.mono ?_); clear HC; clear f0 f1 f2 f3 f4 c1 c2 c3 c4 c5 c6; rintro e w5 ⟨rfl, hs, hwb⟩; dsimp only; have HS1 : Hid (WS w5 W.heap.size W.heap.size (some ([] ++ numB 1 7 ++ valB 5 (partsB o.parts))) 2) := Lib.hid hs; have HW1 := Lib.hid (HW0.out.step hwb); have HL1 : Hid (([] ++ numB 1 7 ++ valB 5 (partsB o.parts)).length ≤ 9200) := Lib.hid (by exact app_len HL0.out (part_len HD.out.pl HD.out.psl) (by decide)); have f0 : w5.cell? ⟨b, 0, none⟩ = some (.bool false) := (HW1.out.fd.cell 0).trans rfl; have f1 : w5.cell? ⟨b, 1, none⟩ = some (.bool false) := (HW1.out.fd.cell 1).trans rfl; have f2 : w5.cell? ⟨b, 2, none⟩ = some (.bool false) := (HW1.out.fd.cell 2).trans rfl; have f3 : w5.cell? ⟨b, 3, none⟩ = some (.bool true) := (HW1.out.fd.cell 3).trans rfl; have f4 : w5.cell? ⟨b, 4, none⟩ = some (.bool true) := (HW1.out.fd.cell 4).trans rfl; have c1 : w5.cell? ⟨w.heap.size, 1, none⟩ = some (.string (sx o.name)) := HW1.out.op.cell 1; have c2 : w5.cell? ⟨w.heap.size, 2, none⟩ = some (.string (sx o.dst)) := HW1.out.op.cell 2; have c3 : w5.cell? ⟨w.heap.size, 3, none⟩ = some (.slice Aa na ca) := HW1.out.op.cell 3; have c4 : w5.cell? ⟨w.heap.size, 4, none⟩ = some (.slice Ap np cp) := HW1.out.op.cell 4; have c5 : w5.cell? ⟨w.heap.size, 5, none⟩ = some (.slice Ac nc cc) := HW1.out.op.cell 5; have c6 : w5.cell? ⟨w.heap.size, 6, none⟩ = some (.int .i64 o.n) := HW1.out.op.cell 6; clear hs hwb))
 have hwn : IntKind.u64.wrap o.n = o.n := IntWalk.u64_in _ ⟨HD.out.n0, by have := HD.out.n1; omega⟩
 have HWd := Lib.hid (BW.mk (below_drew HW1.out.bel) HW1.out.op.drew HW1.out.fd.drew HW1.out.lo HW1.out.lb)
 have HC := w_bytes W.heap.size ([] ++ numB 1 7 ++ valB 5 (partsB o.parts)) 2 6 o.cur Ac cc nc w5.drew (show WS w5.drew _ _ _ _ from HS1.out) HNC.out (show Rd w5.drew W.heap.size Ac o.cur from (HRC.out.1.below HW1.out.bel).more (Nat.le_of_lt HGB.out.1)) HRC.out.2 (by decide) (by decide) (Nat.le_trans HD.out.cl (by decide)) (Nat.le_trans HL1.out (by decide)) (by decide)
 clear f0 f1 f2 f3 f4
 go_region_law (first
   | (go_simp; (with_reducible refine HC.out.mono ?_); clear HC c1 c2 c3 c4 c5 c6; rintro e wx ⟨rfl, hs, hwb⟩; dsimp only; have HSx : Hid (WS wx W.heap.size W.heap.size (some ([] ++ numB 1 7 ++ valB 5 (partsB o.parts) ++ valB 6 o.cur)) 3) := Lib.hid hs; have HWx := Lib.hid (HWd.out.step hwb); have HLx : Hid (([] ++ numB 1 7 ++ valB 5 (partsB o.parts) ++ valB 6 o.cur).length ≤ 20000) := Lib.hid (app_len HL1.out (cur_len HD.out.cl) (by decide)); have c6 : wx.cell? ⟨w.heap.size, 6, none⟩ = some (.int .i64 o.n) := HWx.out.op.cell 6; have HC2 := w_num W.heap.size ([] ++ numB 1 7 ++ valB 5 (partsB o.parts) ++ valB 6 o.cur) 3 7 o.n wx HSx.out (by decide) (by decide) HD.out.n0 (by have := HD.out.n1; omega) (Nat.le_trans HLx.out (by decide)) (by decide); clear hs hwb)
   | (go_simp; (with_reducible refine HC2.out.mono ?_); clear HC2 c6; rintro e wy ⟨rfl, hs, hwb⟩; dsimp only; have HSy : Hid (WS wy W.heap.size W.heap.size (some ([] ++ numB 1 7 ++ valB 5 (partsB o.parts) ++ valB 6 o.cur ++ numB 7 o.n)) 4) := Lib.hid hs; have HWy := Lib.hid (HWx.out.step hwb); have HLy : Hid (([] ++ numB 1 7 ++ valB 5 (partsB o.parts) ++ valB 6 o.cur ++ numB 7 o.n).length ≤ 30000) := Lib.hid (app_len HLx.out num_len (by decide)); have HC3 := end_ws W.heap.size 4 ([] ++ numB 1 7 ++ valB 5 (partsB o.parts) ++ valB 6 o.cur ++ numB 7 o.n) wy HSy.out (Nat.le_trans HLy.out (by decide)); clear hs hwb))
 all_goals
   go_wp2_with (go_at_call 68; (with_reducible refine HC3.out.mono ?_); clear HC3; rintro e wf ⟨v', rfl, hr, hb⟩; obtain ⟨A, nn, c, rfl, hout⟩ := op_end HQE.out HWy.out (Nat.le_of_lt HSy.out.lt) hr hb; dsimp only; have HF := Lib.hid hout; clear hout hr hb)
   go_ret2
   exact HF.out
set_option maxHeartbeats 8000000 in
theorem opBytes8 (o : Opn) (va vp vc : Value) (w : World) (ho : OpAt w o va vp vc) (hl : Lim o) (hm : mayO o = true) (hk : o.k = 8) : Calls Tryz.prog 44 #[opVal o va vp vc] w (OpOut o w) := by
 obtain ⟨Aa, ca, na, rfl, HNA, _⟩ := rdv_len ho.a
 obtain ⟨Ap, cp, np, rfl, HNP, HRP⟩ := ho.p.full
 obtain ⟨Ac, cc, nc, rfl, HNC, HRC⟩ := ho.c.full
 have HD := Lib.hid (mayD hm)
 have hb : Below w.heap.size w (w.alloc (.cells (opCs o (.slice Aa na ca) (.slice Ap np cp) (.slice Ac nc cc)) 44)) := (Below.refl _ _).alloc (Nat.le_refl _) _
 have k1 := Blk.new w 44 (opCs o (.slice Aa na ca) (.slice Ap np cp) (.slice Ac nc cc))
 have h := mayOp_any o _ _ _ _ (ho.on hb) hl
 rw [hm] at h
 have HM := Lib.hid h
 have HB := Lib.hid (And.intro hb k1)
 have HO := Lib.hid ho
 have HK := Lib.hid hk
 clear h ho hb k1 hl hm hk
 go_enter Tryz.func44, Tryz.ntmps44
 go_upto_region 3 with ((with_reducible refine HM.out.mono ?_); rintro e w1 ⟨rfl, hb1⟩; dsimp only; have HB1 := Lib.hid (And.intro (HB.out.1.trans (hb1.mono HB.out.1.size)) (HB.out.2.on hb1)); clear hb1)
 have c0 : w1.cell? ⟨w.heap.size, 0, none⟩ = some (.int .i64 8) := by rw [← HK.out]; exact HB1.out.2.cell 0
 go_upto_region 4 with (first
   | (go_at_call 63; (with_reducible refine (fields8 _).mono ?_); rintro e w2 ⟨rfl, hb2⟩; dsimp only; have HB2 := Lib.hid (And.intro (HB1.out.1.trans (hb2.mono HB1.out.1.size)) (HB1.out.2.on hb2)); clear hb2 c0)
   | (refine wpList_store_rowTo rfl 111 _ _ rfl rfl w2.heap.size (fdCs 8) rfl rfl 111 #[.bool false, .bool false, .bool false, .bool false, .bool false] (Blk.new w2 111 #[.bool false, .bool false, .bool false, .bool false, .bool false]) (by kernel_rfl) rfl (by kernel_rfl) ?_))
 have hb3 : Below w2.heap.size w2 ((w2.alloc (.cells #[.bool false, .bool false, .bool false, .bool false, .bool false] 111)).setRow w2.heap.size (fdCs 8)) := below_setRow ((Below.refl _ _).alloc (Nat.le_refl _) (.cells #[.bool false, .bool false, .bool false, .bool false, .bool false] 111)) (Nat.le_refl _) (fdCs 8)
 have kf : Blk ((w2.alloc (.cells #[.bool false, .bool false, .bool false, .bool false, .bool false] 111)).setRow w2.heap.size (fdCs 8)) w2.heap.size 111 (fdCs 8) := (Blk.new w2 111 #[.bool false, .bool false, .bool false, .bool false, .bool false]).row (fdCs 8)
 obtain ⟨b, hbb⟩ : ∃ b, b = w2.heap.size := ⟨_, rfl⟩
 have hbel := HB2.out.1.trans (hb3.mono HB2.out.1.size)
 have hop := HB2.out.2.on hb3
 have hfd := kf
 clear hb3 kf
 rw [← hbb] at hbel hop hfd ⊢
 generalize (w2.alloc (.cells #[.bool false, .bool false, .bool false, .bool false, .bool false] 111)).setRow b (fdCs 8) = W at hbel hop hfd ⊢
 have hws := ws_new W
 have hBg : w.heap.size < W.heap.size := hop.lt
 have HW := Lib.hid (BW.mk (hbel.alloc hbel.size (.cells #[.slice none 0 0, .int .i64 0, .int .i64 0] 91)) ((hop.alloc (.cells #[.slice none 0 0, .int .i64 0, .int .i64 0] 91))) (hfd.alloc (.cells #[.slice none 0 0, .int .i64 0, .int .i64 0] 91)) hBg hfd.lt)
 have c0 : (W.alloc (.cells #[.slice none 0 0, .int .i64 0, .int .i64 0] 91)).cell? ⟨w.heap.size, 0, none⟩ = some (.int .i64 8) := by rw [← HK.out]; exact (hop.alloc _).cell 0
 have HGB := Lib.hid (show w.heap.size < W.heap.size ∧ True from ⟨hBg, trivial⟩)
 have hwr : IntKind.u64.wrap 8 = 8 := by decide
 have HC := w_num W.heap.size [] 0 1 8 _ hws (by decide) (by decide) (by decide) (by decide) (by simp) (by decide)
 have HQE : Hid ([] ++ numB 1 8 ++ valB 6 o.cur ++ numB 7 o.n = opB o) := Lib.hid (by unfold opB; rw [HK.out]; simp [fA, fT, fN, fP])
 clear hbel hop hfd hws hBg hbb HB HB1 HB2 HM
 go_upto_region 14 with (first
   | (go_at_call 46; (with_reducible refine HC.out.mono ?_); clear HC c0; rintro e w4 ⟨rfl, hs, hwb⟩; dsimp only; have HS0 : Hid (WS w4 W.heap.size W.heap.size (some ([] ++ numB 1 8)) 1) := Lib.hid hs; have HW0 := Lib.hid (HW.out.step hwb); have HL0 : Hid (([] ++ numB 1 8).length ≤ 200) := Lib.hid (by simp [valB_length, be8_length]); have f0 : w4.cell? ⟨b, 0, none⟩ = some (.bool false) := (HW0.out.fd.cell 0).trans rfl; have f1 : w4.cell? ⟨b, 1, none⟩ = some (.bool false) := (HW0.out.fd.cell 1).trans rfl; have f2 : w4.cell? ⟨b, 2, none⟩ = some (.bool false) := (HW0.out.fd.cell 2).trans rfl; have f3 : w4.cell? ⟨b, 3, none⟩ = some (.bool false) := (HW0.out.fd.cell 3).trans rfl; have f4 : w4.cell? ⟨b, 4, none⟩ = some (.bool true) := (HW0.out.fd.cell 4).trans rfl; have c1 : w4.cell? ⟨w.heap.size, 1, none⟩ = some (.string (sx o.name)) := HW0.out.op.cell 1; have c2 : w4.cell? ⟨w.heap.size, 2, none⟩ = some (.string (sx o.dst)) := HW0.out.op.cell 2; have c3 : w4.cell? ⟨w.heap.size, 3, none⟩ = some (.slice Aa na ca) := HW0.out.op.cell 3; have c4 : w4.cell? ⟨w.heap.size, 4, none⟩ = some (.slice Ap np cp) := HW0.out.op.cell 4; have c5 : w4.cell? ⟨w.heap.size, 5, none⟩ = some (.slice Ac nc cc) := HW0.out.op.cell 5; have c6 : w4.cell? ⟨w.heap.size, 6, none⟩ = some (.int .i64 o.n) := HW0.out.op.cell 6; clear hs hwb))
 have hwn : IntKind.u64.wrap o.n = o.n := IntWalk.u64_in _ ⟨HD.out.n0, by have := HD.out.n1; omega⟩
 have HWd := Lib.hid (BW.mk (below_drew HW0.out.bel) HW0.out.op.drew HW0.out.fd.drew HW0.out.lo HW0.out.lb)
 have HC := w_bytes W.heap.size ([] ++ numB 1 8) 1 6 o.cur Ac cc nc w4.drew (show WS w4.drew _ _ _ _ from HS0.out) HNC.out (show Rd w4.drew W.heap.size Ac o.cur from (HRC.out.1.below HW0.out.bel).more (Nat.le_of_lt HGB.out.1)) HRC.out.2 (by decide) (by decide) (Nat.le_trans HD.out.cl (by decide)) (Nat.le_trans HL0.out (by decide)) (by decide)
 clear f0 f1 f2 f3 f4
 go_region_law (first
   | (go_simp; (with_reducible refine HC.out.mono ?_); clear HC c1 c2 c3 c4 c5 c6; rintro e wx ⟨rfl, hs, hwb⟩; dsimp only; have HSx : Hid (WS wx W.heap.size W.heap.size (some ([] ++ numB 1 8 ++ valB 6 o.cur)) 2) := Lib.hid hs; have HWx := Lib.hid (HWd.out.step hwb); have HLx : Hid (([] ++ numB 1 8 ++ valB 6 o.cur).length ≤ 20000) := Lib.hid (app_len HL0.out (cur_len HD.out.cl) (by decide)); have c6 : wx.cell? ⟨w.heap.size, 6, none⟩ = some (.int .i64 o.n) := HWx.out.op.cell 6; have HC2 := w_num W.heap.size ([] ++ numB 1 8 ++ valB 6 o.cur) 2 7 o.n wx HSx.out (by decide) (by decide) HD.out.n0 (by have := HD.out.n1; omega) (Nat.le_trans HLx.out (by decide)) (by decide); clear hs hwb)
   | (go_simp; (with_reducible refine HC2.out.mono ?_); clear HC2 c6; rintro e wy ⟨rfl, hs, hwb⟩; dsimp only; have HSy : Hid (WS wy W.heap.size W.heap.size (some ([] ++ numB 1 8 ++ valB 6 o.cur ++ numB 7 o.n)) 3) := Lib.hid hs; have HWy := Lib.hid (HWx.out.step hwb); have HLy : Hid (([] ++ numB 1 8 ++ valB 6 o.cur ++ numB 7 o.n).length ≤ 30000) := Lib.hid (app_len HLx.out num_len (by decide)); have HC3 := end_ws W.heap.size 3 ([] ++ numB 1 8 ++ valB 6 o.cur ++ numB 7 o.n) wy HSy.out (Nat.le_trans HLy.out (by decide)); clear hs hwb))
 all_goals
   go_wp2_with (go_at_call 68; (with_reducible refine HC3.out.mono ?_); clear HC3; rintro e wf ⟨v', rfl, hr, hb⟩; obtain ⟨A, nn, c, rfl, hout⟩ := op_end HQE.out HWy.out (Nat.le_of_lt HSy.out.lt) hr hb; dsimp only; have HF := Lib.hid hout; clear hout hr hb)
   go_ret2
   exact HF.out
theorem opBytes_yes (o : Opn) (va vp vc : Value) (w : World) (ho : OpAt w o va vp vc) (hl : Lim o) (hm : mayO o = true) : Calls Tryz.prog 44 #[opVal o va vp vc] w (OpOut o w) := by
 rcases kinds o.k with h | h | h | h | h | h | h | h | h
 · exact opBytes1 o va vp vc w ho hl hm h
 · exact opBytes2 o va vp vc w ho hl hm h
 · exact opBytes3 o va vp vc w ho hl hm h
 · exact opBytes4 o va vp vc w ho hl hm h
 · exact opBytes5 o va vp vc w ho hl hm h
 · exact opBytes6 o va vp vc w ho hl hm h
 · exact opBytes7 o va vp vc w ho hl hm h
 · exact opBytes8 o va vp vc w ho hl hm h
 · have := (mayD hm).k
   rw [h] at this
   cases this
end Go.Proofs.YtniaijgejljjbaaGreat.Tlv
