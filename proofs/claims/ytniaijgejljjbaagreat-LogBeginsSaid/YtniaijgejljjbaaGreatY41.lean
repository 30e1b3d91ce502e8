/- The document's log: a place's request. -/
import Derived.Test.YtniaijgejljjbaaGreatY39
import Derived.Test.YtniaijgejljjbaaGreatY40
namespace Go.Proofs.YtniaijgejljjbaaGreat.Tlv
open Go.RowKit
set_option maxRecDepth 100000
set_option linter.unusedVariables false
set_option linter.unusedSimpArgs false
set_option maxHeartbeats 16000000 in
theorem rat_ok (n0 r B j m : Nat) (R : List Rq) (w0 w : World) (h : LogQ n0 w0 w r B R) (hn0 : n0 ≤ w.heap.size) (hB : B ≤ 9000000000000000000) (hl : R.length ≤ 1000) (hm : m = B + (j + 1)) (hj : j < R.length) :
   Calls Tryz.prog 28 #[.pointer (some ⟨r, 0, none⟩), .int .u64 m] w fun e w' => e = .returned (.tuple #[rqA (R.getD j default), .int .i64 0]) ∧ Below w.heap.size w w' := by
 obtain ⟨A, n, c, hk, hn, _, _, hrs⟩ := h.st
 have hb : Below w.heap.size w (w.alloc (.cells zQ 46)) := (Below.refl _ _).alloc (Nat.le_refl _) _
 have k1 := hk.on hb
 have c0 : (w.alloc (.cells zQ 46)).cell? ⟨r, 0, none⟩ = some (.int .u64 B) := k1.cell 0
 have c1 : (w.alloc (.cells zQ 46)).cell? ⟨r, 1, none⟩ = some (.slice A n c) := k1.cell 1
 obtain ⟨E, hE⟩ : ∃ E, E = B + n := ⟨_, rfl⟩
 have HE := Lib.hid (rend_is r B n c E A _ k1 hB (by omega) hE)
 have d1 : decide (m ≤ B) = false := by simp; omega
 have d2 : decide (E < m) = false := by simp; omega
 have e1 : IntKind.u64.wrap ((m : Int) - (B : Int)) = (j : Int) + 1 := by rw [IntKind.wrap_u64]; omega
 have e2 : IntKind.u64.wrap (j : Int) = (j : Int) := by rw [IntKind.wrap_u64]; omega
 have e3 : IntKind.u64.wrap ((j : Int) + 1 - 1) = (j : Int) := by rw [IntKind.wrap_u64]; omega
 have hji : (j : Int) < (n : Int) := by omega
 have hjn : j < n := by omega
 obtain ⟨b, off, rfl, hbl, hra⟩ := rq_range (hrs.frT (sp := spA) (T := TN) (FrT.of hb hn0) (fun _ => id)) hj
 generalize R.getD j default = x at hra ⊢
 obtain ⟨xc, xn, xo, Aa, la, ca, Ap, lp, cp, Ac, lc, cc⟩ := x
 have b0 : (w.alloc (.cells zQ 46)).cell? ⟨b, off + j * 9, none⟩ = some (.int .u64 xc) := hra 0 _ rfl
 have b1 : (w.alloc (.cells zQ 46)).cell? ⟨b, off + j * 9 + 1, none⟩ = some (.int .u64 xn) := hra 1 _ rfl
 have b2 : (w.alloc (.cells zQ 46)).cell? ⟨b, off + j * 9 + 2, none⟩ = some (.int .i64 xo.k) := hra 2 _ rfl
 have b3 : (w.alloc (.cells zQ 46)).cell? ⟨b, off + j * 9 + 3, none⟩ = some (.string (sx xo.name)) := hra 3 _ rfl
 have b4 : (w.alloc (.cells zQ 46)).cell? ⟨b, off + j * 9 + 4, none⟩ = some (.string (sx xo.dst)) := hra 4 _ rfl
 have b5 : (w.alloc (.cells zQ 46)).cell? ⟨b, off + j * 9 + 5, none⟩ = some (.slice Aa la ca) := hra 5 _ rfl
 have b6 : (w.alloc (.cells zQ 46)).cell? ⟨b, off + j * 9 + 6, none⟩ = some (.slice Ap lp cp) := hra 6 _ rfl
 have b7 : (w.alloc (.cells zQ 46)).cell? ⟨b, off + j * 9 + 7, none⟩ = some (.slice Ac lc cc) := hra 7 _ rfl
 have b8 : (w.alloc (.cells zQ 46)).cell? ⟨b, off + j * 9 + 8, none⟩ = some (.int .i64 xo.n) := hra 8 _ rfl
 have HZ := Lib.hid (And.intro hb (Blk.new w 46 zQ))
 obtain ⟨B1, hB1⟩ : ∃ b, b = w.heap.size := ⟨_, rfl⟩
 have HBB := Lib.hid hB1
 clear h hE hm hk hn hrs k1 hb hl hbl hra hB1 hn0
 go_enter Tryz.func28, Tryz.ntmps28
 go_upto_region 3 with (go_at_call 32; (with_reducible refine HE.out.mono ?_); rintro e w1 ⟨rfl, n1, rfl⟩)
 obtain ⟨W0, hW0, hz, hbz, hcells⟩ : ∃ W0, W0 = (w.alloc (.cells zQ 46)).drewN n1 ∧ Blk W0 B1 46 zQ ∧ Below w.heap.size w W0 ∧ (∀ p, W0.cell? p = (w.alloc (.cells zQ 46)).cell? p) := ⟨_, rfl, by rw [HBB.out]; exact HZ.out.2, below_drewN HZ.out.1 _, fun _ => rfl⟩
 rw [← hW0, ← HBB.out]
 rw [← hcells] at c0 c1 b0 b1 b2 b3 b4 b5 b6 b7 b8
 have HW := Lib.hid (And.intro hz hbz)
 clear hW0 hcells hz hbz HZ HE
 go_still_tail 13, (by kernel_rfl)
 refine wpList_store_rowTo rfl 46 _ _ rfl rfl B1 (rqCs xc xn xo (.slice Aa la ca) (.slice Ap lp cp) (.slice Ac lc cc)) rfl rfl 46 zQ HW.out.1 (by kernel_rfl) rfl (by kernel_rfl) ?_
 have h9 : Blk (W0.drew.setRow B1 (rqCs xc xn xo (.slice Aa la ca) (.slice Ap lp cp) (.slice Ac lc cc))) B1 46 (rqCs xc xn xo (.slice Aa la ca) (.slice Ap lp cp) (.slice Ac lc cc)) := Blk.row (Blk.drew HW.out.1) _
 have h8 := below_setRow (below_drew HW.out.2) (show w.heap.size ≤ B1 by rw [HBB.out]; exact Nat.le_refl _) (rqCs xc xn xo (.slice Aa la ca) (.slice Ap lp cp) (.slice Ac lc cc))
 change wpList _ _ _ _ _ (W0.drew.setRow B1 (rqCs xc xn xo (.slice Aa la ca) (.slice Ap lp cp) (.slice Ac lc cc)))
 obtain ⟨t0, t1, t2, t3, t4, t5, t6, t7, t8⟩ := rq_cells h9
 have HF := Lib.hid h8
 clear h8 h9 b0 b1 b2 b3 b4 b5 b6 b7 b8 c0 c1 HW
 generalize W0.drew.setRow B1 (rqCs xc xn xo (.slice Aa la ca) (.slice Ap lp cp) (.slice Ac lc cc)) = w5 at t0 t1 t2 t3 t4 t5 t6 t7 t8 HF ⊢
 go_wp2_with fail
 refine bodyPost_ret (v := .tuple #[.agg (rqCs xc xn xo (.slice Aa la ca) (.slice Ap lp cp) (.slice Ac lc cc)), .int .i64 0]) ?_ rfl ⟨rfl, HF.out⟩
 simp [results, Tryz.f28, go_sem, t0, t1, t2, t3, t4, t5, t6, t7, t8]
theorem end_at {sp : Spc} {n0 g B E : Nat} {P : List Rq} {x : Rq} {w : World} (h : LogP sp n0 w g B (P ++ [x])) (hB : B ≤ 9000000000000000000) (hl : P.length ≤ 900) (hE : E = B + (P.length + 1)) : Calls Tryz.prog 23 #[.pointer (some ⟨g, 0, none⟩)] w fun e w' => e = .returned (.int .u64 E) ∧ w = w' := by
 obtain ⟨⟨A, n, c, hk, hO, _⟩, _, _, _, _⟩ := h
 have hn := hO.len
 rw [List.length_append, List.length_singleton] at hn
 exact end_is g B n c E A _ w hk hB (by omega) (by omega)
set_option maxHeartbeats 16000000 in
theorem append_no {sp : Spc} (n0 g B : Nat) (P : List Rq) (c n : Int) (o : Opn) (va vp vc : Value) (w : World) (h : LogP sp n0 w g B P) (hn0 : n0 ≤ w.heap.size) (hg : Lim o) (ho : OpAt w o va vp vc) (hm : mayO o = false) :
   Calls Tryz.prog 15 #[.pointer (some ⟨g, 0, none⟩), rqVal c n o va vp vc] w fun e w' => e = .returned (.tuple #[.int .u64 0, .int .i64 2]) ∧ Below w.heap.size w w' := by
 obtain ⟨⟨A, nn, c0, hk, hO, hsp⟩, hown, hlow, hgood, hspn⟩ := id h
 have hnl := hO.len
 obtain ⟨Aa, ca, na, rfl, _, _⟩ := rdv_len ho.a
 obtain ⟨Ap, cp, np, rfl⟩ := ho.p.len
 obtain ⟨Ac, cc, nc, rfl, _⟩ := ho.c.len
 have hb1 : Below w.heap.size w (w.alloc (.cells (rqCs c n o (.slice Aa na ca) (.slice Ap np cp) (.slice Ac nc cc)) 46)) := (Below.refl _ _).alloc (Nat.le_refl _) _
 have k0 := Blk.new w 46 (rqCs c n o (.slice Aa na ca) (.slice Ap np cp) (.slice Ac nc cc))
 have HN := Lib.hid (none_is g true _ _ _ _ (hk.on hb1))
 have ho1 := ho.on hb1
 have HI := Lib.hid (itemOf_no c n o _ _ _ _ hg ho1 hm)
 clear hm
 have HX := Lib.hid (And.intro h (And.intro hb1 (And.intro k0 hg)))
 clear hk hO hown hlow hgood ho ho1 hb1 k0 h hnl
 have HN0 := Lib.hid hn0
 go_enter Tryz.func15, Tryz.ntmps15
 go_upto_region 4 with (first
   | (go_at_call 22; (with_reducible refine HN.out.mono ?_); rintro e w1 ⟨rfl, rfl⟩)
   | (refine wpList_load_row rfl 46 _ rfl w.heap.size rfl 46 (rqCs c n o (.slice Aa na ca) (.slice Ap np cp) (.slice Ac nc cc)) (0, 0) _ HX.out.2.2.1 rfl rfl (by kernel_rfl) ?_)
   | (go_at_call 18; (with_reducible refine HI.out.mono ?_); clear HI; rintro e w2 ⟨rfl, hb2⟩; dsimp only; have H2 := Lib.hid hb2; clear hb2)
   | (refine wpList_store_rowTo rfl 61 _ _ rfl rfl w2.heap.size itZ rfl rfl 61 itZ (Blk.new w2 61 itZ) (by kernel_rfl) rfl (by kernel_rfl) ?_))
 have h9 := (Blk.new w2 61 itZ).row itZ
 have h8 := below_setRow ((Below.refl w2.heap.size w2).alloc (Nat.le_refl _) (.cells itZ 61)) (Nat.le_refl _) itZ
 have HB := Lib.hid (HX.out.2.1.trans ((H2.out.trans (h8.mono H2.out.size)).mono HX.out.2.1.size))
 clear h8 h9
 generalize (w2.alloc (.cells itZ 61)).setRow w2.heap.size itZ = w5 at HB ⊢
 go_wp2_with fail
 go_ret2
 exact ⟨rfl, HB.out⟩
set_option maxHeartbeats 16000000 in
theorem append_full {sp : Spc} (n0 g B : Nat) (P : List Rq) (c n : Int) (o : Opn) (va vp vc : Value) (w : World) (h : LogP sp n0 w g B P) (hn0 : n0 ≤ w.heap.size) (hg : Mq.Good ⟨c, n, o⟩) (ho : OpAt w o va vp vc) (hl : P.length ≤ 1000) (hs : 2097152 < sumM (means P) + Mq.sz ⟨c, n, o⟩) :
   Calls Tryz.prog 15 #[.pointer (some ⟨g, 0, none⟩), rqVal c n o va vp vc] w fun e w' => e = .returned (.tuple #[.int .u64 0, .int .i64 10]) ∧ Below w.heap.size w w' := by
 obtain ⟨⟨A, nn, c0, hk, hO, hsp⟩, hown, hlow, hgood, hspn⟩ := id h
 have hnl := hO.len
 obtain ⟨Aa, ca, na, rfl, _, _⟩ := rdv_len ho.a
 obtain ⟨Ap, cp, np, rfl⟩ := ho.p.len
 obtain ⟨Ac, cc, nc, rfl, _⟩ := ho.c.len
 have hb1 : Below w.heap.size w (w.alloc (.cells (rqCs c n o (.slice Aa na ca) (.slice Ap np cp) (.slice Ac nc cc)) 46)) := (Below.refl _ _).alloc (Nat.le_refl _) _
 have k0 := Blk.new w 46 (rqCs c n o (.slice Aa na ca) (.slice Ap np cp) (.slice Ac nc cc))
 have HN := Lib.hid (none_is g true _ _ _ _ (hk.on hb1))
 have ho1 := ho.on hb1
 have HI := Lib.hid (itemOf_yes c n o _ _ _ _ hg ho1)
 have HS := Lib.hid (And.intro hl hs)
 clear hl hs
 have HX := Lib.hid (And.intro h (And.intro hb1 (And.intro k0 hg)))
 clear hk hO hown hlow hgood ho ho1 hb1 k0 h hnl
 have HN0 := Lib.hid hn0
 go_enter Tryz.func15, Tryz.ntmps15
 go_upto_region 4 with (first
   | (go_at_call 22; (with_reducible refine HN.out.mono ?_); rintro e w1 ⟨rfl, rfl⟩)
   | (refine wpList_load_row rfl 46 _ rfl w.heap.size rfl 46 (rqCs c n o (.slice Aa na ca) (.slice Ap np cp) (.slice Ac nc cc)) (0, 0) _ HX.out.2.2.1 rfl rfl (by kernel_rfl) ?_)
   | (go_at_call 18; (with_reducible refine HI.out.mono ?_); clear HI; rintro e w2 ⟨⟨xc, xn, xo, xA, xla, xca, xP, xlp, xcp, xC, xlc, xcc⟩, hxm, rfl, hxo, hb2⟩; dsimp only; have H2 := Lib.hid (And.intro hxm (And.intro hxo hb2)); clear hxm hxo hb2)
   | (refine wpList_store_rowTo rfl 61 _ _ rfl rfl w2.heap.size (itCs xc xn xo (.slice xA xla xca) (.slice xP xlp xcp) (.slice xC xlc xcc) (szQ xc xn xo : Nat)) rfl rfl 61 itZ (Blk.new w2 61 itZ) (by kernel_rfl) rfl (by kernel_rfl) ?_))
 have h9 := (Blk.new w2 61 itZ).row (itCs xc xn xo (.slice xA xla xca) (.slice xP xlp xcp) (.slice xC xlc xcc) (szQ xc xn xo : Nat))
 have h8 := below_setRow ((Below.refl w2.heap.size w2).alloc (Nat.le_refl _) (.cells itZ 61)) (Nat.le_refl _) (itCs xc xn xo (.slice xA xla xca) (.slice xP xlp xcp) (.slice xC xlc xcc) (szQ xc xn xo : Nat))
 have HB := Lib.hid (And.intro (HX.out.2.1.trans ((H2.out.2.2.trans (h8.mono H2.out.2.2.size)).mono HX.out.2.1.size)) h9)
 clear h8 h9
 generalize (w2.alloc (.cells itZ 61)).setRow w2.heap.size (itCs xc xn xo (.slice xA xla xca) (.slice xP xlp xcp) (.slice xC xlc xcc) (szQ xc xn xo : Nat)) = w5 at HB ⊢
 have HP := Lib.hid (put_full n0 g B P ⟨xc, xn, xo, xA, xla, xca, xP, xlp, xcp, xC, xlc, xcc⟩ w5 (HX.out.1.on HB.out.1 HN0.out) (Nat.le_trans HN0.out HB.out.1.size) (by rw [H2.out.1]; exact HX.out.2.2.2) HS.out.1 (by rw [H2.out.1]; exact HS.out.2))
 go_wp2_with (first
   | (refine wpList_load_row rfl 61 _ rfl w2.heap.size rfl 61 (itCs xc xn xo (.slice xA xla xca) (.slice xP xlp xcp) (.slice xC xlc xcc) (szQ xc xn xo : Nat)) (0, 0) _ HB.out.2 rfl rfl (by kernel_rfl) ?_)
   | (go_at_call 19; (with_reducible refine HP.out.mono ?_); clear HP; rintro e w6 ⟨rfl, hb6⟩; dsimp only; have H6 := Lib.hid (HB.out.1.trans (hb6.mono HB.out.1.size)); clear hb6))
 go_ret2
 exact ⟨rfl, H6.out⟩
def AppOut (sp : Spc) (n0 g B E : Nat) (P : List Rq) (m : Mq) (w : World) (e : Ending) (w' : World) : Prop := ∃ x : Rq, x.m = m ∧ e = .returned (.tuple #[.int .u64 E, .int .i64 0]) ∧ LogP sp n0 w' g B (P ++ [x]) ∧ FrT sp n0 (TP g) w w'
set_option maxHeartbeats 16000000 in
theorem append_ok {sp : Spc} (n0 g B E : Nat) (P : List Rq) (c n : Int) (o : Opn) (va vp vc : Value) (w : World) (h : LogP sp n0 w g B P) (hn0 : n0 ≤ w.heap.size) (hg : Mq.Good ⟨c, n, o⟩) (ho : OpAt w o va vp vc) (hl : P.length ≤ 900) (hB : B ≤ 9000000000000000000) (hE : E = B + (P.length + 1)) (hs : sumM (means P) + Mq.sz ⟨c, n, o⟩ ≤ 2097152) :
   Calls Tryz.prog 15 #[.pointer (some ⟨g, 0, none⟩), rqVal c n o va vp vc] w (AppOut sp n0 g B E P ⟨c, n, o⟩ w) := by
 obtain ⟨⟨A, nn, c0, hk, hO, hsp⟩, hown, hlow, hgood, hspn⟩ := id h
 have hnl := hO.len
 obtain ⟨Aa, ca, na, rfl, _, _⟩ := rdv_len ho.a
 obtain ⟨Ap, cp, np, rfl⟩ := ho.p.len
 obtain ⟨Ac, cc, nc, rfl, _⟩ := ho.c.len
 have hb1 : Below w.heap.size w (w.alloc (.cells (rqCs c n o (.slice Aa na ca) (.slice Ap np cp) (.slice Ac nc cc)) 46)) := (Below.refl _ _).alloc (Nat.le_refl _) _
 have k0 := Blk.new w 46 (rqCs c n o (.slice Aa na ca) (.slice Ap np cp) (.slice Ac nc cc))
 have HN := Lib.hid (none_is g true _ _ _ _ (hk.on hb1))
 have ho1 := ho.on hb1
 have HI := Lib.hid (itemOf_yes c n o _ _ _ _ hg ho1)
 have HS := Lib.hid (And.intro hl (And.intro hs (And.intro hB hE)))
 clear hl hs hE
 have HX := Lib.hid (And.intro h (And.intro hb1 (And.intro k0 hg)))
 clear hk hO hown hlow hgood ho ho1 hb1 k0 h hnl
 have HN0 := Lib.hid hn0
 go_enter Tryz.func15, Tryz.ntmps15
 go_upto_region 4 with (first
   | (go_at_call 22; (with_reducible refine HN.out.mono ?_); rintro e w1 ⟨rfl, rfl⟩)
   | (refine wpList_load_row rfl 46 _ rfl w.heap.size rfl 46 (rqCs c n o (.slice Aa na ca) (.slice Ap np cp) (.slice Ac nc cc)) (0, 0) _ HX.out.2.2.1 rfl rfl (by kernel_rfl) ?_)
   | (go_at_call 18; (with_reducible refine HI.out.mono ?_); clear HI; rintro e w2 ⟨⟨xc, xn, xo, xA, xla, xca, xP, xlp, xcp, xC, xlc, xcc⟩, hxm, rfl, hxo, hb2⟩; dsimp only; have H2 := Lib.hid (And.intro hxm (And.intro hxo hb2)); clear hxm hxo hb2)
   | (refine wpList_store_rowTo rfl 61 _ _ rfl rfl w2.heap.size (itCs xc xn xo (.slice xA xla xca) (.slice xP xlp xcp) (.slice xC xlc xcc) (szQ xc xn xo : Nat)) rfl rfl 61 itZ (Blk.new w2 61 itZ) (by kernel_rfl) rfl (by kernel_rfl) ?_))
 have h9 := (Blk.new w2 61 itZ).row (itCs xc xn xo (.slice xA xla xca) (.slice xP xlp xcp) (.slice xC xlc xcc) (szQ xc xn xo : Nat))
 have h8 := below_setRow ((Below.refl w2.heap.size w2).alloc (Nat.le_refl _) (.cells itZ 61)) (Nat.le_refl _) (itCs xc xn xo (.slice xA xla xca) (.slice xP xlp xcp) (.slice xC xlc xcc) (szQ xc xn xo : Nat))
 have hxo := (H2.out.2.1.on h8).low (Nat.le_trans HN0.out HX.out.2.1.size)
 have HB := Lib.hid (And.intro (HX.out.2.1.trans ((H2.out.2.2.trans (h8.mono H2.out.2.2.size)).mono HX.out.2.1.size)) (And.intro h9 hxo))
 clear h8 h9 hxo
 generalize (w2.alloc (.cells itZ 61)).setRow w2.heap.size (itCs xc xn xo (.slice xA xla xca) (.slice xP xlp xcp) (.slice xC xlc xcc) (szQ xc xn xo : Nat)) = w5 at HB ⊢
 have HP := Lib.hid (put_ok n0 g B P ⟨xc, xn, xo, xA, xla, xca, xP, xlp, xcp, xC, xlc, xcc⟩ w5 (HX.out.1.on HB.out.1 HN0.out) (Nat.le_trans HN0.out HB.out.1.size) HB.out.2.2 (by rw [H2.out.1]; exact HX.out.2.2.2) (Nat.le_trans HS.out.1 (by decide)) (by rw [H2.out.1]; exact HS.out.2.1))
 go_wp2_with (first
   | (refine wpList_load_row rfl 61 _ rfl w2.heap.size rfl 61 (itCs xc xn xo (.slice xA xla xca) (.slice xP xlp xcp) (.slice xC xlc xcc) (szQ xc xn xo : Nat)) (0, 0) _ HB.out.2.1 rfl rfl (by kernel_rfl) ?_)
   | (go_at_call 19; (with_reducible refine HP.out.mono ?_); clear HP; rintro e w6 ⟨rfl, hl6, hf6⟩; dsimp only; have HE := Lib.hid (end_at hl6 HS.out.2.2.1 HS.out.1 HS.out.2.2.2); have H6 := Lib.hid (And.intro hl6 ((FrT.of HB.out.1 HN0.out).trans hf6)); clear hl6 hf6)
   | (go_at_call 23; (with_reducible refine HE.out.mono ?_); rintro e w7 ⟨rfl, rfl⟩))
 go_ret2
 exact ⟨_, H2.out.1, rfl, H6.out.1, H6.out.2⟩
set_option maxHeartbeats 4000000 in
theorem rappend_no (n0 r B : Nat) (R : List Rq) (c n : Int) (o : Opn) (va vp vc : Value) (w0 w : World) (h : LogQ n0 w0 w r B R) (hn0 : n0 = w0.heap.size) (hb0 : Below n0 w0 w) (hlim : Lim o) (ho : OpAt w0 o va vp vc) (hm : mayO o = false) :
   Calls Tryz.prog 25 #[.pointer (some ⟨r, 0, none⟩), rqVal c n o va vp vc] w fun e w' => e = .returned (.tuple #[.int .u64 0, .int .i64 2]) ∧ Below w.heap.size w w' := by
 obtain ⟨A, _, cL, hk, rfl, ⟨hA0, hle, hmx⟩, _, hrs⟩ := id h.st
 have hat := ho.on (hn0 ▸ hb0)
 obtain ⟨Aa, ca, na, rfl, _, _⟩ := rdv_len ho.a
 obtain ⟨Ap, cp, np, rfl⟩ := ho.p.len
 obtain ⟨Ac, cc, nc, rfl, _⟩ := ho.c.len
 have hn0w : n0 ≤ w.heap.size := by rw [hn0]; exact hb0.size
 have hb1 : Below w.heap.size w (w.alloc (.cells (rqCs c n o (.slice Aa na ca) (.slice Ap np cp) (.slice Ac nc cc)) 46)) := (Below.refl _ _).alloc (Nat.le_refl _) _
 have HM := Lib.hid (rmay_any c n o _ _ _ _ hlim (hat.on hb1))
 rw [hm] at HM
 have HB := Lib.hid (And.intro hb1 (Blk.new w 46 (rqCs c n o (.slice Aa na ca) (.slice Ap np cp) (.slice Ac nc cc))))
 clear h hk hat hb0 hlim ho hm hrs hb1 hn0 hn0w hA0
 go_enter Tryz.func25, Tryz.ntmps25
 go_wp2_with (first
   | (refine wpList_load_row rfl 46 _ rfl w.heap.size rfl 46 (rqCs c n o (.slice Aa na ca) (.slice Ap np cp) (.slice Ac nc cc)) (0, 0) _ HB.out.2 rfl rfl (by kernel_rfl) ?_)
   | (go_at_call 20; (with_reducible refine HM.out.mono ?_); rintro e w1 ⟨rfl, hbx⟩; dsimp only; have H1 := Lib.hid (HB.out.1.trans (hbx.mono HB.out.1.size)); clear hbx))
 go_ret2
 exact ⟨rfl, H1.out⟩
set_option maxHeartbeats 16000000 in
theorem rappend_full (n0 r B : Nat) (R : List Rq) (c n : Int) (o : Opn) (va vp vc : Value) (w0 w : World) (h : LogQ n0 w0 w r B R) (hn0 : n0 = w0.heap.size) (hb0 : Below n0 w0 w) (hlim : Lim o) (ho : OpAt w0 o va vp vc) (hm : Mq.Good ⟨c, n, o⟩) (hl : R.length ≤ 1000) (hs : 2097152 < sumM (means R) + Mq.sz ⟨c, n, o⟩) :
   Calls Tryz.prog 25 #[.pointer (some ⟨r, 0, none⟩), rqVal c n o va vp vc] w fun e w' => e = .returned (.tuple #[.int .u64 0, .int .i64 10]) ∧ Below w.heap.size w w' := by
 obtain ⟨A, _, cL, hk, rfl, ⟨hA0, hle, hmx⟩, _, hrs⟩ := id h.st
 have hat := ho.on (hn0 ▸ hb0)
 obtain ⟨Aa, ca, na, rfl, _, _⟩ := rdv_len ho.a
 obtain ⟨Ap, cp, np, rfl⟩ := ho.p.len
 obtain ⟨Ac, cc, nc, rfl, _⟩ := ho.c.len
 have hn0w : n0 ≤ w.heap.size := by rw [hn0]; exact hb0.size
 have hb1 : Below w.heap.size w (w.alloc (.cells (rqCs c n o (.slice Aa na ca) (.slice Ap np cp) (.slice Ac nc cc)) 46)) := (Below.refl _ _).alloc (Nat.le_refl _) _
 have HM := Lib.hid (rmay_any c n o _ _ _ _ hlim (hat.on hb1))
 rw [hm.may] at HM
 obtain ⟨q, hq⟩ : ∃ q, q = sumM (means R) := ⟨_, rfl⟩
 obtain ⟨z, hz⟩ : ∃ z, z = szQ c n o := ⟨_, rfl⟩
 have hqf : q ≤ 300000000 := by rw [hq]; have := sumM_few h.good; rw [means_len] at this; omega
 have hzf : z ≤ 300000 := by rw [hz]; exact hm.few
 have hsq : 2097152 < q + z := by rw [hq, hz]; exact hs
 have e4 : IntKind.i64.wrap ((q : Int) + (z : Int)) = (q : Int) + z := IntWalk.i64_in _ (by omega)
 have d1 : decide ((4096 : Int) ≤ (R.length : Int)) = false := by simp; omega
 have d0 : decide (4096 ≤ R.length) = false := by simp; omega
 have d2 : decide ((2097152 : Int) < (q : Int) + (z : Int)) = true := by simp; omega
 have d3 : decide (2097152 < q + z) = true := by simp; omega
 have HB := Lib.hid (And.intro hb1 (Blk.new w 46 (rqCs c n o (.slice Aa na ca) (.slice Ap np cp) (.slice Ac nc cc))))
 have HX := Lib.hid (And.intro h (And.intro hk (And.intro hat (And.intro hm (And.intro hb0 hrs)))))
 have HH := Lib.hid (And.intro hn0 (And.intro hn0w (And.intro hl (And.intro hq (And.intro hz ho)))))
 clear h hk hat hb0 hm hrs hb1 hn0 hn0w hl hq hz hs hsq ho
 go_enter Tryz.func25, Tryz.ntmps25
 go_upto_region 3 with (first
   | (refine wpList_load_row rfl 46 _ rfl w.heap.size rfl 46 (rqCs c n o (.slice Aa na ca) (.slice Ap np cp) (.slice Ac nc cc)) (0, 0) _ HB.out.2 rfl rfl (by kernel_rfl) ?_)
   | (go_at_call 20; (with_reducible refine HM.out.mono ?_); clear HM; rintro e w1 ⟨rfl, hbx⟩; dsimp only; have H1 := Lib.hid (And.intro (HB.out.1.trans (hbx.mono HB.out.1.size)) (HB.out.2.on hbx)); clear hbx))
 obtain ⟨B1, hB1⟩ : ∃ b, b = w.heap.size := ⟨_, rfl⟩
 have HBB := Lib.hid hB1
 clear hB1
 rw [← HBB.out]
 have k1 := HX.out.2.1.on H1.out.1
 have c1 := k1.cell 1
 simp only [List.getElem?_toArray, List.getElem?_cons_zero, List.getElem?_cons_succ] at c1
 have k2 : Blk w1 B1 46 (rqCs c n o (.slice Aa na ca) (.slice Ap np cp) (.slice Ac nc cc)) := by rw [HBB.out]; exact H1.out.2
 obtain ⟨a0, a1, a2, a3, a4, a5, a6, a7, a8⟩ := rq_cells k2
 have hlq := (HX.out.1.on H1.out.1 HH.out.2.1).on (below_drew (Below.refl w1.heap.size w1)) (Nat.le_trans HH.out.2.1 H1.out.1.size)
 have hbq : Below n0 w0 w1.drew := below_drew (HX.out.2.2.2.2.1.trans (H1.out.1.mono HH.out.2.1))
 have HSZ := Lib.hid (rsize_any n0 r B R w0 w1.drew hlq HH.out.1 hbq HH.out.2.2.1)
 rw [← HH.out.2.2.2.1] at HSZ
 have HK := Lib.hid (And.intro k1 k2)
 clear k1 k2 hlq hbq
 go_region_law (first
   | (go_simp; (with_reducible refine HSZ.out.mono ?_); clear HSZ; rintro e w3 ⟨rfl, hb3⟩; dsimp only; have H3 := Lib.hid (And.intro (H1.out.1.trans ((below_of_drew hb3).mono H1.out.1.size)) (HK.out.2.on (below_of_drew hb3))); obtain ⟨a0, a1, a2, a3, a4, a5, a6, a7, a8⟩ := rq_cells H3.out.2; have HRB := Lib.hid (refReqBytes c n o _ _ _ w3 HX.out.2.2.2.1.ok.c HX.out.2.2.2.1.ok.n (HX.out.2.2.1.on H3.out.1) HX.out.2.2.2.1.may); clear hb3)
   | (go_simp; (with_reducible refine HRB.out.mono ?_); clear HRB; rintro e w4 ⟨u, rfl, hrow, hb4⟩; dsimp only; obtain ⟨A4, c4, n4, HN4, rfl⟩ := row_shape hrow; obtain rfl : z = n4 := (by rw [HN4.out, HH.out.2.2.2.2.1]; rfl); have H4 := Lib.hid (And.intro (H3.out.1.trans (hb4.mono H3.out.1.size)) (H3.out.2.on hb4)); clear hb4 hrow HN4))
 all_goals
   go_wp2_with fail
   go_ret2
   exact ⟨rfl, H4.out.1⟩
end Go.Proofs.YtniaijgejljjbaaGreat.Tlv
