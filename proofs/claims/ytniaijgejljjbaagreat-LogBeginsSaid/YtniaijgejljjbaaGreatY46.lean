/- An act, by both: a place's request. -/
import Derived.Test.YtniaijgejljjbaaGreatY45
namespace Go.Proofs.YtniaijgejljjbaaGreat.Tlv
open Go.RowKit
set_option maxRecDepth 100000
set_option linter.unusedVariables false
set_option linter.unusedSimpArgs false
theorem sameO_refl (o : Opn) : sameO o o = true := by unfold sameO; simp
set_option maxHeartbeats 32000000 in
theorem do4_in {sp : Spc} {wz : World} (n0 g r B N m : Nat) (P R : List Rq) (c n : Int) (o : Opn) (Aa Ap Ac : Option Addr) (na ca np cp nc cc : Nat) (w0 w : World) (h : LR sp n0 w0 wz w g r B P R) (hn0 : n0 = w0.heap.size) (ho : OpAt w0 o (.slice Aa na ca) (.slice Ap np cp) (.slice Ac nc cc)) (hok : Mq.Ok ⟨c, n, o⟩) (hl : P.length ≤ 800) (hB : B + P.length ≤ 4611686018427388904) (hm : IntKind.u64.wrap ((B : Int) + (N : Int)) = (m : Int)) (j : Nat) (hmi : m = B + (j + 1)) (hin : j < P.length) :
   Calls Tryz.prog 10 #[.pointer (some ⟨g, 0, none⟩), .pointer (some ⟨r, 0, none⟩), .agg (actCs (4) N c n o (.slice Aa na ca) (.slice Ap np cp) (.slice Ac nc cc))] w (DoOut sp n0 w0 wz g r B P.length) := by
 have HI := Lib.hid (And.intro hmi hin)
 clear hmi hin
 have hn0w : n0 ≤ w.heap.size := by rw [hn0]; exact h.bel.size
 obtain ⟨AR, nR, cR, hkR, _⟩ := id h.q.st
 have hbx : Below w.heap.size w (w.alloc (.cells (actCs (4) N c n o (.slice Aa na ca) (.slice Ap np cp) (.slice Ac nc cc)) 48)) := (Below.refl _ _).alloc (Nat.le_refl _) _
 have c0 : (w.alloc (.cells (actCs (4) N c n o (.slice Aa na ca) (.slice Ap np cp) (.slice Ac nc cc)) 48)).cell? ⟨r, 0, none⟩ = some (.int .u64 B) := (hkR.on hbx).cell 0
 obtain ⟨B5, hB5⟩ : ∃ b, b = w.heap.size := ⟨_, rfl⟩
 have k5 := Blk.new w 48 (actCs (4) N c n o (.slice Aa na ca) (.slice Ap np cp) (.slice Ac nc cc))
 rw [← hB5] at k5
 have HX := Lib.hid (And.intro (h.on hbx hn0w) (And.intro k5 (And.intro ho (And.intro hok (And.intro hl (And.intro hB (And.intro hn0 (hn0 ▸ Nat.le_trans (hn0 ▸ hn0w) hbx.size))))))))
 have hN0 := Lib.hid hn0w
 clear h hkR hbx k5 ho hok hl hB hn0 hn0w
 go_enter Tryz.func10, Tryz.ntmps10
 go_upto_region 1 with fail
 go_quiet (fail)
 obtain ⟨W1, hW1, hLR, hk5, hsz⟩ : ∃ W1, W1 = (w.alloc (.cells (actCs (4) N c n o (.slice Aa na ca) (.slice Ap np cp) (.slice Ac nc cc)) 48)).drewN nq ∧ LR sp n0 w0 wz W1 g r B P R ∧ Blk W1 B5 48 (actCs (4) N c n o (.slice Aa na ca) (.slice Ap np cp) (.slice Ac nc cc)) ∧ n0 ≤ W1.heap.size := ⟨_, rfl, HX.out.1.on (below_drewN (Below.refl _ _) _) HX.out.2.2.2.2.2.2.2, HX.out.2.1, HX.out.2.2.2.2.2.2.2⟩
 rw [← hW1, ← hB5]
 have a0 : W1.cell? ⟨B5, 0, none⟩ = some (.int .i64 (4)) := hk5.cell 0
 have HL := Lib.hid (And.intro hLR (And.intro hk5 hsz))
 clear hW1 hLR hk5 hsz hB5 c0 hm
 have HA := Lib.hid (at_ok n0 g B j m P W1 HL.out.1.p HL.out.2.2 (Nat.le_trans HX.out.2.2.2.2.1 (by decide)) (by have := HX.out.2.2.2.2.2.1; omega) HI.out.1 HI.out.2)
 have hmm := means_at HL.out.1.m HI.out.2
 have hgd := HL.out.1.p.good _ (means_mem HI.out.2)
 have hjR : j < R.length := by rw [← HL.out.1.len]; exact HI.out.2
 have hyo := HL.out.1.q.at_ _ (mem_getD hjR)
 obtain ⟨xx, hxx⟩ : ∃ xx, xx = P.getD j default := ⟨_, rfl⟩
 rw [← hxx] at HA hmm hgd
 clear hxx
 go_upto_region 22 with (first
   | (go_at_call 17; (with_reducible refine HA.out.mono ?_); clear HA; rintro e w2 ⟨⟨xc, xn, xo, xA, xla, xca, xP, xlp, xcp, xC, xlc, xcc⟩, hxm, rfl, hxo, hb2⟩; dsimp only; have H2 := Lib.hid (And.intro hxm (And.intro hxo hb2)); clear hxm hxo hb2)
   | (refine wpList_store_rowTo rfl 46 _ _ rfl rfl w2.heap.size (rqCs xc xn xo (.slice xA xla xca) (.slice xP xlp xcp) (.slice xC xlc xcc)) rfl rfl 46 zQ (Blk.new w2 46 zQ) (by kernel_rfl) rfl (by kernel_rfl) ?_))
 have h9 := (Blk.new w2 46 zQ).row (rqCs xc xn xo (.slice xA xla xca) (.slice xP xlp xcp) (.slice xC xlc xcc))
 have h8 := below_setRow ((Below.refl w2.heap.size w2).alloc (Nat.le_refl _) (.cells zQ 46)) (Nat.le_refl _) (rqCs xc xn xo (.slice xA xla xca) (.slice xP xlp xcp) (.slice xC xlc xcc))
 have h7 := H2.out.2.2.trans (h8.mono H2.out.2.2.size)
 have H3 := Lib.hid (And.intro (HL.out.1.on h7 HL.out.2.2) (And.intro (H2.out.2.1.on h8) (And.intro h9 (Nat.le_trans HL.out.2.2 h7.size))))
 clear h7 h8 h9
 generalize (w2.alloc (.cells zQ 46)).setRow w2.heap.size (rqCs xc xn xo (.slice xA xla xca) (.slice xP xlp xcp) (.slice xC xlc xcc)) = W3 at H3 ⊢
 have HB := Lib.hid (rat_ok n0 r B j m R w0 W3 H3.out.1.q H3.out.2.2.2 (by have := HX.out.2.2.2.2.2.1; omega) (by rw [← HL.out.1.len]; exact Nat.le_trans HX.out.2.2.2.2.1 (by decide)) HI.out.1 hjR)
 have HSM : Hid (xx.m = (R.getD j default).m ∧ OpAt w0 (R.getD j default).o (R.getD j default).va (R.getD j default).vp (R.getD j default).vc ∧ xx.m.Good) := Lib.hid ⟨hmm, hyo, hgd⟩
 clear hmm hyo hgd hjR
 generalize R.getD j default = y at HB HSM
 obtain ⟨yc, yn, yo, yA, yla, yca, yP, ylp, ycp, yC, ylc, ycc⟩ := y
 clear a0
 go_upto_region 23 with (first
   | (go_at_call 28; (with_reducible refine HB.out.mono ?_); clear HB; rintro e w4 ⟨rfl, hb4⟩; dsimp only; have H4 := Lib.hid hb4; clear hb4)
   | (refine wpList_store_rowTo rfl 46 _ _ rfl rfl w4.heap.size (rqCs yc yn yo (.slice yA yla yca) (.slice yP ylp ycp) (.slice yC ylc ycc)) rfl rfl 46 zQ (Blk.new w4 46 zQ) (by kernel_rfl) rfl (by kernel_rfl) ?_))
 have h9 := (Blk.new w4 46 zQ).row (rqCs yc yn yo (.slice yA yla yca) (.slice yP ylp ycp) (.slice yC ylc ycc))
 have h8 := below_setRow ((Below.refl w4.heap.size w4).alloc (Nat.le_refl _) (.cells zQ 46)) (Nat.le_refl _) (rqCs yc yn yo (.slice yA yla yca) (.slice yP ylp ycp) (.slice yC ylc ycc))
 have h7 := H4.out.trans (h8.mono H4.out.size)
 have hk14 := H3.out.2.2.1.on h7
 have H5 := Lib.hid (And.intro (H3.out.1.on h7 H3.out.2.2.2) (And.intro (H3.out.2.1.on h7) (Nat.le_trans H3.out.2.2.2 h7.size)))
 clear h7 h8
 generalize (w4.alloc (.cells zQ 46)).setRow w4.heap.size (rqCs yc yn yo (.slice yA yla yca) (.slice yP ylp ycp) (.slice yC ylc ycc)) = W5 at h9 hk14 H5 ⊢
 obtain ⟨a0, a1, a2, a3, a4, a5, a6, a7, a8⟩ := rq_cells hk14
 obtain ⟨b0, b1, b2, b3, b4, b5, b6, b7, b8⟩ := rq_cells h9
 have HE : Hid (xc = yc ∧ xn = yn ∧ xo = yo) := Lib.hid (by
   have h1 := H2.out.1.trans HSM.out.1
   unfold Rq.m at h1
   dsimp only at h1
   injection h1 with e1 e2 e3
   exact ⟨e1, e2, e3⟩)
 have hgx : (⟨xc, xn, xo⟩ : Mq).Good := by have h := HSM.out.2.2; rw [← H2.out.1] at h; exact h
 have HS : Hid (Calls Tryz.prog 29 #[.agg (rqCs xc xn xo (.slice xA xla xca) (.slice xP xlp xcp) (.slice xC xlc xcc)), .agg (rqCs yc yn yo (.slice yA yla yca) (.slice yP ylp ycp) (.slice yC ylc ycc))] W5 fun e w' => e = .returned (.bool true) ∧ Below W5.heap.size W5 w') := Lib.hid (by
   have h1 := sameRqR_any xc xn yc yn xo yo _ _ _ _ _ _ W5 H5.out.2.1.at (HSM.out.2.1.on (HX.out.2.2.2.2.2.2.1 ▸ H5.out.1.bel)) hgx.ok.lim (HE.out.2.2 ▸ hgx.ok.lim)
   have h2 : sameRq xc xn xo yc yn yo = true := by
     unfold sameRq
     rw [HE.out.1, HE.out.2.1, HE.out.2.2, sameO_refl]
     simp
   rw [h2] at h1
   exact h1)
 clear h9 hk14 hgx
 go_wp2_with (go_at_call 29; (with_reducible refine HS.out.mono ?_); clear HS; rintro e w6 ⟨rfl, hb6⟩; dsimp only; have H6 := Lib.hid (H5.out.1.on hb6 H5.out.2.2); clear hb6)
 go_ret
 exact DoOut.same H6.out
def zO : Opn := ⟨0, [], [], [], [], [], 0⟩
theorem zO_at (w : World) : OpAt w zO (.slice none 0 0) (.slice none 0 0) (.slice none 0 0) := by
 refine ⟨?_, RdP.nil w, RdC.nil w⟩
 exact YtniaijgejljjbaaGreat.RdV.nil w
theorem zO_lim : Lim zO := ⟨by decide, by decide, (fun x h => by cases h), by decide, by decide, (fun x h => by cases h), by decide, (fun x h => by cases h)⟩
theorem same_zero (W : World) : Calls Tryz.prog 29 #[.agg zQ, .agg zQ] W fun e w' => e = .returned (.bool true) ∧ Below W.heap.size W w' := by
 have h1 := sameRqR_any 0 0 0 0 zO zO _ _ _ _ _ _ W (zO_at W) (zO_at W) zO_lim zO_lim
 have h2 : sameRq 0 0 zO 0 0 zO = true := by unfold sameRq; rw [sameO_refl]; rfl
 rw [h2] at h1
 exact h1
set_option maxHeartbeats 32000000 in
theorem do4_no {sp : Spc} {wz : World} (n0 g r B N m : Nat) (P R : List Rq) (c n : Int) (o : Opn) (Aa Ap Ac : Option Addr) (na ca np cp nc cc : Nat) (w0 w : World) (h : LR sp n0 w0 wz w g r B P R) (hn0 : n0 = w0.heap.size) (ho : OpAt w0 o (.slice Aa na ca) (.slice Ap np cp) (.slice Ac nc cc)) (hok : Mq.Ok ⟨c, n, o⟩) (hl : P.length ≤ 800) (hB : B + P.length ≤ 4611686018427388904) (hm : IntKind.u64.wrap ((B : Int) + (N : Int)) = (m : Int)) (hno : m ≤ B ∨ B + P.length < m) :
   Calls Tryz.prog 10 #[.pointer (some ⟨g, 0, none⟩), .pointer (some ⟨r, 0, none⟩), .agg (actCs (4) N c n o (.slice Aa na ca) (.slice Ap np cp) (.slice Ac nc cc))] w (DoOut sp n0 w0 wz g r B P.length) := by
 have HO := Lib.hid hno
 clear hno
 have hn0w : n0 ≤ w.heap.size := by rw [hn0]; exact h.bel.size
 obtain ⟨AR, nR, cR, hkR, _⟩ := id h.q.st
 have hbx : Below w.heap.size w (w.alloc (.cells (actCs (4) N c n o (.slice Aa na ca) (.slice Ap np cp) (.slice Ac nc cc)) 48)) := (Below.refl _ _).alloc (Nat.le_refl _) _
 have c0 : (w.alloc (.cells (actCs (4) N c n o (.slice Aa na ca) (.slice Ap np cp) (.slice Ac nc cc)) 48)).cell? ⟨r, 0, none⟩ = some (.int .u64 B) := (hkR.on hbx).cell 0
 obtain ⟨B5, hB5⟩ : ∃ b, b = w.heap.size := ⟨_, rfl⟩
 have k5 := Blk.new w 48 (actCs (4) N c n o (.slice Aa na ca) (.slice Ap np cp) (.slice Ac nc cc))
 rw [← hB5] at k5
 have HX := Lib.hid (And.intro (h.on hbx hn0w) (And.intro k5 (And.intro ho (And.intro hok (And.intro hl (And.intro hB (And.intro hn0 (hn0 ▸ Nat.le_trans (hn0 ▸ hn0w) hbx.size))))))))
 have hN0 := Lib.hid hn0w
 clear h hkR hbx k5 ho hok hl hB hn0 hn0w
 go_enter Tryz.func10, Tryz.ntmps10
 go_upto_region 1 with fail
 go_quiet (fail)
 obtain ⟨W1, hW1, hLR, hk5, hsz⟩ : ∃ W1, W1 = (w.alloc (.cells (actCs (4) N c n o (.slice Aa na ca) (.slice Ap np cp) (.slice Ac nc cc)) 48)).drewN nq ∧ LR sp n0 w0 wz W1 g r B P R ∧ Blk W1 B5 48 (actCs (4) N c n o (.slice Aa na ca) (.slice Ap np cp) (.slice Ac nc cc)) ∧ n0 ≤ W1.heap.size := ⟨_, rfl, HX.out.1.on (below_drewN (Below.refl _ _) _) HX.out.2.2.2.2.2.2.2, HX.out.2.1, HX.out.2.2.2.2.2.2.2⟩
 rw [← hW1, ← hB5]
 have a0 : W1.cell? ⟨B5, 0, none⟩ = some (.int .i64 (4)) := hk5.cell 0
 have HL := Lib.hid (And.intro hLR (And.intro hk5 hsz))
 clear hW1 hLR hk5 hsz hB5 c0 hm
 obtain ⟨Ab, cb, zb, hkb⟩ := HL.out.1.blk
 have HA := Lib.hid (at_no g P.length cb B m Ab zb W1 hkb (by have := HX.out.2.2.2.2.2.1; omega) (by have := HX.out.2.2.2.2.1; omega) HO.out)
 clear hkb
 go_upto_region 22 with (first
   | (go_at_call 17; (with_reducible refine HA.out.mono ?_); clear HA; rintro e w2 ⟨rfl, hb2⟩; dsimp only; have H2 := Lib.hid hb2; clear hb2)
   | (refine wpList_store_rowTo rfl 46 _ _ rfl rfl w2.heap.size zQ rfl rfl 46 zQ (Blk.new w2 46 zQ) (by kernel_rfl) rfl (by kernel_rfl) ?_))
 have h9 := (Blk.new w2 46 zQ).row zQ
 have h8 := below_setRow ((Below.refl w2.heap.size w2).alloc (Nat.le_refl _) (.cells zQ 46)) (Nat.le_refl _) zQ
 have h7 := H2.out.trans (h8.mono H2.out.size)
 have H3 := Lib.hid (And.intro (HL.out.1.on h7 HL.out.2.2) (And.intro h9 (Nat.le_trans HL.out.2.2 h7.size)))
 clear h7 h8 h9
 generalize (w2.alloc (.cells zQ 46)).setRow w2.heap.size zQ = W3 at H3 ⊢
 have HB := Lib.hid (rat_no n0 r B m R w0 W3 H3.out.1.q (by have := HX.out.2.2.2.2.2.1; omega) (by rw [← HL.out.1.len]; exact Nat.le_trans HX.out.2.2.2.2.1 (by decide)) (by rw [← HL.out.1.len]; exact HO.out))
 clear a0
 go_upto_region 23 with (first
   | (go_at_call 28; (with_reducible refine HB.out.mono ?_); clear HB; rintro e w4 ⟨rfl, hb4⟩; dsimp only; have H4 := Lib.hid hb4; clear hb4)
   | (refine wpList_store_rowTo rfl 46 _ _ rfl rfl w4.heap.size zQ rfl rfl 46 zQ (Blk.new w4 46 zQ) (by kernel_rfl) rfl (by kernel_rfl) ?_))
 have h9 := (Blk.new w4 46 zQ).row zQ
 have h8 := below_setRow ((Below.refl w4.heap.size w4).alloc (Nat.le_refl _) (.cells zQ 46)) (Nat.le_refl _) zQ
 have h7 := H4.out.trans (h8.mono H4.out.size)
 have hk14 := H3.out.2.1.on h7
 have H5 := Lib.hid (And.intro (H3.out.1.on h7 H3.out.2.2) (Nat.le_trans H3.out.2.2 h7.size))
 clear h7 h8
 generalize (w4.alloc (.cells zQ 46)).setRow w4.heap.size zQ = W5 at h9 hk14 H5 ⊢
 obtain ⟨a0, a1, a2, a3, a4, a5, a6, a7, a8⟩ := rq_cells0 hk14
 obtain ⟨b0, b1, b2, b3, b4, b5, b6, b7, b8⟩ := rq_cells0 h9
 have HS := Lib.hid (same_zero W5)
 clear h9 hk14
 go_wp2_with (go_at_call 29; (with_reducible refine HS.out.mono ?_); clear HS; rintro e w6 ⟨rfl, hb6⟩; dsimp only; have H6 := Lib.hid (H5.out.1.on hb6 H5.out.2); clear hb6)
 go_ret
 exact DoOut.same H6.out
end Go.Proofs.YtniaijgejljjbaaGreat.Tlv
