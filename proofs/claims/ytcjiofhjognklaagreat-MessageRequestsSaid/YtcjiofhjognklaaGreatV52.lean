/- The law on requests: its walks. -/
import Derived.Test.YtcjiofhjognklaaGreatV50
namespace Go.Proofs.YtcjiofhjognklaaGreat.Tlv
open Go.RowKit Go.Lib Go.Sort
set_option maxRecDepth 100000
set_option linter.unusedVariables false
set_option linter.unusedSimpArgs false
set_option maxHeartbeats 64000000 in
theorem lawRq_n (c1 n1 c2 n2 c0 n0 ey : Int) (bk : Bool) (o p ob : Opn) (va vp vc xa xp xc : Value) (A : Option Addr) (c n : Nat) (w : World) (hcn1 : Cn c1 n1) (hcn2 : Cn c2 n2) (ho : OpAt w o va vp vc) (hp : OpAt w p xa xp xc) (hlo : Lim o) (hlp : Lim p) (hbo : bigO o = false) (hbp : bigO p = false)
   (hn : n ≤ 20000) (hmo : mayO o = false)
   (hof : ∀ W, Below w.heap.size w W → Calls Tryz.prog 28 #[.slice A n c] W fun e w' => ∃ Aa na ca Ap np cp Ac nc cc, e = .returned (.tuple #[rqVal c0 n0 ob (.slice Aa na ca) (.slice Ap np cp) (.slice Ac nc cc), .int .i64 ey]) ∧ OpAt w' ob (.slice Aa na ca) (.slice Ap np cp) (.slice Ac nc cc) ∧ Lim ob ∧ Below W.heap.size W w')
   (hrf : ∀ W, Below w.heap.size w W → Calls Tryz.prog 29 #[.slice A n c] W fun e w' => ∃ Aa na ca Ap np cp Ac nc cc, e = .returned (.tuple #[rqVal c0 n0 ob (.slice Aa na ca) (.slice Ap np cp) (.slice Ac nc cc), .bool bk]) ∧ OpAt w' ob (.slice Aa na ca) (.slice Ap np cp) (.slice Ac nc cc) ∧ Lim ob ∧ Below W.heap.size W w') (hxy : (ey = 0 ∧ bk = true) ∨ (ey = 4 ∧ bk = false)) :
   Calls Tryz.prog 5 #[rqVal c1 n1 o va vp vc, rqVal c2 n2 p xa xp xc, .slice A n c] w (KnownOut w) := by
 have HA := Lib.hid fun (W : World) (hb : Below w.heap.size w W) => And.intro (ho.on hb) (hp.on hb)
 have HLO := Lib.hid hlo
 have HLP := Lib.hid hlp
 obtain ⟨Aa, ca0, na, rfl, HNA, _⟩ := rdv_len ho.a
 obtain ⟨Ap, cp0, np, rfl, HNP, _⟩ := ho.p.full
 obtain ⟨Ac, cc0, nc, rfl, HNC, _⟩ := ho.c.full
 obtain ⟨Ba, da0, ma, rfl, _, _⟩ := rdv_len hp.a
 obtain ⟨Bp, dp0, mp, rfl⟩ := hp.p.len
 obtain ⟨Bc, dc0, mc, rfl, _⟩ := hp.c.len
 have hb0 : Below w.heap.size w ((w.alloc (.cells (rqCs c1 n1 o (.slice Aa na ca0) (.slice Ap np cp0) (.slice Ac nc cc0)) 57)).alloc (.cells (rqCs c2 n2 p (.slice Ba ma da0) (.slice Bp mp dp0) (.slice Bc mc dc0)) 57)) := ((Below.refl _ _).alloc (Nat.le_refl _) _).alloc (by simp) _
 have kx := (Blk.new w 57 (rqCs c1 n1 o (.slice Aa na ca0) (.slice Ap np cp0) (.slice Ac nc cc0))).alloc (.cells (rqCs c2 n2 p (.slice Ba ma da0) (.slice Bp mp dp0) (.slice Bc mc dc0)) 57)
 have ky := Blk.new (w.alloc (.cells (rqCs c1 n1 o (.slice Aa na ca0) (.slice Ap np cp0) (.slice Ac nc cc0)) 57)) 57 (rqCs c2 n2 p (.slice Ba ma da0) (.slice Bp mp dp0) (.slice Bc mc dc0))
 rw [World.size_alloc] at ky
 obtain ⟨Bx, hBx⟩ : ∃ b, b = w.heap.size := ⟨_, rfl⟩
 obtain ⟨By, hBy⟩ : ∃ b, b = w.heap.size + 1 := ⟨_, rfl⟩
 have H0 : Hid (LQ w Bx By (rqCs c1 n1 o (.slice Aa na ca0) (.slice Ap np cp0) (.slice Ac nc cc0)) (rqCs c2 n2 p (.slice Ba ma da0) (.slice Bp mp dp0) (.slice Bc mc dc0)) ((w.alloc (.cells (rqCs c1 n1 o (.slice Aa na ca0) (.slice Ap np cp0) (.slice Ac nc cc0)) 57)).alloc (.cells (rqCs c2 n2 p (.slice Ba ma da0) (.slice Bp mp dp0) (.slice Bc mc dc0)) 57))) := Lib.hid ⟨hb0, hBx ▸ kx, hBy ▸ ky⟩
 clear hb0 kx ky ho hp hlo hlp
 have HBO := Lib.hid hbo
 have HBP := Lib.hid hbp
 have HMO := Lib.hid hmo
 have HCN := Lib.hid (And.intro hcn1 hcn2)
 have HOF := Lib.hid hof
 have HRF := Lib.hid hrf
 clear hof hrf hbo hbp hmo hcn1 hcn2
 rcases hxy with ⟨rfl, rfl⟩ | ⟨rfl, rfl⟩
 all_goals
   go_enter Tryz.func5, Tryz.ntmps5
   go_upto_region 1 with fail
   rw [← hBy, ← hBx]
   generalize (w.alloc (.cells (rqCs c1 n1 o (.slice Aa na ca0) (.slice Ap np cp0) (.slice Ac nc cc0)) 57)).alloc (.cells (rqCs c2 n2 p (.slice Ba ma da0) (.slice Bp mp dp0) (.slice Bc mc dc0)) 57) = W0 at H0 ⊢
   clear hBx hBy
   obtain ⟨x0, x1, x2, x3, x4, x5, x6, x7, x8⟩ := rq_cells H0.out.x
   obtain ⟨y0, y1, y2, y3, y4, y5, y6, y7, y8⟩ := rq_cells H0.out.y
   have HB1 := big_any o _ _ _ W0 (HA.out _ H0.out.bel).1 HLO.out
   rw [HBO.out] at HB1
   have HB1 := Lib.hid HB1
   have hn1 : ¬ (20000 : Int) < (n : Int) := by omega
   go_upto_region 3 with (first
     | (go_at_call 7; (with_reducible refine HB1.out.mono ?_); clear HB1 x0 x1 x2 x3 x4 x5 x6 x7 x8 y0 y1 y2 y3 y4 y5 y6 y7 y8; rintro e w1 ⟨rfl, hb1⟩; dsimp only; have H1 := Lib.hid (H0.out.on hb1); clear hb1; obtain ⟨y0, y1, y2, y3, y4, y5, y6, y7, y8⟩ := rq_cells H1.out.y; have HB2 : Hid (Calls Tryz.prog 7 #[opVal p (.slice Ba ma da0) (.slice Bp mp dp0) (.slice Bc mc dc0)] w1 fun e w' => e = .returned (.bool false) ∧ Below w1.heap.size w1 w') := Lib.hid (by have h := big_any p _ _ _ w1 (HA.out _ H1.out.bel).2 HLP.out; rw [HBP.out] at h; exact h))
     | (go_at_call 7; (with_reducible refine HB2.out.mono ?_); clear HB2 y0 y1 y2 y3 y4 y5 y6 y7 y8; rintro e w2 ⟨rfl, hb2⟩; dsimp only; have H2 := Lib.hid (H1.out.on hb2); clear hb2))
   clear hn1 H1 H0
   have HOB := Lib.hid (reqBytes_no c1 n1 o _ _ _ w2 (HA.out _ H2.out.bel).1 HLO.out HMO.out)
   go_upto_region 4 with (first
     | (refine wpList_load_row rfl 57 _ rfl Bx rfl 57 (rqCs c1 n1 o (.slice Aa na ca0) (.slice Ap np cp0) (.slice Ac nc cc0)) (0, 0) _ H2.out.x rfl rfl (by kernel_rfl) ?_)
     | (go_at_call 27; (with_reducible refine HOB.out.mono ?_); clear HOB; rintro e w3 ⟨rfl, hb3⟩; dsimp only; have H3 := Lib.hid (H2.out.on hb3); clear hb3))
   have HO1 := Lib.hid (HOF.out w3 H3.out.bel)
   go_upto_region 5 with (first
     | (go_at_call 28; (with_reducible refine HO1.out.mono ?_); clear HO1; rintro e w4 ⟨Ya, yn, yc, Yp, pn, pc, Yc, cn, ccx, rfl, hy1, hy2, hb4⟩; dsimp only; have H4 := Lib.hid (And.intro (H3.out.on hb4) (And.intro hy1 (And.intro hy2 hb4))); clear hy1 hy2 hb4)
     | (refine wpList_store_rowTo rfl 57 _ _ rfl rfl w4.heap.size (rqCs c0 n0 ob (.slice Ya yn yc) (.slice Yp pn pc) (.slice Yc cn ccx)) rfl rfl 57 zQ (Blk.new w4 57 zQ) (by kernel_rfl) rfl (by kernel_rfl) ?_))
   have hb5 : Below w4.heap.size w4 ((w4.alloc (.cells zQ 57)).setRow w4.heap.size (rqCs c0 n0 ob (.slice Ya yn yc) (.slice Yp pn pc) (.slice Yc cn ccx))) := below_setRow ((Below.refl _ _).alloc (Nat.le_refl _) (.cells zQ 57)) (Nat.le_refl _) _
   have kY : Blk ((w4.alloc (.cells zQ 57)).setRow w4.heap.size (rqCs c0 n0 ob (.slice Ya yn yc) (.slice Yp pn pc) (.slice Yc cn ccx))) w4.heap.size 57 (rqCs c0 n0 ob (.slice Ya yn yc) (.slice Yp pn pc) (.slice Yc cn ccx)) := (Blk.new w4 57 zQ).row _
   have h5 := And.intro (H4.out.1.on hb5) (And.intro (H4.out.2.1.on hb5) (And.intro kY (H4.out.2.2.2.trans (hb5.mono H4.out.2.2.2.size))))
   have HYL := Lib.hid H4.out.2.2.1
   obtain ⟨B9, hB9⟩ : ∃ b, b = w4.heap.size := ⟨_, rfl⟩
   rw [← hB9] at h5 ⊢
   clear hb5 kY hB9 H4
   generalize (w4.alloc (.cells zQ 57)).setRow B9 (rqCs c0 n0 ob (.slice Ya yn yc) (.slice Yp pn pc) (.slice Yc cn ccx)) = W5 at h5 ⊢
   have H5 := Lib.hid h5
   clear h5
   have HO2 := Lib.hid (HRF.out W5 H5.out.1.bel)
   go_upto_region 6 with (first
     | (go_at_call 29; (with_reducible refine HO2.out.mono ?_); clear HO2; rintro e w6 ⟨Za, zn, zc, Zp, ppn, ppc, Zc, ccn, cccx, rfl, hz1, hz2, hb6⟩; dsimp only; have H6 := Lib.hid (And.intro (H5.out.1.on hb6) (And.intro hz1 (And.intro (H5.out.2.1.on hb6) (And.intro (H5.out.2.2.1.on hb6) (H5.out.2.2.2.trans (hb6.mono H5.out.2.2.2.size)))))); clear hz1 hz2 hb6)
     | (refine wpList_store_rowTo rfl 57 _ _ rfl rfl w6.heap.size (rqCs c0 n0 ob (.slice Za zn zc) (.slice Zp ppn ppc) (.slice Zc ccn cccx)) rfl rfl 57 zQ (Blk.new w6 57 zQ) (by kernel_rfl) rfl (by kernel_rfl) ?_))
   have hb7 : Below w6.heap.size w6 ((w6.alloc (.cells zQ 57)).setRow w6.heap.size (rqCs c0 n0 ob (.slice Za zn zc) (.slice Zp ppn ppc) (.slice Zc ccn cccx))) := below_setRow ((Below.refl _ _).alloc (Nat.le_refl _) (.cells zQ 57)) (Nat.le_refl _) _
   have kZ : Blk ((w6.alloc (.cells zQ 57)).setRow w6.heap.size (rqCs c0 n0 ob (.slice Za zn zc) (.slice Zp ppn ppc) (.slice Zc ccn cccx))) w6.heap.size 57 (rqCs c0 n0 ob (.slice Za zn zc) (.slice Zp ppn ppc) (.slice Zc ccn cccx)) := (Blk.new w6 57 zQ).row _
   have h7 := And.intro (H6.out.1.on hb7) (And.intro (H6.out.2.1.on hb7) (And.intro (H6.out.2.2.1.on hb7) (And.intro (H6.out.2.2.2.1.on hb7) (And.intro kZ (H6.out.2.2.2.2.trans (hb7.mono H6.out.2.2.2.2.size))))))
   obtain ⟨B11, hB11⟩ : ∃ b, b = w6.heap.size := ⟨_, rfl⟩
   rw [← hB11] at h7 ⊢
   clear hb7 kZ hB11 H6 H5
   generalize (w6.alloc (.cells zQ 57)).setRow B11 (rqCs c0 n0 ob (.slice Za zn zc) (.slice Zp ppn ppc) (.slice Zc ccn cccx)) = W7 at h7 ⊢
   have H7 := Lib.hid h7
   clear h7
   obtain ⟨x0, x1, x2, x3, x4, x5, x6, x7, x8⟩ := rq_cells H7.out.1.x
   have HM12 := refMayOp_any o _ _ _ W7 (HA.out _ H7.out.1.bel).1 HLO.out
   rw [HMO.out] at HM12
   have HM12 := Lib.hid HM12
   go_upto_region 7 with (go_at_call 12; (with_reducible refine HM12.out.mono ?_); clear HM12 x0 x1 x2 x3 x4 x5 x6 x7 x8; rintro e w8 ⟨rfl, hb8⟩; dsimp only; have H8 := Lib.hid (And.intro (H7.out.1.on hb8) (And.intro (H7.out.2.1.on hb8) (And.intro (H7.out.2.2.1.on hb8) (And.intro (H7.out.2.2.2.1.on hb8) (And.intro (H7.out.2.2.2.2.1.on hb8) (H7.out.2.2.2.2.2.trans (hb8.mono H7.out.2.2.2.2.2.size))))))); clear hb8)
   have HL3 := Lib.hid (rq_row H8.out.1.x)
   have HL4 := Lib.hid (rq_row H8.out.1.y)
   have HL9 := Lib.hid (rq_row H8.out.2.2.2.1)
   have HL11 := Lib.hid (rq_row H8.out.2.2.2.2.1)
   have hat : ∀ d os, OpAt (grow (redrawn w8 d) os) o _ _ _ ∧ OpAt (grow (redrawn w8 d) os) p _ _ _ := fun d os => HA.out _ (H8.out.1.bel.trans ((below_regrown w8 d os).mono H8.out.1.bel.size))
   obtain ⟨s, hs⟩ : ∃ s, s = sameRq c1 n1 o c2 n2 p := ⟨_, rfl⟩
   have c30 : ∀ d os, _ := fun d os => Calls.regrown_of (mayRq c1 n1 o _ _ _ (grow (redrawn w8 d) os) (hat d os).1 HLO.out)
   have c31 : ∀ d os, _ := fun d os => Calls.regrown_of (sameRqP_any c1 n1 c2 n2 o p _ _ _ _ _ _ (grow (redrawn w8 d) os) (hat d os).1 (hat d os).2 HLO.out HLP.out)
   have c32 : ∀ d os, _ := fun d os => Calls.regrown_of (sameRqR_any c1 n1 c2 n2 o p _ _ _ _ _ _ (grow (redrawn w8 d) os) (hat d os).1 (hat d os).2 HLO.out HLP.out)
   have c32b : ∀ d os, _ := fun d os => Calls.regrown_of (sameRqR_any c0 n0 c0 n0 ob ob _ _ _ _ _ _ (grow (redrawn w8 d) os) (H8.out.2.2.1.on (below_regrown w8 d os)) (H8.out.2.1.on (below_regrown w8 d os)) HYL.out HYL.out)
   have c16 : ∀ (i : Int) d os, _ := fun i d os => Calls.regrown_of (Calls_same (numL_any i (grow (redrawn w8 d) os)))
   rw [HMO.out] at c30
   rw [← hs] at c31 c32
   rw [sameRq_refl] at c32b
   have hss : (s != s) = false := by simp
   clear hat hs
   refine wp_region_quiet_below (by kernel_rfl) (by kernel_rfl) ?_
   repeat
     first
       | (refine wpQuiet_row 57 (.tmp 3) rfl ⟨Bx, 0, none⟩ _ (by kernel_rfl) rfl HL3.out ?_)
       | (refine wpQuiet_row 57 (.tmp 4) rfl ⟨By, 0, none⟩ _ (by kernel_rfl) rfl HL4.out ?_)
       | (refine wpQuiet_row 57 (.tmp 9) rfl ⟨B9, 0, none⟩ _ (by kernel_rfl) rfl HL9.out ?_)
       | (refine wpQuiet_row 57 (.tmp 11) rfl ⟨B11, 0, none⟩ _ (by kernel_rfl) rfl HL11.out ?_)
       | (with_reducible refine wpQuiet_step (fun K hK => ?_)
          go_simp
          first
            | (with_reducible refine hK _ ?_; clear hK K)
            | (rw [if_neg (by first | decide | (intro h; cases h))]; with_reducible refine hK _ ?_; clear hK K)
            | (apply Exists.intro; refine ⟨fun _ => ?_, hK _ ?_⟩; (first | (with_reducible exact c30 _ _) | (with_reducible exact c31 _ _) | (with_reducible exact c32 _ _) | (with_reducible exact c32b _ _) | (with_reducible exact c16 _ _ _)); clear hK K))
   with_reducible refine wpQuiet_nil ?_
   rintro _ ⟨⟨dq, osq⟩, rfl⟩
   have hq := below_regrown w8 dq osq
   have H9 := Lib.hid (And.intro (H8.out.1.on hq) (H8.out.2.2.2.2.2.trans (hq.mono H8.out.2.2.2.2.2.size)))
   clear hq c30 c31 c32 c32b c16 HL3 HL4 HL9 HL11 H8 H7 hss
   generalize grow (redrawn w8 dq) osq = w9 at H9 ⊢
   go_upto_region 10 with (first
     | (refine wpList_load_row rfl 57 _ rfl Bx rfl 57 (rqCs c1 n1 o (.slice Aa na ca0) (.slice Ap np cp0) (.slice Ac nc cc0)) (0, 0) _ H9.out.1.x rfl rfl (by kernel_rfl) ?_)
     | (refine wpList_store_rowTo rfl 57 _ _ rfl rfl w9.heap.size (rqCs c1 n1 o (.slice Aa na ca0) (.slice Ap np cp0) (.slice Ac nc cc0)) rfl rfl 57 zQ (Blk.new w9 57 zQ) (by kernel_rfl) rfl (by kernel_rfl) ?_))
   have h10 : LO w9.heap.size (rqCs c1 n1 o (.slice Aa na ca0) (.slice Ap np cp0) (.slice Ac nc cc0)) w9 ((w9.alloc (.cells zQ 57)).setRow w9.heap.size (rqCs c1 n1 o (.slice Aa na ca0) (.slice Ap np cp0) (.slice Ac nc cc0))) := ⟨below_setRow ((Below.refl _ _).alloc (Nat.le_refl _) (.cells zQ 57)) (Nat.le_refl _) _, (Blk.new w9 57 zQ).row _, Nat.le_refl _⟩
   obtain ⟨B14, hB14⟩ : ∃ b, b = w9.heap.size := ⟨_, rfl⟩
   have h10 : LO B14 (rqCs c1 n1 o (.slice Aa na ca0) (.slice Ap np cp0) (.slice Ac nc cc0)) w9 ((w9.alloc (.cells zQ 57)).setRow B14 (rqCs c1 n1 o (.slice Aa na ca0) (.slice Ap np cp0) (.slice Ac nc cc0))) := by rw [hB14]; exact h10
   rw [← hB14]
   have HB14 := Lib.hid hB14
   clear hB14
   generalize (w9.alloc (.cells zQ 57)).setRow B14 (rqCs c1 n1 o (.slice Aa na ca0) (.slice Ap np cp0) (.slice Ac nc cc0)) = w10 at h10 ⊢
   have H10 := Lib.hid h10
   clear h10
   have HW : Hid (∀ W, Below w9.heap.size w9 W → LQ w Bx By (rqCs c1 n1 o (.slice Aa na ca0) (.slice Ap np cp0) (.slice Ac nc cc0)) (rqCs c2 n2 p (.slice Ba ma da0) (.slice Bp mp dp0) (.slice Bc mc dc0)) W) := Lib.hid fun W hb => H9.out.1.on hb
   have HRD5 : Hid (∀ W, Below w.heap.size w W → nc = o.cur.length ∧ RdK kB W W.heap.size Ac o.cur ∧ (Ac = none → cc0 = 0)) := Lib.hid fun W hb => by
     obtain ⟨A', c', e, h0, h1⟩ := (HA.out W hb).1.c
     injection e with e1 e2 e3
     subst e1 e2 e3
     exact ⟨rfl, rd_k h1, h0.1⟩
   have HRD4 : Hid (∀ W, Below w.heap.size w W → np = o.parts.length ∧ RdK kStr W W.heap.size Ap o.parts ∧ (Ap = none → cp0 = 0)) := Lib.hid fun W hb => by
     obtain ⟨A', c', e, h0, h1⟩ := (HA.out W hb).1.p
     injection e with e1 e2 e3
     subst e1 e2 e3
     exact ⟨rfl, h1, h0.1⟩
   have HRD3 : Hid (∀ W, Below w.heap.size w W → na = o.attrs.length ∧ YtcjiofhjognklaaGreat.RdK kA W W.heap.size Aa o.attrs ∧ (Aa = none → ca0 = 0)) := Lib.hid fun W hb => by
     obtain ⟨A', c', e, h0, h1⟩ := (HA.out W hb).1.a
     injection e with e1 e2 e3
     subst e1 e2 e3
     exact ⟨rfl, h1, h0.1⟩
   have HLN := Lib.hid (And.intro (bigO_cur HBO.out) (And.intro HLO.out.lp HLO.out.la))
   obtain ⟨x0, x1, x2, x3, x4, x5, x6, x7, x8⟩ := rq_cells (HW.out w10 H10.out.bel).x
   have z7 := H10.out.k14.frozen 7
   go_upto_region 11 with (at_builtin; refine wpList_appT kB rfl _ _ rfl o.cur (HRD5.out w10 (HW.out w10 H10.out.bel).bel).1 rfl (nil_row kB w10 w9.heap.size) rfl (HRD5.out w10 (HW.out w10 H10.out.bel).bel).2.1 (HRD5.out w10 (HW.out w10 H10.out.bel).bel).2.2 (by have h := HLN.out.1; simp only [List.length_nil]; omega) H10.out.bel.size ?_; intro v5 w11 hr5 hg5; have hb11 := grown_nil hg5; clear x0 x1 x2 x3 x4 x5 x6 x7 x8 z7 hg5; have hl11 := H10.out.on hb11; obtain ⟨A5, c5, n5, HN5, rfl, _, _⟩ := hr5.rdn; have H11 := Lib.hid (And.intro hl11 hr5); clear hb11 hl11 hr5; have k7 : w11.cell? ⟨B14, 7, none⟩ = some (.slice Ac nc cc0) := H11.out.1.k14.cell 7; have z7 := H11.out.1.k14.frozen 7)
   clear k7 z7
   have h12 : LO B14 (rqCs c1 n1 o (.slice Aa na ca0) (.slice Ap np cp0) (.slice A5 n5 c5)) w9 (w11.setCell ⟨B14, 7, none⟩ (.slice A5 n5 c5)) := H11.out.1.st 7 (.slice A5 n5 c5)
   have r12 : RowK kB (w11.setCell ⟨B14, 7, none⟩ (.slice A5 n5 c5)) w9.heap.size (.slice A5 n5 c5) o.cur := RowK.setT H11.out.2 H11.out.1.k14 (by decide)
   generalize w11.setCell ⟨B14, 7, none⟩ (.slice A5 n5 c5) = w12 at h12 r12 ⊢
   have H12 := Lib.hid (And.intro h12 r12)
   clear h12 r12 H11 H10
   obtain ⟨x0, x1, x2, x3, x4, x5, x6, x7, x8⟩ := rq_cells (HW.out w12 H12.out.1.bel).x
   go_upto_region 12 with (at_builtin; refine wpList_appT kStr rfl _ _ rfl o.parts (HRD4.out w12 (HW.out w12 H12.out.1.bel).bel).1 rfl (nil_row kStr w12 w9.heap.size) rfl (HRD4.out w12 (HW.out w12 H12.out.1.bel).bel).2.1 (HRD4.out w12 (HW.out w12 H12.out.1.bel).bel).2.2 (by have h := HLN.out.2.1; simp only [List.length_nil]; omega) H12.out.1.bel.size ?_; intro v4 w13 hr4 hg4; have hb13 := grown_nil hg4; clear x0 x1 x2 x3 x4 x5 x6 x7 x8 hg4; have hl13 := H12.out.1.on hb13; obtain ⟨A4, c4, n4, HN4, rfl, _, _⟩ := hr4.rdn; have H13 := Lib.hid (And.intro hl13 (And.intro hr4 (RowK.onT H12.out.2 hb13))); clear hb13 hl13 hr4; have k6 : w13.cell? ⟨B14, 6, none⟩ = some (.slice Ap np cp0) := H13.out.1.k14.cell 6; have z6 := H13.out.1.k14.frozen 6)
   clear k6 z6
   have h14 : LO B14 (rqCs c1 n1 o (.slice Aa na ca0) (.slice A4 n4 c4) (.slice A5 n5 c5)) w9 (w13.setCell ⟨B14, 6, none⟩ (.slice A4 n4 c4)) := H13.out.1.st 6 (.slice A4 n4 c4)
   have r14 : RowK kStr (w13.setCell ⟨B14, 6, none⟩ (.slice A4 n4 c4)) w9.heap.size (.slice A4 n4 c4) o.parts := RowK.setT H13.out.2.1 H13.out.1.k14 (by decide)
   have r14b : RowK kB (w13.setCell ⟨B14, 6, none⟩ (.slice A4 n4 c4)) w9.heap.size (.slice A5 n5 c5) o.cur := RowK.setT H13.out.2.2 H13.out.1.k14 (by decide)
   generalize w13.setCell ⟨B14, 6, none⟩ (.slice A4 n4 c4) = w14 at h14 r14 r14b ⊢
   have H14 := Lib.hid (And.intro h14 (And.intro r14 r14b))
   clear h14 r14 r14b H13 H12
   obtain ⟨x0, x1, x2, x3, x4, x5, x6, x7, x8⟩ := rq_cells (HW.out w14 H14.out.1.bel).x
   go_upto_region 13 with (at_builtin; refine YtcjiofhjognklaaGreat.wpList_appN kA rfl _ _ rfl o.attrs (HRD3.out w14 (HW.out w14 H14.out.1.bel).bel).1 rfl (YtcjiofhjognklaaGreat.nil_row kA w14 w9.heap.size) rfl (HRD3.out w14 (HW.out w14 H14.out.1.bel).bel).2.1 (HRD3.out w14 (HW.out w14 H14.out.1.bel).bel).2.2 (by have h := HLN.out.2.2; simp only [List.length_nil]; omega) H14.out.1.bel.size ?_; intro v3 w15 hr3 hg3; have hb15 := grown_nil hg3; clear x0 x1 x2 x3 x4 x5 x6 x7 x8 hg3; have hl15 := H14.out.1.on hb15; obtain ⟨A3, c3, n3, HN3, rfl, _, _⟩ := hr3.rdn; have H15 := Lib.hid (And.intro hl15 (And.intro hr3 (And.intro (RowK.onT H14.out.2.1 hb15) (RowK.onT H14.out.2.2 hb15)))); clear hb15 hl15 hr3; have k5 : w15.cell? ⟨B14, 5, none⟩ = some (.slice Aa na ca0) := H15.out.1.k14.cell 5; have z5 := H15.out.1.k14.frozen 5)
   clear k5 z5
   have h16 : LO B14 (rqCs c1 n1 o (.slice A3 n3 c3) (.slice A4 n4 c4) (.slice A5 n5 c5)) w9 (w15.setCell ⟨B14, 5, none⟩ (.slice A3 n3 c3)) := H15.out.1.st 5 (.slice A3 n3 c3)
   have r16 : OpOwn (w15.setCell ⟨B14, 5, none⟩ (.slice A3 n3 c3)) w9.heap.size o (.slice A3 n3 c3) (.slice A4 n4 c4) (.slice A5 n5 c5) := ⟨rowA_set H15.out.2.1 H15.out.1.k14 (by decide), RowK.setT H15.out.2.2.1 H15.out.1.k14 (by decide), RowK.setT H15.out.2.2.2 H15.out.1.k14 (by decide)⟩
   generalize w15.setCell ⟨B14, 5, none⟩ (.slice A3 n3 c3) = w16 at h16 r16 ⊢
   have H16 := Lib.hid (And.intro h16 r16)
   clear h16 r16 H15 H14
   have HCP := Lib.hid (copyRq c1 n1 o _ _ _ w16 H16.out.2.at HLO.out (Nat.le_trans HLN.out.1 (by decide)))
   go_upto_region 14 with (first
     | (refine wpList_load_row rfl 57 _ rfl B14 rfl 57 (rqCs c1 n1 o (.slice A3 n3 c3) (.slice A4 n4 c4) (.slice A5 n5 c5)) (0, 0) _ H16.out.1.k14 rfl rfl (by kernel_rfl) ?_)
     | (go_at_call 33; (with_reducible refine HCP.out.mono ?_); clear HCP; rintro e w17 ⟨Da, dn, dc, Dp, dpn, dpc, Dc, dcn, dcc, rfl, h17, hb17⟩; dsimp only; have H17 := Lib.hid (And.intro h17 hb17); clear h17 hb17)
     | (refine wpList_store_rowTo rfl 57 _ _ rfl rfl w17.heap.size (rqCs c1 n1 o (.slice Da dn dc) (.slice Dp dpn dpc) (.slice Dc dcn dcc)) rfl rfl 57 zQ (Blk.new w17 57 zQ) (by kernel_rfl) rfl (by kernel_rfl) ?_))
   have hb18 : Below w17.heap.size w17 ((w17.alloc (.cells zQ 57)).setRow w17.heap.size (rqCs c1 n1 o (.slice Da dn dc) (.slice Dp dpn dpc) (.slice Dc dcn dcc))) := below_setRow ((Below.refl _ _).alloc (Nat.le_refl _) (.cells zQ 57)) (Nat.le_refl _) _
   have k15 : Blk ((w17.alloc (.cells zQ 57)).setRow w17.heap.size (rqCs c1 n1 o (.slice Da dn dc) (.slice Dp dpn dpc) (.slice Dc dcn dcc))) w17.heap.size 57 (rqCs c1 n1 o (.slice Da dn dc) (.slice Dp dpn dpc) (.slice Dc dcn dcc)) := (Blk.new w17 57 zQ).row _
   have h18 : LI w9.heap.size w16.heap.size B14 w9 ((w17.alloc (.cells zQ 57)).setRow w17.heap.size (rqCs c1 n1 o (.slice Da dn dc) (.slice Dp dpn dpc) (.slice Dc dcn dcc))) (rqCs c1 n1 o (.slice A3 n3 c3) (.slice A4 n4 c4) (.slice A5 n5 c5)) (.slice A3 n3 c3) (.slice A4 n4 c4) (.slice A5 n5 c5) n3 n4 n5 ((w17.alloc (.cells zQ 57)).setRow w17.heap.size (rqCs c1 n1 o (.slice Da dn dc) (.slice Dp dpn dpc) (.slice Dc dcn dcc))) := by
     have hbb := H17.out.2.trans (hb18.mono H17.out.2.size)
     have hlo := H16.out.1.on hbb
     have a3 := rowA_on H16.out.2.a hbb
     have a4 := RowK.onT H16.out.2.p hbb
     have a5 := RowK.onT H16.out.2.c hbb
     exact ⟨hlo.bel, hlo.k14, fun _ _ => rfl, rfl, ⟨_, by rw [HN3.out]; exact HN3.out ▸ a3⟩, ⟨_, by rw [HN4.out]; exact HN4.out ▸ a4⟩, by rw [HN5.out]; exact row_bytes (HN5.out ▸ a5), fun g e => (own_at H16.out.2.a e).2.1, fun g e => (own_atT H16.out.2.p e).2.1, fun g e => (own_atT H16.out.2.c e).2.1⟩
   have o18 : OpOwn ((w17.alloc (.cells zQ 57)).setRow w17.heap.size (rqCs c1 n1 o (.slice Da dn dc) (.slice Dp dpn dpc) (.slice Dc dcn dcc))) w16.heap.size o (.slice Da dn dc) (.slice Dp dpn dpc) (.slice Dc dcn dcc) := H17.out.1.keep fun k h1 h2 => hb18.block k h2
   obtain ⟨B15, hB15⟩ : ∃ b, b = w17.heap.size := ⟨_, rfl⟩
   have l15 : w16.heap.size ≤ B15 := by rw [hB15]; exact H17.out.2.size
   rw [← hB15] at h18 o18 k15 ⊢
   generalize (w17.alloc (.cells zQ 57)).setRow B15 (rqCs c1 n1 o (.slice Da dn dc) (.slice Dp dpn dpc) (.slice Dc dcn dcc)) = w18 at h18 o18 k15 ⊢
   have HI := Lib.hid h18
   have HO := Lib.hid (And.intro o18 (And.intro k15 l15))
   have hs5 : n5 ≤ 9000 := by have h := HN5.out; rw [List.nil_append] at h; have := HLN.out.1; omega
   have hs4 : n4 ≤ 1000000 := by have h := HN4.out; rw [List.nil_append] at h; have := HLN.out.2.1; omega
   have hs3 : n3 ≤ 1000000 := by have h := HN3.out; rw [List.nil_append] at h; have := HLN.out.2.2; omega
   clear hb18 h18 o18 k15 l15 hB15 H17 H16 HNA HNP HNC HN3 HN4 HN5 HRD3 HRD4 HRD5 HLN HOF HRF HYL HB14
   go_wp2_with fail
   go_loopw [16] (fun s wr => ∃ k : Nat, s = .int .i64 k ∧ k ≤ n5 ∧ Hid (LI w9.heap.size w16.heap.size B14 w9 w18 (rqCs c1 n1 o (.slice A3 n3 c3) (.slice A4 n4 c4) (.slice A5 n5 c5)) (.slice A3 n3 c3) (.slice A4 n4 c4) (.slice A5 n5 c5) n3 n4 n5 wr)) (fun s _ => n5 - (intOf s).toNat)
   case atStart => exact ⟨0, rfl, Nat.zero_le _, HI⟩
   case round =>
     obtain ⟨k, rfl, hk, HI1⟩ := hrel
     obtain ⟨wr1, hwr⟩ : ∃ W, W = wr := ⟨_, rfl⟩
     rw [← hwr] at HI1 ⊢
     clear hwr
     by_cases hlt : k < n5
     · obtain ⟨g, rfl, ⟨y, hy⟩, hz, hst⟩ := HI1.out.b5 k hlt
       have HST := Lib.hid hst
       have k7 : wr1.cell? ⟨B14, 7, none⟩ = some (.slice (some ⟨g, 0, none⟩) n5 c5) := HI1.out.k14.cell 7
       have k7d : wr1.drew.cell? ⟨B14, 7, none⟩ = some (.slice (some ⟨g, 0, none⟩) n5 c5) := k7
       have hyd : wr1.drew.cell? ⟨g, k, none⟩ = some (.int .u8 y) := hy
       have hzd : wr1.drew.frozen? ⟨g, k, none⟩ = false := hz
       clear hst
       go_wp2_with fail
       go_region_law fail
       all_goals
         go_wp2_with fail
         go_roundw
         case rel => exact ⟨k + 1, by go_num, by omega, Lib.hid (HST.out _).drew⟩
         case measure => simp [intOf]; omega
     · have hkn : n5 = k := by omega
       subst hkn
       have k7 := HI1.out.k14.cell 7
       simp only [List.getElem?_toArray, List.getElem?_cons_zero, List.getElem?_cons_succ] at k7
       go_upto_region 19 with fail
       clear k7
       go_loopw [17] (fun s wr => ∃ k : Nat, s = .int .i64 k ∧ k ≤ n4 ∧ Hid (LI w9.heap.size w16.heap.size B14 w9 w18 (rqCs c1 n1 o (.slice A3 n3 c3) (.slice A4 n4 c4) (.slice A5 n5 c5)) (.slice A3 n3 c3) (.slice A4 n4 c4) (.slice A5 n5 c5) n3 n4 n5 wr)) (fun s _ => n4 - (intOf s).toNat)
       case atStart => exact ⟨0, rfl, Nat.zero_le _, HI1⟩
       case round =>
         obtain ⟨k, rfl, hk, HI2⟩ := hrel
         obtain ⟨wr2, hwr⟩ : ∃ W, W = wr := ⟨_, rfl⟩
         rw [← hwr] at HI2 ⊢
         clear hwr
         by_cases hlt : k < n4
         · obtain ⟨g, rfl, ⟨u, hy⟩, hz, hst⟩ := HI2.out.b4 k hlt
           have HST := Lib.hid hst
           have k6 : wr2.cell? ⟨B14, 6, none⟩ = some (.slice (some ⟨g, 0, none⟩) n4 c4) := HI2.out.k14.cell 6
           clear hst
           go_wp2_with fail
           go_roundw
           case rel => exact ⟨k + 1, by go_num, by omega, Lib.hid (HST.out _)⟩
           case measure => simp [intOf]; omega
         · have hkn : n4 = k := by omega
           subst hkn
           have k6 := HI2.out.k14.cell 6
           simp only [List.getElem?_toArray, List.getElem?_cons_zero, List.getElem?_cons_succ] at k6
           go_upto_region 23 with fail
           clear k6
           go_loopw [18] (fun s wr => ∃ k : Nat, s = .int .i64 k ∧ k ≤ n3 ∧ Hid (LI w9.heap.size w16.heap.size B14 w9 w18 (rqCs c1 n1 o (.slice A3 n3 c3) (.slice A4 n4 c4) (.slice A5 n5 c5)) (.slice A3 n3 c3) (.slice A4 n4 c4) (.slice A5 n5 c5) n3 n4 n5 wr)) (fun s _ => n3 - (intOf s).toNat)
           case atStart => exact ⟨0, rfl, Nat.zero_le _, HI2⟩
           case round =>
             obtain ⟨k, rfl, hk, HI3⟩ := hrel
             obtain ⟨wr3, hwr⟩ : ∃ W, W = wr := ⟨_, rfl⟩
             rw [← hwr] at HI3 ⊢
             clear hwr
             by_cases hlt : k < n3
             · obtain ⟨g, rfl, ⟨u, hy⟩, hz, hst⟩ := HI3.out.b3 k hlt
               have HST := Lib.hid hst
               have k5 : wr3.cell? ⟨B14, 5, none⟩ = some (.slice (some ⟨g, 0, none⟩) n3 c3) := HI3.out.k14.cell 5
               clear hst
               go_wp2_with fail
               go_roundw
               case rel => exact ⟨k + 1, by go_num, by omega, Lib.hid (HST.out _)⟩
               case measure => simp [intOf]; omega
             · have hkn : n3 = k := by omega
               subst hkn
               have k5 := HI3.out.k14.cell 5
               simp only [List.getElem?_toArray, List.getElem?_cons_zero, List.getElem?_cons_succ] at k5
               go_upto_region 26 with fail
               clear k5
               have hup := HO.out.1.up HI3.out.up
               have hk15 : Blk wr3 B15 57 (rqCs c1 n1 o (.slice Da dn dc) (.slice Dp dpn dpc) (.slice Dc dcn dcc)) := (HI3.out.up B15 HO.out.2.2).trans HO.out.2.1
               have HQ := Lib.hid (And.intro (HW.out wr3 HI3.out.bel) (And.intro hup hk15))
               clear hup hk15
               have HSM := Lib.hid (sameRqR_any c1 n1 c1 n1 o o _ _ _ _ _ _ wr3 HQ.out.2.1.at (HA.out wr3 HQ.out.1.bel).1 HLO.out HLO.out)
               rw [sameRq_refl] at HSM
               go_upto_region 28 with (first
                 | (refine wpList_load_row rfl 57 _ rfl B15 rfl 57 (rqCs c1 n1 o (.slice Da dn dc) (.slice Dp dpn dpc) (.slice Dc dcn dcc)) (0, 0) _ HQ.out.2.2 rfl rfl (by kernel_rfl) ?_)
                 | (refine wpList_load_row rfl 57 _ rfl Bx rfl 57 (rqCs c1 n1 o (.slice Aa na ca0) (.slice Ap np cp0) (.slice Ac nc cc0)) (0, 0) _ HQ.out.1.x rfl rfl (by kernel_rfl) ?_)
                 | (go_at_call 32; (with_reducible refine HSM.out.mono ?_); clear HSM; rintro e w20 ⟨rfl, hb20⟩; dsimp only; have H20 := Lib.hid (And.intro (HQ.out.1.on hb20) (HI3.out.bel.trans (hb20.mono HI3.out.bel.size))); clear hb20))
               have HKN := Lib.hid (known_any w20)
               go_wp2_with (first
                 | (go_at_call 16; (with_reducible refine (numL_any _ _).mono ?_); rintro e wn ⟨rfl, rfl⟩; dsimp only)
                 | (go_at_call 8; (with_reducible refine HKN.out.mono ?_); clear HKN; rintro e w21 ⟨rfl, hb21⟩; dsimp only; have H21 := Lib.hid (H20.out.1.on hb21); clear hb21))
               go_ret
               exact ⟨rfl, H21.out.bel⟩
end Go.Proofs.YtcjiofhjognklaaGreat.Tlv
