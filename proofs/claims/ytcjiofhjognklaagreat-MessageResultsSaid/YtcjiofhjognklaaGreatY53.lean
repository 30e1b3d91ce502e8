/- The law on results: its walk. -/
import Derived.Test.YtcjiofhjognklaaGreatY52
namespace Go.Proofs.YtcjiofhjognklaaGreat.Tlv
open Go.RowKit Go.Lib Go.Sort
set_option maxRecDepth 100000
set_option linter.unusedVariables false
set_option linter.unusedSimpArgs false
set_option maxHeartbeats 64000000 in
theorem lawRs_m (r s rb : Res) (mb : Bool) (ey : Int) (bk : Bool) (va vc xa xc : Value) (A : Option Addr) (c n : Nat) (w : World) (ho : ResAt w r va vc) (hp : ResAt w s xa xc) (hlo : LimR r) (hlp : LimR s) (h0o : LimR0 r) (h0p : LimR0 s) (hbo : wideR r = false) (hbp : wideR s = false)
   (hn : n ≤ 20000) (hmb : mayR r = mb)
   (hof : ∀ W, Below w.heap.size w W → Calls Tryz.prog 21 #[.slice A n c] W fun e w' => ∃ Aa na ca Ac nc cc, e = .returned (.tuple #[rsVal rb.k rb.y (.slice Aa na ca) (.slice Ac nc cc), .int .i64 ey]) ∧ ResAt w' rb (.slice Aa na ca) (.slice Ac nc cc) ∧ LimR rb ∧ Below W.heap.size W w')
   (hrf : ∀ W, Below w.heap.size w W → Calls Tryz.prog 22 #[.slice A n c] W fun e w' => ∃ Aa na ca Ac nc cc, e = .returned (.tuple #[rsVal rb.k rb.y (.slice Aa na ca) (.slice Ac nc cc), .bool bk]) ∧ ResAt w' rb (.slice Aa na ca) (.slice Ac nc cc) ∧ LimR rb ∧ Below W.heap.size W w') (hxy : (ey = 0 ∧ bk = true) ∨ (ey = 4 ∧ bk = false)) :
   Calls Tryz.prog 4 #[rsVal r.k r.y va vc, rsVal s.k s.y xa xc, .slice A n c] w (KnownOut w) := by
 have HA := Lib.hid fun (W : World) (hb : Below w.heap.size w W) => And.intro (ho.on hb) (hp.on hb)
 have HLO := Lib.hid (And.intro hlo h0o)
 have HLP := Lib.hid (And.intro hlp h0p)
 obtain ⟨Aa, ca0, na, rfl, HNA⟩ := ho.e.len
 obtain ⟨Ac, cc0, nc, rfl, HNC, _⟩ := ho.c.full
 obtain ⟨Ba, da0, ma, rfl, _⟩ := hp.e.len
 obtain ⟨Bc, dc0, mc, rfl, _⟩ := hp.c.len
 have hb0 : Below w.heap.size w ((w.alloc (.cells (rsCs r.k r.y (.slice Aa na ca0) (.slice Ac nc cc0)) 43)).alloc (.cells (rsCs s.k s.y (.slice Ba ma da0) (.slice Bc mc dc0)) 43)) := ((Below.refl _ _).alloc (Nat.le_refl _) _).alloc (by simp) _
 have kx := (Blk.new w 43 (rsCs r.k r.y (.slice Aa na ca0) (.slice Ac nc cc0))).alloc (.cells (rsCs s.k s.y (.slice Ba ma da0) (.slice Bc mc dc0)) 43)
 have ky := Blk.new (w.alloc (.cells (rsCs r.k r.y (.slice Aa na ca0) (.slice Ac nc cc0)) 43)) 43 (rsCs s.k s.y (.slice Ba ma da0) (.slice Bc mc dc0))
 rw [World.size_alloc] at ky
 obtain ⟨Bx, hBx⟩ : ∃ b, b = w.heap.size := ⟨_, rfl⟩
 obtain ⟨By, hBy⟩ : ∃ b, b = w.heap.size + 1 := ⟨_, rfl⟩
 have H0 : Hid (LP w Bx By (rsCs r.k r.y (.slice Aa na ca0) (.slice Ac nc cc0)) (rsCs s.k s.y (.slice Ba ma da0) (.slice Bc mc dc0)) ((w.alloc (.cells (rsCs r.k r.y (.slice Aa na ca0) (.slice Ac nc cc0)) 43)).alloc (.cells (rsCs s.k s.y (.slice Ba ma da0) (.slice Bc mc dc0)) 43))) := Lib.hid ⟨hb0, hBx ▸ kx, hBy ▸ ky⟩
 clear hb0 kx ky ho hp hlo hlp h0o h0p
 have HBO := Lib.hid hbo
 have HBP := Lib.hid hbp
 have HMB := Lib.hid hmb
 have HOF := Lib.hid hof
 have HRF := Lib.hid hrf
 clear hof hrf hbo hbp hmb
 rcases hxy with ⟨rfl, rfl⟩ | ⟨rfl, rfl⟩
 all_goals
   go_enter Tryz.func4, Tryz.ntmps4
   go_upto_region 1 with fail
   rw [← hBy, ← hBx]
   generalize (w.alloc (.cells (rsCs r.k r.y (.slice Aa na ca0) (.slice Ac nc cc0)) 43)).alloc (.cells (rsCs s.k s.y (.slice Ba ma da0) (.slice Bc mc dc0)) 43) = W0 at H0 ⊢
   clear hBx hBy
   obtain ⟨x0, x1, x2, x3⟩ := rs_cells H0.out.x
   obtain ⟨y0, y1, y2, y3⟩ := rs_cells H0.out.y
   have HB1 := wide_any r _ _ W0 (HA.out _ H0.out.bel).1 HLO.out.2
   rw [HBO.out] at HB1
   have HB1 := Lib.hid HB1
   have hn1 : ¬ (20000 : Int) < (n : Int) := by omega
   go_upto_region 3 with (first
     | (go_at_call 18; (with_reducible refine HB1.out.mono ?_); clear HB1 x0 x1 x2 x3 y0 y1 y2 y3; rintro e w1 ⟨rfl, hb1⟩; dsimp only; have H1 := Lib.hid (H0.out.on hb1); clear hb1; obtain ⟨y0, y1, y2, y3⟩ := rs_cells H1.out.y; have HB2 : Hid (Calls Tryz.prog 18 #[rsVal s.k s.y (.slice Ba ma da0) (.slice Bc mc dc0)] w1 fun e w' => e = .returned (.bool false) ∧ Below w1.heap.size w1 w') := Lib.hid (by have h := wide_any s _ _ w1 (HA.out _ H1.out.bel).2 HLP.out.2; rw [HBP.out] at h; exact h))
     | (go_at_call 18; (with_reducible refine HB2.out.mono ?_); clear HB2 y0 y1 y2 y3; rintro e w2 ⟨rfl, hb2⟩; dsimp only; have H2 := Lib.hid (H1.out.on hb2); clear hb2))
   clear hn1 H1 H0
   have HOB := Lib.hid (resBytes_one r _ _ w2 (HA.out _ H2.out.bel).1 HLO.out.1 (wide_fit HBO.out) mb HMB.out)
   go_upto_region 4 with (first
     | (refine wpList_load_row rfl 43 _ rfl Bx rfl 43 (rsCs r.k r.y (.slice Aa na ca0) (.slice Ac nc cc0)) (0, 0) _ H2.out.x rfl rfl (by kernel_rfl) ?_)
     | (go_at_call 19; (with_reducible refine HOB.out.mono ?_); clear HOB; rintro e w3 ⟨Ax, nx, cx', qx, rfl, hx3, hb3⟩; dsimp only; have H3 := Lib.hid (H2.out.on hb3); have HRX := Lib.hid hx3; clear hb3 hx3))
   have HWB := Lib.hid (refResBytes_one r _ _ w3 (HA.out _ H3.out.bel).1 HLO.out.1 (wide_fit HBO.out) mb HMB.out)
   go_upto_region 5 with (first
     | (refine wpList_load_row rfl 43 _ rfl Bx rfl 43 (rsCs r.k r.y (.slice Aa na ca0) (.slice Ac nc cc0)) (0, 0) _ H3.out.x rfl rfl (by kernel_rfl) ?_)
     | (go_at_call 20; (with_reducible refine HWB.out.mono ?_); clear HWB; rintro e v3 ⟨Aw, nw, cw, rfl, hw3, hb3⟩; dsimp only; have H3b := Lib.hid (H3.out.on hb3); have HRW := Lib.hid (And.intro hw3 hb3); clear hb3 hw3))
   have HO1 := Lib.hid (HOF.out v3 H3b.out.bel)
   go_upto_region 6 with (first
     | (go_at_call 21; (with_reducible refine HO1.out.mono ?_); clear HO1; rintro e w4 ⟨Ya, yn, yc, Yc, cn, ccx, rfl, hy1, hy2, hb4⟩; dsimp only; have H4 := Lib.hid (And.intro (H3b.out.on hb4) (And.intro hy1 (And.intro hy2 hb4))); clear hy1 hy2 hb4)
     | (refine wpList_store_rowTo rfl 43 _ _ rfl rfl w4.heap.size (rsCs rb.k rb.y (.slice Ya yn yc) (.slice Yc cn ccx)) rfl rfl 43 zR (Blk.new w4 43 zR) (by kernel_rfl) rfl (by kernel_rfl) ?_))
   have hb5 : Below w4.heap.size w4 ((w4.alloc (.cells zR 43)).setRow w4.heap.size (rsCs rb.k rb.y (.slice Ya yn yc) (.slice Yc cn ccx))) := below_setRow ((Below.refl _ _).alloc (Nat.le_refl _) (.cells zR 43)) (Nat.le_refl _) _
   have kY : Blk ((w4.alloc (.cells zR 43)).setRow w4.heap.size (rsCs rb.k rb.y (.slice Ya yn yc) (.slice Yc cn ccx))) w4.heap.size 43 (rsCs rb.k rb.y (.slice Ya yn yc) (.slice Yc cn ccx)) := (Blk.new w4 43 zR).row _
   have h5 := And.intro (H4.out.1.on hb5) (And.intro (H4.out.2.1.on hb5) (And.intro kY (H4.out.2.2.2.trans (hb5.mono H4.out.2.2.2.size))))
   have HYL := Lib.hid H4.out.2.2.1
   obtain ⟨B9, hB9⟩ : ∃ b, b = w4.heap.size := ⟨_, rfl⟩
   rw [← hB9] at h5 ⊢
   clear hb5 kY hB9 H4
   generalize (w4.alloc (.cells zR 43)).setRow B9 (rsCs rb.k rb.y (.slice Ya yn yc) (.slice Yc cn ccx)) = W5 at h5 ⊢
   have H5 := Lib.hid h5
   clear h5
   have HO2 := Lib.hid (HRF.out W5 H5.out.1.bel)
   go_upto_region 7 with (first
     | (go_at_call 22; (with_reducible refine HO2.out.mono ?_); clear HO2; rintro e w6 ⟨Za, zn, zc, Zc, ccn, cccx, rfl, hz1, hz2, hb6⟩; dsimp only; have H6 := Lib.hid (And.intro (H5.out.1.on hb6) (And.intro hz1 (And.intro (H5.out.2.1.on hb6) (And.intro (H5.out.2.2.1.on hb6) (H5.out.2.2.2.trans (hb6.mono H5.out.2.2.2.size)))))); clear hz1 hz2 hb6)
     | (refine wpList_store_rowTo rfl 43 _ _ rfl rfl w6.heap.size (rsCs rb.k rb.y (.slice Za zn zc) (.slice Zc ccn cccx)) rfl rfl 43 zR (Blk.new w6 43 zR) (by kernel_rfl) rfl (by kernel_rfl) ?_))
   have hb7 : Below w6.heap.size w6 ((w6.alloc (.cells zR 43)).setRow w6.heap.size (rsCs rb.k rb.y (.slice Za zn zc) (.slice Zc ccn cccx))) := below_setRow ((Below.refl _ _).alloc (Nat.le_refl _) (.cells zR 43)) (Nat.le_refl _) _
   have kZ : Blk ((w6.alloc (.cells zR 43)).setRow w6.heap.size (rsCs rb.k rb.y (.slice Za zn zc) (.slice Zc ccn cccx))) w6.heap.size 43 (rsCs rb.k rb.y (.slice Za zn zc) (.slice Zc ccn cccx)) := (Blk.new w6 43 zR).row _
   have h8 := And.intro (H6.out.1.on hb7) (And.intro (H6.out.2.1.on hb7) (And.intro (H6.out.2.2.1.on hb7) (And.intro (H6.out.2.2.2.1.on hb7) (And.intro kZ (H6.out.2.2.2.2.trans (hb7.mono H6.out.2.2.2.2.size))))))
   obtain ⟨B11, hB11⟩ : ∃ b, b = w6.heap.size := ⟨_, rfl⟩
   rw [← hB11] at h8 ⊢
   clear hb7 kZ hB11 H6 H5
   generalize (w6.alloc (.cells zR 43)).setRow B11 (rsCs rb.k rb.y (.slice Za zn zc) (.slice Zc ccn cccx)) = w8 at h8 ⊢
   have H8 := Lib.hid h8
   clear h8
   have HL3 := Lib.hid (rs_row H8.out.1.x)
   have HL4 := Lib.hid (rs_row H8.out.1.y)
   have HL9 := Lib.hid (rs_row H8.out.2.2.2.1)
   have HL11 := Lib.hid (rs_row H8.out.2.2.2.2.1)
   have hat : ∀ d os, ResAt (grow (redrawn w8 d) os) r _ _ ∧ ResAt (grow (redrawn w8 d) os) s _ _ := fun d os => HA.out _ (H8.out.1.bel.trans ((below_regrown w8 d os).mono H8.out.1.bel.size))
   obtain ⟨q, hs⟩ : ∃ q, q = sameR r s := ⟨_, rfl⟩
   have c23 : ∀ d os, _ := fun d os => Calls.regrown_of (mayRes_any r _ _ (grow (redrawn w8 d) os) (hat d os).1 HLO.out.1 (wide_fit HBO.out) mb HMB.out)
   have c24 : ∀ d os, _ := fun d os => Calls.regrown_of (sameResP_any r s _ _ _ _ (grow (redrawn w8 d) os) (hat d os).1 (hat d os).2 HLO.out.1 HLP.out.1)
   have c25 : ∀ d os, _ := fun d os => Calls.regrown_of (sameResR_any r s _ _ _ _ (grow (redrawn w8 d) os) (hat d os).1 (hat d os).2 HLO.out.1 HLP.out.1)
   have c25b : ∀ d os, _ := fun d os => Calls.regrown_of (sameResR_any rb rb _ _ _ _ (grow (redrawn w8 d) os) (H8.out.2.2.1.on (below_regrown w8 d os)) (H8.out.2.1.on (below_regrown w8 d os)) HYL.out HYL.out)
   have c16 : ∀ (i : Int) d os, _ := fun i d os => Calls.regrown_of (Calls_same (numL_any i (grow (redrawn w8 d) os)))
   rw [← hs] at c24 c25
   rw [sameR_refl] at c25b
   have hss : (q != q) = false := by simp
   have hmm : (mb != mb) = false := by simp
   clear hat hs
   refine wp_region_quiet_below (by kernel_rfl) (by kernel_rfl) ?_
   repeat
     first
       | (refine wpQuiet_row 43 (.tmp 3) rfl ⟨Bx, 0, none⟩ _ (by kernel_rfl) rfl HL3.out ?_)
       | (refine wpQuiet_row 43 (.tmp 4) rfl ⟨By, 0, none⟩ _ (by kernel_rfl) rfl HL4.out ?_)
       | (refine wpQuiet_row 43 (.tmp 11) rfl ⟨B9, 0, none⟩ _ (by kernel_rfl) rfl HL9.out ?_)
       | (refine wpQuiet_row 43 (.tmp 13) rfl ⟨B11, 0, none⟩ _ (by kernel_rfl) rfl HL11.out ?_)
       | (with_reducible refine wpQuiet_step (fun K hK => ?_)
          go_simp
          first
            | (with_reducible refine hK _ ?_; clear hK K)
            | (rw [if_neg (by first | decide | (intro h; cases h))]; with_reducible refine hK _ ?_; clear hK K)
            | (apply Exists.intro; refine ⟨fun _ => ?_, hK _ ?_⟩; (first | (with_reducible exact c23 _ _) | (with_reducible exact c24 _ _) | (with_reducible exact c25 _ _) | (with_reducible exact c25b _ _) | (with_reducible exact c16 _ _ _)); clear hK K))
   with_reducible refine wpQuiet_nil ?_
   rintro _ ⟨⟨dq, osq⟩, rfl⟩
   have hq := below_regrown w8 dq osq
   have H9 := Lib.hid (And.intro (H8.out.1.on hq) (H8.out.2.2.2.2.2.trans (hq.mono H8.out.2.2.2.2.2.size)))
   clear hq c23 c24 c25 c25b c16 HL3 HL4 HL9 HL11 H8 hss hmm
   generalize grow (redrawn w8 dq) osq = w9 at H9 ⊢
   go_upto_region 10 with (first
     | (refine wpList_load_row rfl 43 _ rfl Bx rfl 43 (rsCs r.k r.y (.slice Aa na ca0) (.slice Ac nc cc0)) (0, 0) _ H9.out.1.x rfl rfl (by kernel_rfl) ?_)
     | (refine wpList_store_rowTo rfl 43 _ _ rfl rfl w9.heap.size (rsCs r.k r.y (.slice Aa na ca0) (.slice Ac nc cc0)) rfl rfl 43 zR (Blk.new w9 43 zR) (by kernel_rfl) rfl (by kernel_rfl) ?_))
   have h10 : LS w9.heap.size (rsCs r.k r.y (.slice Aa na ca0) (.slice Ac nc cc0)) w9 ((w9.alloc (.cells zR 43)).setRow w9.heap.size (rsCs r.k r.y (.slice Aa na ca0) (.slice Ac nc cc0))) := ⟨below_setRow ((Below.refl _ _).alloc (Nat.le_refl _) (.cells zR 43)) (Nat.le_refl _) _, (Blk.new w9 43 zR).row _, Nat.le_refl _⟩
   obtain ⟨B14, hB14⟩ : ∃ b, b = w9.heap.size := ⟨_, rfl⟩
   have h10 : LS B14 (rsCs r.k r.y (.slice Aa na ca0) (.slice Ac nc cc0)) w9 ((w9.alloc (.cells zR 43)).setRow B14 (rsCs r.k r.y (.slice Aa na ca0) (.slice Ac nc cc0))) := by rw [hB14]; exact h10
   rw [← hB14]
   clear hB14
   generalize (w9.alloc (.cells zR 43)).setRow B14 (rsCs r.k r.y (.slice Aa na ca0) (.slice Ac nc cc0)) = w10 at h10 ⊢
   have H10 := Lib.hid h10
   clear h10
   have HW : Hid (∀ W, Below w9.heap.size w9 W → LP w Bx By (rsCs r.k r.y (.slice Aa na ca0) (.slice Ac nc cc0)) (rsCs s.k s.y (.slice Ba ma da0) (.slice Bc mc dc0)) W) := Lib.hid fun W hb => H9.out.1.on hb
   have HRD5 : Hid (∀ W, Below w.heap.size w W → nc = r.cur.length ∧ RdK kB W W.heap.size Ac r.cur ∧ (Ac = none → cc0 = 0)) := Lib.hid fun W hb => by
     obtain ⟨A', c', e, h0, h1⟩ := (HA.out W hb).1.c
     injection e with e1 e2 e3
     subst e1 e2 e3
     exact ⟨rfl, rd_k h1, h0.1⟩
   have HLN := Lib.hid (wide_parts HBO.out).2.1
   obtain ⟨x0, x1, x2, x3⟩ := rs_cells (HW.out w10 H10.out.bel).x
   have z7 := H10.out.k14.frozen 3
   go_upto_region 11 with (at_builtin; refine wpList_appT kB rfl _ _ rfl r.cur (HRD5.out w10 (HW.out w10 H10.out.bel).bel).1 rfl (nil_row kB w10 w9.heap.size) rfl (HRD5.out w10 (HW.out w10 H10.out.bel).bel).2.1 (HRD5.out w10 (HW.out w10 H10.out.bel).bel).2.2 (by have h := HLN.out; simp only [List.length_nil]; omega) H10.out.bel.size ?_; intro v5 w11 hr5 hg5; have hb11 := grown_nil hg5; clear x0 x1 x2 x3 z7 hg5; have hl11 := H10.out.on hb11; obtain ⟨A5, c5, n5, HN5, rfl, _, _⟩ := hr5.rdn; have H11 := Lib.hid (And.intro hl11 hr5); clear hb11 hl11 hr5; have k7 : w11.cell? ⟨B14, 3, none⟩ = some (.slice Ac nc cc0) := H11.out.1.k14.cell 3; have z7 := H11.out.1.k14.frozen 3)
   clear k7 z7
   have h12 : LS B14 (rsCs r.k r.y (.slice Aa na ca0) (.slice A5 n5 c5)) w9 (w11.setCell ⟨B14, 3, none⟩ (.slice A5 n5 c5)) := H11.out.1.st 3 (.slice A5 n5 c5)
   have r12 : RowK kB (w11.setCell ⟨B14, 3, none⟩ (.slice A5 n5 c5)) w9.heap.size (.slice A5 n5 c5) r.cur := RowK.setT H11.out.2 H11.out.1.k14 (by decide)
   generalize w11.setCell ⟨B14, 3, none⟩ (.slice A5 n5 c5) = w16 at h12 r12 ⊢
   have H16 := Lib.hid (And.intro h12 r12)
   clear h12 r12 H11 H10
   have HCP := Lib.hid (copyRes r _ _ w16 ⟨(HA.out w16 (HW.out w16 H16.out.1.bel).bel).1.e, RowK.rdc2 H16.out.2⟩ HLO.out.1 (Nat.le_trans HLN.out (by decide)))
   go_upto_region 12 with (first
     | (refine wpList_load_row rfl 43 _ rfl B14 rfl 43 (rsCs r.k r.y (.slice Aa na ca0) (.slice A5 n5 c5)) (0, 0) _ H16.out.1.k14 rfl rfl (by kernel_rfl) ?_)
     | (go_at_call 26; (with_reducible refine HCP.out.mono ?_); clear HCP; rintro e w17 ⟨Da, dn, dc, Dc, dcn, dcc, rfl, h17, hb17⟩; dsimp only; have H17 := Lib.hid (And.intro h17 hb17); clear h17 hb17)
     | (refine wpList_store_rowTo rfl 43 _ _ rfl rfl w17.heap.size (rsCs r.k r.y (.slice Da dn dc) (.slice Dc dcn dcc)) rfl rfl 43 zR (Blk.new w17 43 zR) (by kernel_rfl) rfl (by kernel_rfl) ?_))
   have hb18 : Below w17.heap.size w17 ((w17.alloc (.cells zR 43)).setRow w17.heap.size (rsCs r.k r.y (.slice Da dn dc) (.slice Dc dcn dcc))) := below_setRow ((Below.refl _ _).alloc (Nat.le_refl _) (.cells zR 43)) (Nat.le_refl _) _
   have k15 : Blk ((w17.alloc (.cells zR 43)).setRow w17.heap.size (rsCs r.k r.y (.slice Da dn dc) (.slice Dc dcn dcc))) w17.heap.size 43 (rsCs r.k r.y (.slice Da dn dc) (.slice Dc dcn dcc)) := (Blk.new w17 43 zR).row _
   have h18 : LJ w9.heap.size w16.heap.size B14 w9 ((w17.alloc (.cells zR 43)).setRow w17.heap.size (rsCs r.k r.y (.slice Da dn dc) (.slice Dc dcn dcc))) (rsCs r.k r.y (.slice Aa na ca0) (.slice A5 n5 c5)) (.slice A5 n5 c5) n5 ((w17.alloc (.cells zR 43)).setRow w17.heap.size (rsCs r.k r.y (.slice Da dn dc) (.slice Dc dcn dcc))) := by
     have hbb := H17.out.2.trans (hb18.mono H17.out.2.size)
     have hlo := H16.out.1.on hbb
     have a5 := RowK.onT H16.out.2 hbb
     have hn5 : n5 = r.cur.length := by have h := HN5.out; rw [List.nil_append] at h; exact h
     exact ⟨hlo.bel, hlo.k14, fun _ _ => rfl, rfl, by rw [hn5]; exact row_bytes (hn5 ▸ a5), fun g e => (own_atT H16.out.2 e).2.1⟩
   have o18 : ResOwn ((w17.alloc (.cells zR 43)).setRow w17.heap.size (rsCs r.k r.y (.slice Da dn dc) (.slice Dc dcn dcc))) w16.heap.size r (.slice Da dn dc) (.slice Dc dcn dcc) := H17.out.1.keep fun k h1 h2 => hb18.block k h2
   obtain ⟨B15, hB15⟩ : ∃ b, b = w17.heap.size := ⟨_, rfl⟩
   have l15 : w16.heap.size ≤ B15 := by rw [hB15]; exact H17.out.2.size
   rw [← hB15] at h18 o18 k15 ⊢
   generalize (w17.alloc (.cells zR 43)).setRow B15 (rsCs r.k r.y (.slice Da dn dc) (.slice Dc dcn dcc)) = w18 at h18 o18 k15 ⊢
   have HI := Lib.hid h18
   have HO := Lib.hid (And.intro o18 (And.intro k15 l15))
   have hs5 : n5 ≤ 9000 := by have h := HN5.out; rw [List.nil_append] at h; have := HLN.out; omega
   clear hb18 h18 o18 k15 l15 hB15 H17 H16 HNA HNC HN5 HRD5 HLN HOF HRF HYL
   go_wp2_with fail
   go_loopw [17] (fun s wr => ∃ k : Nat, s = .int .i64 k ∧ k ≤ n5 ∧ Hid (LJ w9.heap.size w16.heap.size B14 w9 w18 (rsCs r.k r.y (.slice Aa na ca0) (.slice A5 n5 c5)) (.slice A5 n5 c5) n5 wr)) (fun s _ => n5 - (intOf s).toNat)
   case atStart => exact ⟨0, rfl, Nat.zero_le _, HI⟩
   case round =>
     obtain ⟨k, rfl, hk, HI1⟩ := hrel
     obtain ⟨wr1, hwr⟩ : ∃ W, W = wr := ⟨_, rfl⟩
     rw [← hwr] at HI1 ⊢
     clear hwr
     by_cases hlt : k < n5
     · obtain ⟨g, rfl, ⟨y, hy⟩, hz, hst⟩ := HI1.out.b5 k hlt
       have HST := Lib.hid hst
       have k7 : wr1.cell? ⟨B14, 3, none⟩ = some (.slice (some ⟨g, 0, none⟩) n5 c5) := HI1.out.k14.cell 3
       have k7d : wr1.drew.cell? ⟨B14, 3, none⟩ = some (.slice (some ⟨g, 0, none⟩) n5 c5) := k7
       have hyd : wr1.drew.cell? ⟨g, k, none⟩ = some (.int .u8 y) := hy
       have hzd : wr1.drew.frozen? ⟨g, k, none⟩ = false := hz
       clear hst
       go_wp2_with fail
       go_region_law fail
       all_goals
         go_wp2_with fail
         go_roundw
         case rel => exact ⟨k + 1, by go_num, by omega, Lib.hid (HST.out _).drew⟩
         case measure => simp [intOf]; omega
     · have hkn : n5 = k := by omega
       subst hkn
       have k7 := HI1.out.k14.cell 3
       simp only [List.getElem?_toArray, List.getElem?_cons_zero, List.getElem?_cons_succ] at k7
       go_upto_region 16 with fail
       clear k7
       have hup := HO.out.1.up HI1.out.up
       have hk15 : Blk wr1 B15 43 (rsCs r.k r.y (.slice Da dn dc) (.slice Dc dcn dcc)) := (HI1.out.up B15 HO.out.2.2).trans HO.out.2.1
       have HQ := Lib.hid (And.intro (HW.out wr1 HI1.out.bel) (And.intro hup hk15))
       clear hup hk15
       have HSM := sameResR_any r r _ _ _ _ wr1 HQ.out.2.1.at (HA.out wr1 HQ.out.1.bel).1 HLO.out.1 HLO.out.1
       rw [sameR_refl] at HSM
       have HSM := Lib.hid HSM
       go_upto_region 18 with (first
         | (refine wpList_load_row rfl 43 _ rfl B15 rfl 43 (rsCs r.k r.y (.slice Da dn dc) (.slice Dc dcn dcc)) (0, 0) _ HQ.out.2.2 rfl rfl (by kernel_rfl) ?_)
         | (refine wpList_load_row rfl 43 _ rfl Bx rfl 43 (rsCs r.k r.y (.slice Aa na ca0) (.slice Ac nc cc0)) (0, 0) _ HQ.out.1.x rfl rfl (by kernel_rfl) ?_)
         | (go_at_call 25; (with_reducible refine HSM.out.mono ?_); clear HSM; rintro e w20 ⟨rfl, hb20⟩; dsimp only; have H20 := Lib.hid (And.intro (HQ.out.1.on hb20) (HI1.out.bel.trans (hb20.mono HI1.out.bel.size))); clear hb20))
       have HKN := Lib.hid (known_any w20)
       have hbv : Below v3.heap.size v3 w20 := H9.out.2.trans (H20.out.2.mono H9.out.2.size)
       rcases HRX.out with ⟨hm1, hq1, hx1, hx2⟩ | ⟨hm1, hq1, hx1⟩
       · subst hm1 hq1
         obtain ⟨hw1, hw2⟩ := HRW.out.1 rfl
         have hcx0 : (convert 25 9 (.slice Ax nx cx')).run Tryz.prog w20 = .ok (.string (sx (cx (resB r)))) w20 := conv_bytes (((hx2.below HRW.out.2).below (hbv.mono HRW.out.2.size)).more (Nat.le_trans HRW.out.2.size hbv.size)) hx1
         have hcx1 : (convert 25 9 (.slice Aw nw cw)).run Tryz.prog w20 = .ok (.string (sx (cx (resB r)))) w20 := conv_bytes ((hw2.below hbv).more hbv.size) hw1
         obtain ⟨sq, hsq⟩ : ∃ s, s = sx (cx (resB r)) := ⟨_, rfl⟩
         rw [← hsq] at hcx0 hcx1
         clear hsq hx1 hx2 hw1 hw2 hbv
         go_wp2_with (first
           | (go_at_call 16; (with_reducible refine (numL_any _ _).mono ?_); rintro e wn ⟨rfl, rfl⟩; dsimp only)
           | (go_at_call 8; (with_reducible refine HKN.out.mono ?_); clear HKN; rintro e w22 ⟨rfl, hb22⟩; dsimp only; have H22 := Lib.hid (H20.out.1.on hb22); clear hb22))
         go_ret
         exact ⟨rfl, H22.out.bel⟩
       · subst hm1 hq1 hx1
         clear hbv
         go_wp2_with (first
           | (go_at_call 16; (with_reducible refine (numL_any _ _).mono ?_); rintro e wn ⟨rfl, rfl⟩; dsimp only)
           | (go_at_call 8; (with_reducible refine HKN.out.mono ?_); clear HKN; rintro e w22 ⟨rfl, hb22⟩; dsimp only; have H22 := Lib.hid (H20.out.1.on hb22); clear hb22))
         go_ret
         exact ⟨rfl, H22.out.bel⟩
end Go.Proofs.YtcjiofhjognklaaGreat.Tlv
