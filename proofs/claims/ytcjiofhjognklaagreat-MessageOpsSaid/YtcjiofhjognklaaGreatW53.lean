/- The law on operations: its walks. -/
import Derived.Test.YtcjiofhjognklaaGreatW51

namespace Go.Proofs.YtcjiofhjognklaaGreat.Tlv
open Go.RowKit Go.Lib Go.Sort
set_option maxRecDepth 100000
set_option linter.unusedVariables false
set_option linter.unusedSimpArgs false

set_option maxHeartbeats 32000000 in
theorem lawOps_mn (o p : Opn) (va vp vc xa xp xc : Value) (A : Option Addr) (c : Nat) (l : List Int) (w : World) (ho : OpAt w o va vp vc) (hp : OpAt w p xa xp xc) (hlo : Lim o) (hlp : Lim p) (hbo : bigO o = false) (hbp : bigO p = false)
    (hr : Rd w w.heap.size A l) (hby : Byt l) (hn : l.length ≤ 20000) (hc : l.length ≤ c) (hcm : c ≤ 9223372036854775807) (hmo : mayO o = true) (hno : ∀ o, mayO o = true → l ≠ opB o) :
    Calls Tryz.prog 3 #[opVal o va vp vc, opVal p xa xp xc, .slice A l.length c] w (KnownOut w) := by
  have HA := Lib.hid fun (W : World) (hb : Below w.heap.size w W) => And.intro (ho.on hb) (hp.on hb)
  have HLO := Lib.hid hlo
  have HLP := Lib.hid hlp
  obtain ⟨Aa, ca0, na, rfl, _, _⟩ := rdv_len ho.a
  obtain ⟨Ap, cp0, np, rfl⟩ := ho.p.len
  obtain ⟨Ac, cc0, nc, rfl, _⟩ := ho.c.len
  obtain ⟨Ba, da0, ma, rfl, _, _⟩ := rdv_len hp.a
  obtain ⟨Bp, dp0, mp, rfl⟩ := hp.p.len
  obtain ⟨Bc, dc0, mc, rfl, _⟩ := hp.c.len
  have hb0 : Below w.heap.size w ((w.alloc (.cells (opCs o (.slice Aa na ca0) (.slice Ap np cp0) (.slice Ac nc cc0)) 27)).alloc (.cells (opCs p (.slice Ba ma da0) (.slice Bp mp dp0) (.slice Bc mc dc0)) 27)) := ((Below.refl _ _).alloc (Nat.le_refl _) _).alloc (by simp) _
  have kx := (Blk.new w 27 (opCs o (.slice Aa na ca0) (.slice Ap np cp0) (.slice Ac nc cc0))).alloc (.cells (opCs p (.slice Ba ma da0) (.slice Bp mp dp0) (.slice Bc mc dc0)) 27)
  have ky := Blk.new (w.alloc (.cells (opCs o (.slice Aa na ca0) (.slice Ap np cp0) (.slice Ac nc cc0)) 27)) 27 (opCs p (.slice Ba ma da0) (.slice Bp mp dp0) (.slice Bc mc dc0))
  rw [World.size_alloc] at ky
  obtain ⟨Bx, hBx⟩ : ∃ b, b = w.heap.size := ⟨_, rfl⟩
  obtain ⟨By, hBy⟩ : ∃ b, b = w.heap.size + 1 := ⟨_, rfl⟩
  have H0 : Hid (LB w Bx By (opCs o (.slice Aa na ca0) (.slice Ap np cp0) (.slice Ac nc cc0)) (opCs p (.slice Ba ma da0) (.slice Bp mp dp0) (.slice Bc mc dc0)) ((w.alloc (.cells (opCs o (.slice Aa na ca0) (.slice Ap np cp0) (.slice Ac nc cc0)) 27)).alloc (.cells (opCs p (.slice Ba ma da0) (.slice Bp mp dp0) (.slice Bc mc dc0)) 27))) := Lib.hid ⟨hb0, hBx ▸ kx, hBy ▸ ky⟩
  clear hb0 kx ky ho hp hlo hlp
  have HBO := Lib.hid hbo
  have HBP := Lib.hid hbp
  have HMO := Lib.hid hmo
  have HOF : Hid (∀ W, Below w.heap.size w W → Calls Tryz.prog 10 #[.slice A l.length c] W fun e w' => ∃ Aa na ca Ap np cp Ac nc cc, e = .returned (.tuple #[opVal (o0 0) (.slice Aa na ca) (.slice Ap np cp) (.slice Ac nc cc), .int .i64 4]) ∧ OpAt w' (o0 0) (.slice Aa na ca) (.slice Ap np cp) (.slice Ac nc cc) ∧ Lim (o0 0) ∧ Below W.heap.size W w') := Lib.hid fun W hb => opOf_no A c l W ((hr.below hb).more hb.size) hby (by omega) hno
  have HRF : Hid (∀ W, Below w.heap.size w W → Calls Tryz.prog 11 #[.slice A l.length c] W fun e w' => ∃ Aa na ca Ap np cp Ac nc cc, e = .returned (.tuple #[opVal (o0 0) (.slice Aa na ca) (.slice Ap np cp) (.slice Ac nc cc), .bool false]) ∧ OpAt w' (o0 0) (.slice Aa na ca) (.slice Ap np cp) (.slice Ac nc cc) ∧ Lim (o0 0) ∧ Below W.heap.size W w') := Lib.hid fun W hb => refOpOf_no A c l W ((hr.below hb).more hb.size) hby (by omega) hc hcm hno
  obtain ⟨n, hnn⟩ : ∃ n, n = l.length := ⟨_, rfl⟩
  rw [← hnn] at hn HOF HRF ⊢
  clear hr hby hc hcm hnn hno hbo hbp hmo
  go_enter Tryz.func3, Tryz.ntmps3
  go_upto_region 1 with fail
  rw [← hBy, ← hBx]
  generalize (w.alloc (.cells (opCs o (.slice Aa na ca0) (.slice Ap np cp0) (.slice Ac nc cc0)) 27)).alloc (.cells (opCs p (.slice Ba ma da0) (.slice Bp mp dp0) (.slice Bc mc dc0)) 27) = W0 at H0 ⊢
  clear hBx hBy
  obtain ⟨x0, x1, x2, x3, x4, x5, x6⟩ := op_cells H0.out.x
  obtain ⟨y0, y1, y2, y3, y4, y5, y6⟩ := op_cells H0.out.y
  have HB1 := big_any o _ _ _ W0 (HA.out _ H0.out.bel).1 HLO.out
  rw [HBO.out] at HB1
  have HB1 := Lib.hid HB1
  have hn1 : ¬ (20000 : Int) < (n : Int) := by omega
  go_upto_region 3 with (first
    | (go_at_call 7; (with_reducible refine HB1.out.mono ?_); clear HB1 x0 x1 x2 x3 x4 x5 x6 y0 y1 y2 y3 y4 y5 y6; rintro e w1 ⟨rfl, hb1⟩; dsimp only; have H1 := Lib.hid (H0.out.on hb1); clear hb1; obtain ⟨x0, x1, x2, x3, x4, x5, x6⟩ := op_cells H1.out.x; obtain ⟨y0, y1, y2, y3, y4, y5, y6⟩ := op_cells H1.out.y; have HB2 : Hid (Calls Tryz.prog 7 #[opVal p (.slice Ba ma da0) (.slice Bp mp dp0) (.slice Bc mc dc0)] w1 fun e w' => e = .returned (.bool false) ∧ Below w1.heap.size w1 w') := Lib.hid (by have h := big_any p _ _ _ w1 (HA.out _ H1.out.bel).2 HLP.out; rw [HBP.out] at h; exact h))
    | (go_at_call 7; (with_reducible refine HB2.out.mono ?_); clear HB2 x0 x1 x2 x3 x4 x5 x6 y0 y1 y2 y3 y4 y5 y6; rintro e w2 ⟨rfl, hb2⟩; dsimp only; have H2 := Lib.hid (H1.out.on hb2); clear hb2; obtain ⟨x0, x1, x2, x3, x4, x5, x6⟩ := op_cells H2.out.x))
  clear hn1 H1 H0
  have HOB := Lib.hid (opBytes_yes o _ _ _ w2 (HA.out _ H2.out.bel).1 HLO.out HMO.out)
  go_upto_region 4 with (go_at_call 9; (with_reducible refine HOB.out.mono ?_); clear HOB x0 x1 x2 x3 x4 x5 x6; rintro e w3 ⟨Ax, nx, cx', rfl, hnx, hrx, hb3⟩; dsimp only; have H3 := Lib.hid (H2.out.on hb3); have HRX := Lib.hid (And.intro hnx hrx); clear hb3 hnx hrx)
  have HO1 := Lib.hid (HOF.out w3 H3.out.bel)
  go_upto_region 5 with (first
    | (go_at_call 10; (with_reducible refine HO1.out.mono ?_); clear HO1; rintro e w4 ⟨Ya, yn, yc, Yp, pn, pc, Yc, cn, ccx, rfl, hy1, hy2, hb4⟩; dsimp only; have H4 := Lib.hid (And.intro (H3.out.on hb4) (And.intro hy1 (And.intro hy2 hb4))); clear hy1 hy2 hb4)
    | (refine wpList_store_rowTo rfl 27 _ _ rfl rfl w4.heap.size (opCs (o0 0) (.slice Ya yn yc) (.slice Yp pn pc) (.slice Yc cn ccx)) rfl rfl 27 zCs (Blk.new w4 27 zCs) (by kernel_rfl) rfl (by kernel_rfl) ?_))
  have hb5 : Below w4.heap.size w4 ((w4.alloc (.cells zCs 27)).setRow w4.heap.size (opCs (o0 0) (.slice Ya yn yc) (.slice Yp pn pc) (.slice Yc cn ccx))) := below_setRow ((Below.refl _ _).alloc (Nat.le_refl _) (.cells zCs 27)) (Nat.le_refl _) _
  have kY : Blk ((w4.alloc (.cells zCs 27)).setRow w4.heap.size (opCs (o0 0) (.slice Ya yn yc) (.slice Yp pn pc) (.slice Yc cn ccx))) w4.heap.size 27 (opCs (o0 0) (.slice Ya yn yc) (.slice Yp pn pc) (.slice Yc cn ccx)) := (Blk.new w4 27 zCs).row _
  have h5 := And.intro (H4.out.1.on hb5) (And.intro (H4.out.2.1.on hb5) (And.intro kY (H4.out.2.2.2.trans (hb5.mono H4.out.2.2.2.size))))
  have HYL := Lib.hid H4.out.2.2.1
  obtain ⟨B9, hB9⟩ : ∃ b, b = w4.heap.size := ⟨_, rfl⟩
  rw [← hB9] at h5 ⊢
  clear hb5 kY hB9 H4
  generalize (w4.alloc (.cells zCs 27)).setRow B9 (opCs (o0 0) (.slice Ya yn yc) (.slice Yp pn pc) (.slice Yc cn ccx)) = W5 at h5 ⊢
  have H5 := Lib.hid h5
  clear h5
  have HO2 := Lib.hid (HRF.out W5 H5.out.1.bel)
  go_upto_region 6 with (first
    | (go_at_call 11; (with_reducible refine HO2.out.mono ?_); clear HO2; rintro e w6 ⟨Za, zn, zc, Zp, ppn, ppc, Zc, ccn, cccx, rfl, hz1, hz2, hb6⟩; dsimp only; have H6 := Lib.hid (And.intro (H5.out.1.on hb6) (And.intro hz1 (And.intro (H5.out.2.1.on hb6) (And.intro (H5.out.2.2.1.on hb6) (H5.out.2.2.2.trans (hb6.mono H5.out.2.2.2.size)))))); clear hz1 hz2 hb6)
    | (refine wpList_store_rowTo rfl 27 _ _ rfl rfl w6.heap.size (opCs (o0 0) (.slice Za zn zc) (.slice Zp ppn ppc) (.slice Zc ccn cccx)) rfl rfl 27 zCs (Blk.new w6 27 zCs) (by kernel_rfl) rfl (by kernel_rfl) ?_))
  have hb7 : Below w6.heap.size w6 ((w6.alloc (.cells zCs 27)).setRow w6.heap.size (opCs (o0 0) (.slice Za zn zc) (.slice Zp ppn ppc) (.slice Zc ccn cccx))) := below_setRow ((Below.refl _ _).alloc (Nat.le_refl _) (.cells zCs 27)) (Nat.le_refl _) _
  have kZ : Blk ((w6.alloc (.cells zCs 27)).setRow w6.heap.size (opCs (o0 0) (.slice Za zn zc) (.slice Zp ppn ppc) (.slice Zc ccn cccx))) w6.heap.size 27 (opCs (o0 0) (.slice Za zn zc) (.slice Zp ppn ppc) (.slice Zc ccn cccx)) := (Blk.new w6 27 zCs).row _
  have h7 := And.intro (H6.out.1.on hb7) (And.intro (H6.out.2.1.on hb7) (And.intro (H6.out.2.2.1.on hb7) (And.intro (H6.out.2.2.2.1.on hb7) (And.intro kZ (H6.out.2.2.2.2.trans (hb7.mono H6.out.2.2.2.2.size))))))
  obtain ⟨B11, hB11⟩ : ∃ b, b = w6.heap.size := ⟨_, rfl⟩
  rw [← hB11] at h7 ⊢
  clear hb7 kZ hB11 H6 H5
  generalize (w6.alloc (.cells zCs 27)).setRow B11 (opCs (o0 0) (.slice Za zn zc) (.slice Zp ppn ppc) (.slice Zc ccn cccx)) = W7 at h7 ⊢
  have H7 := Lib.hid h7
  clear h7
  obtain ⟨x0, x1, x2, x3, x4, x5, x6⟩ := op_cells H7.out.1.x
  have HM12 := refMayOp_any o _ _ _ W7 (HA.out _ H7.out.1.bel).1 HLO.out
  rw [HMO.out] at HM12
  have HM12 := Lib.hid HM12
  go_upto_region 7 with (go_at_call 12; (with_reducible refine HM12.out.mono ?_); clear HM12 x0 x1 x2 x3 x4 x5 x6; rintro e w8 ⟨rfl, hb8⟩; dsimp only; have H8 := Lib.hid (And.intro (H7.out.1.on hb8) (And.intro (H7.out.2.1.on hb8) (And.intro (H7.out.2.2.1.on hb8) (And.intro (H7.out.2.2.2.1.on hb8) (And.intro (H7.out.2.2.2.2.1.on hb8) (H7.out.2.2.2.2.2.trans (hb8.mono H7.out.2.2.2.2.2.size))))))); clear hb8)
  have L3 := op_row H8.out.1.x
  have L4 := op_row H8.out.1.y
  have L9 := op_row H8.out.2.2.2.1
  have L11 := op_row H8.out.2.2.2.2.1
  have HL3 := Lib.hid L3
  have HL4 := Lib.hid L4
  have HL9 := Lib.hid L9
  have HL11 := Lib.hid L11
  have hat : ∀ d os, OpAt (grow (redrawn w8 d) os) o _ _ _ ∧ OpAt (grow (redrawn w8 d) os) p _ _ _ := fun d os => HA.out _ (H8.out.1.bel.trans ((below_regrown w8 d os).mono H8.out.1.bel.size))
  obtain ⟨s, hs⟩ : ∃ s, s = sameO o p := ⟨_, rfl⟩
  have c13 : ∀ d os, _ := fun d os => Calls.regrown_of (mayOp_any o _ _ _ (grow (redrawn w8 d) os) (hat d os).1 HLO.out)
  have c14 : ∀ d os, _ := fun d os => Calls.regrown_of (sameOp_any o p _ _ _ _ _ _ (grow (redrawn w8 d) os) (hat d os).1 (hat d os).2 HLO.out HLP.out)
  have c15 : ∀ d os, _ := fun d os => Calls.regrown_of (refSameOp_any o p _ _ _ _ _ _ (grow (redrawn w8 d) os) (hat d os).1 (hat d os).2 HLO.out HLP.out)
  have c14b : ∀ d os, _ := fun d os => Calls.regrown_of (sameOp_any o o _ _ _ _ _ _ (grow (redrawn w8 d) os) (hat d os).1 (hat d os).1 HLO.out HLO.out)
  have c15b : ∀ d os, _ := fun d os => Calls.regrown_of (refSameOp_any (o0 0) (o0 0) _ _ _ _ _ _ (grow (redrawn w8 d) os) (H8.out.2.2.1.on (below_regrown w8 d os)) (H8.out.2.1.on (below_regrown w8 d os)) HYL.out HYL.out)
  have c16 : ∀ d os, _ := fun d os => Calls.regrown_of (Calls_same (numL_any 4 (grow (redrawn w8 d) os)))
  rw [HMO.out] at c13
  rw [← hs] at c14 c15
  rw [sameO_refl] at c14b c15b
  have hss : (s != s) = false := by simp
  clear L3 L4 L9 L11 hat hs
  refine wp_region_quiet_below (by kernel_rfl) (by kernel_rfl) ?_
  repeat
    first
      | (refine wpQuiet_row 27 (.tmp 3) rfl ⟨Bx, 0, none⟩ _ (by kernel_rfl) rfl HL3.out ?_)
      | (refine wpQuiet_row 27 (.tmp 4) rfl ⟨By, 0, none⟩ _ (by kernel_rfl) rfl HL4.out ?_)
      | (refine wpQuiet_row 27 (.tmp 9) rfl ⟨B9, 0, none⟩ _ (by kernel_rfl) rfl HL9.out ?_)
      | (refine wpQuiet_row 27 (.tmp 11) rfl ⟨B11, 0, none⟩ _ (by kernel_rfl) rfl HL11.out ?_)
      | (with_reducible refine wpQuiet_step (fun K hK => ?_)
         go_simp
         first
           | (with_reducible refine hK _ ?_; clear hK K)
           | (rw [if_neg (by first | decide | (intro h; cases h))]; with_reducible refine hK _ ?_; clear hK K)
           | (apply Exists.intro; refine ⟨fun _ => ?_, hK _ ?_⟩; (first | (with_reducible exact c13 _ _) | (with_reducible exact c14 _ _) | (with_reducible exact c15 _ _) | (with_reducible exact c14b _ _) | (with_reducible exact c15b _ _) | (with_reducible exact c16 _ _)); clear hK K))
  with_reducible refine wpQuiet_nil ?_
  rintro _ ⟨⟨dq, osq⟩, rfl⟩
  have hq := below_regrown w8 dq osq
  have H9 := Lib.hid (And.intro (H8.out.1.on hq) (H8.out.2.2.2.2.2.trans (hq.mono H8.out.2.2.2.2.2.size)))
  clear hq c13 c14 c15 c14b c15b c16 HL3 HL4 HL9 HL11 H8 H7 hss
  generalize grow (redrawn w8 dq) osq = w9 at H9 ⊢
  go_upto_region 11 with fail
  have hd9 : Below w9.heap.size w9 w9.drew := below_drew (Below.refl _ _)
  obtain ⟨x0, x1, x2, x3, x4, x5, x6⟩ := op_cells (H9.out.1.on hd9).x
  obtain ⟨A', c', eX, _, hrdx⟩ := HRX.out.2.rd
  have hcx0 : (convert 25 9 (.slice Ax nx cx')).run Tryz.prog w9 = .ok (.string (sx (cx (opB o)))) w9 := by
    injection eX with e1 e2 e3
    subst e1 e3
    exact conv_bytes ((hrdx.below H9.out.2).more H9.out.2.size) HRX.out.1
  have hcx1 : (convert 25 9 (.slice Ax nx cx')).run Tryz.prog w9.drew = .ok (.string (sx (cx (opB o)))) w9.drew := by
    injection eX with e1 e2 e3
    subst e1 e3
    exact conv_bytes (((hrdx.below H9.out.2).below (hd9.mono H9.out.2.size)).more (Nat.le_trans H9.out.2.size hd9.size)) HRX.out.1
  have H17 : Hid (Calls Tryz.prog 17 #[opVal o (.slice Aa na ca0) (.slice Ap np cp0) (.slice Ac nc cc0)] w9.drew fun e w' => ∃ A1 n1 c1, e = .returned (.slice A1 n1 c1) ∧ Below w9.heap.size w9 w' ∧ ∀ s, s = sx (cx (opB o)) → (convert 25 9 (.slice Ax nx cx')).run Tryz.prog w' = .ok (.string s) w' ∧ (convert 25 9 (.slice A1 n1 c1)).run Tryz.prog w' = .ok (.string s) w') := Lib.hid (by
    refine (refOpBytes_any o _ _ _ w9.drew ((HA.out _ (H9.out.1.on hd9).bel).1) HMO.out).mono ?_
    rintro e w' ⟨u, rfl, hrow, hb⟩
    obtain ⟨A1, c1, rfl, _, hrd⟩ := hrow.rd
    have hb2 := hd9.trans (hb.mono hd9.size)
    refine ⟨A1, _, c1, rfl, hb2, fun s hs => ?_⟩
    subst hs
    refine ⟨?_, conv_bytes hrd rfl⟩
    injection eX with e1 e2 e3
    subst e1 e3
    exact conv_bytes (((hrdx.below H9.out.2).below (hb2.mono H9.out.2.size)).more (Nat.le_trans H9.out.2.size hb2.size)) HRX.out.1)
  obtain ⟨sq, hsq⟩ : ∃ s, s = sx (cx (opB o)) := ⟨_, rfl⟩
  rw [← hsq] at hcx0 hcx1
  have HSQ := Lib.hid hsq
  clear hsq hrdx eX hd9
  go_region_law (first
    | (go_simp; (with_reducible refine (numL_any _ _).mono ?_); rintro e wn ⟨rfl, rfl⟩; dsimp only)
    | (go_simp; (with_reducible refine H17.out.mono ?_); clear H17 x0 x1 x2 x3 x4 x5 x6; rintro e w10 ⟨A10, n10, c10, rfl, hb10, hs10⟩; dsimp only; obtain ⟨hcq2, hcr2⟩ := hs10 sq HSQ.out; have H10 := Lib.hid (H9.out.1.on hb10); have HKN := Lib.hid (known_any w10); clear hs10 hb10)
    | (go_simp; (with_reducible refine HKN.out.mono ?_); clear HKN; rintro e w11 ⟨rfl, hb11⟩; dsimp only; have H11 := Lib.hid (H10.out.on hb11); clear hb11))
  all_goals
    go_wp2_with fail
    go_ret
    exact ⟨rfl, H11.out.bel⟩
set_option maxHeartbeats 32000000 in
theorem lawOps_my (o p ob : Opn) (va vp vc xa xp xc : Value) (A : Option Addr) (c : Nat) (l : List Int) (w : World) (ho : OpAt w o va vp vc) (hp : OpAt w p xa xp xc) (hlo : Lim o) (hlp : Lim p) (hbo : bigO o = false) (hbp : bigO p = false)
    (hr : Rd w w.heap.size A l) (hby : Byt l) (hn : l.length ≤ 20000) (hc : l.length ≤ c) (hcm : c ≤ 9223372036854775807) (hmo : mayO o = true) (hm : mayO ob = true) (hl : l = opB ob) :
    Calls Tryz.prog 3 #[opVal o va vp vc, opVal p xa xp xc, .slice A l.length c] w (KnownOut w) := by
  have HA := Lib.hid fun (W : World) (hb : Below w.heap.size w W) => And.intro (ho.on hb) (hp.on hb)
  have HLO := Lib.hid hlo
  have HLP := Lib.hid hlp
  obtain ⟨Aa, ca0, na, rfl, _, _⟩ := rdv_len ho.a
  obtain ⟨Ap, cp0, np, rfl⟩ := ho.p.len
  obtain ⟨Ac, cc0, nc, rfl, _⟩ := ho.c.len
  obtain ⟨Ba, da0, ma, rfl, _, _⟩ := rdv_len hp.a
  obtain ⟨Bp, dp0, mp, rfl⟩ := hp.p.len
  obtain ⟨Bc, dc0, mc, rfl, _⟩ := hp.c.len
  have hb0 : Below w.heap.size w ((w.alloc (.cells (opCs o (.slice Aa na ca0) (.slice Ap np cp0) (.slice Ac nc cc0)) 27)).alloc (.cells (opCs p (.slice Ba ma da0) (.slice Bp mp dp0) (.slice Bc mc dc0)) 27)) := ((Below.refl _ _).alloc (Nat.le_refl _) _).alloc (by simp) _
  have kx := (Blk.new w 27 (opCs o (.slice Aa na ca0) (.slice Ap np cp0) (.slice Ac nc cc0))).alloc (.cells (opCs p (.slice Ba ma da0) (.slice Bp mp dp0) (.slice Bc mc dc0)) 27)
  have ky := Blk.new (w.alloc (.cells (opCs o (.slice Aa na ca0) (.slice Ap np cp0) (.slice Ac nc cc0)) 27)) 27 (opCs p (.slice Ba ma da0) (.slice Bp mp dp0) (.slice Bc mc dc0))
  rw [World.size_alloc] at ky
  obtain ⟨Bx, hBx⟩ : ∃ b, b = w.heap.size := ⟨_, rfl⟩
  obtain ⟨By, hBy⟩ : ∃ b, b = w.heap.size + 1 := ⟨_, rfl⟩
  have H0 : Hid (LB w Bx By (opCs o (.slice Aa na ca0) (.slice Ap np cp0) (.slice Ac nc cc0)) (opCs p (.slice Ba ma da0) (.slice Bp mp dp0) (.slice Bc mc dc0)) ((w.alloc (.cells (opCs o (.slice Aa na ca0) (.slice Ap np cp0) (.slice Ac nc cc0)) 27)).alloc (.cells (opCs p (.slice Ba ma da0) (.slice Bp mp dp0) (.slice Bc mc dc0)) 27))) := Lib.hid ⟨hb0, hBx ▸ kx, hBy ▸ ky⟩
  clear hb0 kx ky ho hp hlo hlp
  have HBO := Lib.hid hbo
  have HBP := Lib.hid hbp
  have HMO := Lib.hid hmo
  have HOF : Hid (∀ W, Below w.heap.size w W → Calls Tryz.prog 10 #[.slice A l.length c] W fun e w' => ∃ Aa na ca Ap np cp Ac nc cc, e = .returned (.tuple #[opVal ob (.slice Aa na ca) (.slice Ap np cp) (.slice Ac nc cc), .int .i64 0]) ∧ OpAt w' ob (.slice Aa na ca) (.slice Ap np cp) (.slice Ac nc cc) ∧ Lim ob ∧ Below W.heap.size W w') := Lib.hid fun W hb => opOf_yes A c l ob W ((hr.below hb).more hb.size) hby (by omega) hm hl
  have HRF : Hid (∀ W, Below w.heap.size w W → Calls Tryz.prog 11 #[.slice A l.length c] W fun e w' => ∃ Aa na ca Ap np cp Ac nc cc, e = .returned (.tuple #[opVal ob (.slice Aa na ca) (.slice Ap np cp) (.slice Ac nc cc), .bool true]) ∧ OpAt w' ob (.slice Aa na ca) (.slice Ap np cp) (.slice Ac nc cc) ∧ Lim ob ∧ Below W.heap.size W w') := Lib.hid fun W hb => refOpOf_yes A c l ob W ((hr.below hb).more hb.size) hby (by omega) hc hcm hm hl
  obtain ⟨n, hnn⟩ : ∃ n, n = l.length := ⟨_, rfl⟩
  rw [← hnn] at hn HOF HRF ⊢
  clear hr hby hc hcm hnn hm hl hbo hbp hmo
  go_enter Tryz.func3, Tryz.ntmps3
  go_upto_region 1 with fail
  rw [← hBy, ← hBx]
  generalize (w.alloc (.cells (opCs o (.slice Aa na ca0) (.slice Ap np cp0) (.slice Ac nc cc0)) 27)).alloc (.cells (opCs p (.slice Ba ma da0) (.slice Bp mp dp0) (.slice Bc mc dc0)) 27) = W0 at H0 ⊢
  clear hBx hBy
  obtain ⟨x0, x1, x2, x3, x4, x5, x6⟩ := op_cells H0.out.x
  obtain ⟨y0, y1, y2, y3, y4, y5, y6⟩ := op_cells H0.out.y
  have HB1 := big_any o _ _ _ W0 (HA.out _ H0.out.bel).1 HLO.out
  rw [HBO.out] at HB1
  have HB1 := Lib.hid HB1
  have hn1 : ¬ (20000 : Int) < (n : Int) := by omega
  go_upto_region 3 with (first
    | (go_at_call 7; (with_reducible refine HB1.out.mono ?_); clear HB1 x0 x1 x2 x3 x4 x5 x6 y0 y1 y2 y3 y4 y5 y6; rintro e w1 ⟨rfl, hb1⟩; dsimp only; have H1 := Lib.hid (H0.out.on hb1); clear hb1; obtain ⟨x0, x1, x2, x3, x4, x5, x6⟩ := op_cells H1.out.x; obtain ⟨y0, y1, y2, y3, y4, y5, y6⟩ := op_cells H1.out.y; have HB2 : Hid (Calls Tryz.prog 7 #[opVal p (.slice Ba ma da0) (.slice Bp mp dp0) (.slice Bc mc dc0)] w1 fun e w' => e = .returned (.bool false) ∧ Below w1.heap.size w1 w') := Lib.hid (by have h := big_any p _ _ _ w1 (HA.out _ H1.out.bel).2 HLP.out; rw [HBP.out] at h; exact h))
    | (go_at_call 7; (with_reducible refine HB2.out.mono ?_); clear HB2 x0 x1 x2 x3 x4 x5 x6 y0 y1 y2 y3 y4 y5 y6; rintro e w2 ⟨rfl, hb2⟩; dsimp only; have H2 := Lib.hid (H1.out.on hb2); clear hb2; obtain ⟨x0, x1, x2, x3, x4, x5, x6⟩ := op_cells H2.out.x))
  clear hn1 H1 H0
  have HOB := Lib.hid (opBytes_yes o _ _ _ w2 (HA.out _ H2.out.bel).1 HLO.out HMO.out)
  go_upto_region 4 with (go_at_call 9; (with_reducible refine HOB.out.mono ?_); clear HOB x0 x1 x2 x3 x4 x5 x6; rintro e w3 ⟨Ax, nx, cx', rfl, hnx, hrx, hb3⟩; dsimp only; have H3 := Lib.hid (H2.out.on hb3); have HRX := Lib.hid (And.intro hnx hrx); clear hb3 hnx hrx)
  have HO1 := Lib.hid (HOF.out w3 H3.out.bel)
  go_upto_region 5 with (first
    | (go_at_call 10; (with_reducible refine HO1.out.mono ?_); clear HO1; rintro e w4 ⟨Ya, yn, yc, Yp, pn, pc, Yc, cn, ccx, rfl, hy1, hy2, hb4⟩; dsimp only; have H4 := Lib.hid (And.intro (H3.out.on hb4) (And.intro hy1 (And.intro hy2 hb4))); clear hy1 hy2 hb4)
    | (refine wpList_store_rowTo rfl 27 _ _ rfl rfl w4.heap.size (opCs ob (.slice Ya yn yc) (.slice Yp pn pc) (.slice Yc cn ccx)) rfl rfl 27 zCs (Blk.new w4 27 zCs) (by kernel_rfl) rfl (by kernel_rfl) ?_))
  have hb5 : Below w4.heap.size w4 ((w4.alloc (.cells zCs 27)).setRow w4.heap.size (opCs ob (.slice Ya yn yc) (.slice Yp pn pc) (.slice Yc cn ccx))) := below_setRow ((Below.refl _ _).alloc (Nat.le_refl _) (.cells zCs 27)) (Nat.le_refl _) _
  have kY : Blk ((w4.alloc (.cells zCs 27)).setRow w4.heap.size (opCs ob (.slice Ya yn yc) (.slice Yp pn pc) (.slice Yc cn ccx))) w4.heap.size 27 (opCs ob (.slice Ya yn yc) (.slice Yp pn pc) (.slice Yc cn ccx)) := (Blk.new w4 27 zCs).row _
  have h5 := And.intro (H4.out.1.on hb5) (And.intro (H4.out.2.1.on hb5) (And.intro kY (H4.out.2.2.2.trans (hb5.mono H4.out.2.2.2.size))))
  have HYL := Lib.hid H4.out.2.2.1
  obtain ⟨B9, hB9⟩ : ∃ b, b = w4.heap.size := ⟨_, rfl⟩
  rw [← hB9] at h5 ⊢
  clear hb5 kY hB9 H4
  generalize (w4.alloc (.cells zCs 27)).setRow B9 (opCs ob (.slice Ya yn yc) (.slice Yp pn pc) (.slice Yc cn ccx)) = W5 at h5 ⊢
  have H5 := Lib.hid h5
  clear h5
  have HO2 := Lib.hid (HRF.out W5 H5.out.1.bel)
  go_upto_region 6 with (first
    | (go_at_call 11; (with_reducible refine HO2.out.mono ?_); clear HO2; rintro e w6 ⟨Za, zn, zc, Zp, ppn, ppc, Zc, ccn, cccx, rfl, hz1, hz2, hb6⟩; dsimp only; have H6 := Lib.hid (And.intro (H5.out.1.on hb6) (And.intro hz1 (And.intro (H5.out.2.1.on hb6) (And.intro (H5.out.2.2.1.on hb6) (H5.out.2.2.2.trans (hb6.mono H5.out.2.2.2.size)))))); clear hz1 hz2 hb6)
    | (refine wpList_store_rowTo rfl 27 _ _ rfl rfl w6.heap.size (opCs ob (.slice Za zn zc) (.slice Zp ppn ppc) (.slice Zc ccn cccx)) rfl rfl 27 zCs (Blk.new w6 27 zCs) (by kernel_rfl) rfl (by kernel_rfl) ?_))
  have hb7 : Below w6.heap.size w6 ((w6.alloc (.cells zCs 27)).setRow w6.heap.size (opCs ob (.slice Za zn zc) (.slice Zp ppn ppc) (.slice Zc ccn cccx))) := below_setRow ((Below.refl _ _).alloc (Nat.le_refl _) (.cells zCs 27)) (Nat.le_refl _) _
  have kZ : Blk ((w6.alloc (.cells zCs 27)).setRow w6.heap.size (opCs ob (.slice Za zn zc) (.slice Zp ppn ppc) (.slice Zc ccn cccx))) w6.heap.size 27 (opCs ob (.slice Za zn zc) (.slice Zp ppn ppc) (.slice Zc ccn cccx)) := (Blk.new w6 27 zCs).row _
  have h7 := And.intro (H6.out.1.on hb7) (And.intro (H6.out.2.1.on hb7) (And.intro (H6.out.2.2.1.on hb7) (And.intro (H6.out.2.2.2.1.on hb7) (And.intro kZ (H6.out.2.2.2.2.trans (hb7.mono H6.out.2.2.2.2.size))))))
  obtain ⟨B11, hB11⟩ : ∃ b, b = w6.heap.size := ⟨_, rfl⟩
  rw [← hB11] at h7 ⊢
  clear hb7 kZ hB11 H6 H5
  generalize (w6.alloc (.cells zCs 27)).setRow B11 (opCs ob (.slice Za zn zc) (.slice Zp ppn ppc) (.slice Zc ccn cccx)) = W7 at h7 ⊢
  have H7 := Lib.hid h7
  clear h7
  obtain ⟨x0, x1, x2, x3, x4, x5, x6⟩ := op_cells H7.out.1.x
  have HM12 := refMayOp_any o _ _ _ W7 (HA.out _ H7.out.1.bel).1 HLO.out
  rw [HMO.out] at HM12
  have HM12 := Lib.hid HM12
  go_upto_region 7 with (go_at_call 12; (with_reducible refine HM12.out.mono ?_); clear HM12 x0 x1 x2 x3 x4 x5 x6; rintro e w8 ⟨rfl, hb8⟩; dsimp only; have H8 := Lib.hid (And.intro (H7.out.1.on hb8) (And.intro (H7.out.2.1.on hb8) (And.intro (H7.out.2.2.1.on hb8) (And.intro (H7.out.2.2.2.1.on hb8) (And.intro (H7.out.2.2.2.2.1.on hb8) (H7.out.2.2.2.2.2.trans (hb8.mono H7.out.2.2.2.2.2.size))))))); clear hb8)
  have L3 := op_row H8.out.1.x
  have L4 := op_row H8.out.1.y
  have L9 := op_row H8.out.2.2.2.1
  have L11 := op_row H8.out.2.2.2.2.1
  have HL3 := Lib.hid L3
  have HL4 := Lib.hid L4
  have HL9 := Lib.hid L9
  have HL11 := Lib.hid L11
  have hat : ∀ d os, OpAt (grow (redrawn w8 d) os) o _ _ _ ∧ OpAt (grow (redrawn w8 d) os) p _ _ _ := fun d os => HA.out _ (H8.out.1.bel.trans ((below_regrown w8 d os).mono H8.out.1.bel.size))
  obtain ⟨s, hs⟩ : ∃ s, s = sameO o p := ⟨_, rfl⟩
  have c13 : ∀ d os, _ := fun d os => Calls.regrown_of (mayOp_any o _ _ _ (grow (redrawn w8 d) os) (hat d os).1 HLO.out)
  have c14 : ∀ d os, _ := fun d os => Calls.regrown_of (sameOp_any o p _ _ _ _ _ _ (grow (redrawn w8 d) os) (hat d os).1 (hat d os).2 HLO.out HLP.out)
  have c15 : ∀ d os, _ := fun d os => Calls.regrown_of (refSameOp_any o p _ _ _ _ _ _ (grow (redrawn w8 d) os) (hat d os).1 (hat d os).2 HLO.out HLP.out)
  have c14b : ∀ d os, _ := fun d os => Calls.regrown_of (sameOp_any o o _ _ _ _ _ _ (grow (redrawn w8 d) os) (hat d os).1 (hat d os).1 HLO.out HLO.out)
  have c15b : ∀ d os, _ := fun d os => Calls.regrown_of (refSameOp_any ob ob _ _ _ _ _ _ (grow (redrawn w8 d) os) (H8.out.2.2.1.on (below_regrown w8 d os)) (H8.out.2.1.on (below_regrown w8 d os)) HYL.out HYL.out)
  have c16 : ∀ d os, _ := fun d os => Calls.regrown_of (Calls_same (numL_any 0 (grow (redrawn w8 d) os)))
  rw [HMO.out] at c13
  rw [← hs] at c14 c15
  rw [sameO_refl] at c14b c15b
  have hss : (s != s) = false := by simp
  clear L3 L4 L9 L11 hat hs
  refine wp_region_quiet_below (by kernel_rfl) (by kernel_rfl) ?_
  repeat
    first
      | (refine wpQuiet_row 27 (.tmp 3) rfl ⟨Bx, 0, none⟩ _ (by kernel_rfl) rfl HL3.out ?_)
      | (refine wpQuiet_row 27 (.tmp 4) rfl ⟨By, 0, none⟩ _ (by kernel_rfl) rfl HL4.out ?_)
      | (refine wpQuiet_row 27 (.tmp 9) rfl ⟨B9, 0, none⟩ _ (by kernel_rfl) rfl HL9.out ?_)
      | (refine wpQuiet_row 27 (.tmp 11) rfl ⟨B11, 0, none⟩ _ (by kernel_rfl) rfl HL11.out ?_)
      | (with_reducible refine wpQuiet_step (fun K hK => ?_)
         go_simp
         first
           | (with_reducible refine hK _ ?_; clear hK K)
           | (rw [if_neg (by first | decide | (intro h; cases h))]; with_reducible refine hK _ ?_; clear hK K)
           | (apply Exists.intro; refine ⟨fun _ => ?_, hK _ ?_⟩; (first | (with_reducible exact c13 _ _) | (with_reducible exact c14 _ _) | (with_reducible exact c15 _ _) | (with_reducible exact c14b _ _) | (with_reducible exact c15b _ _) | (with_reducible exact c16 _ _)); clear hK K))
  with_reducible refine wpQuiet_nil ?_
  rintro _ ⟨⟨dq, osq⟩, rfl⟩
  have hq := below_regrown w8 dq osq
  have H9 := Lib.hid (And.intro (H8.out.1.on hq) (H8.out.2.2.2.2.2.trans (hq.mono H8.out.2.2.2.2.2.size)))
  clear hq c13 c14 c15 c14b c15b c16 HL3 HL4 HL9 HL11 H8 H7 hss
  generalize grow (redrawn w8 dq) osq = w9 at H9 ⊢
  go_upto_region 11 with fail
  have hd9 : Below w9.heap.size w9 w9.drew := below_drew (Below.refl _ _)
  obtain ⟨x0, x1, x2, x3, x4, x5, x6⟩ := op_cells (H9.out.1.on hd9).x
  obtain ⟨A', c', eX, _, hrdx⟩ := HRX.out.2.rd
  have hcx0 : (convert 25 9 (.slice Ax nx cx')).run Tryz.prog w9 = .ok (.string (sx (cx (opB o)))) w9 := by
    injection eX with e1 e2 e3
    subst e1 e3
    exact conv_bytes ((hrdx.below H9.out.2).more H9.out.2.size) HRX.out.1
  have hcx1 : (convert 25 9 (.slice Ax nx cx')).run Tryz.prog w9.drew = .ok (.string (sx (cx (opB o)))) w9.drew := by
    injection eX with e1 e2 e3
    subst e1 e3
    exact conv_bytes (((hrdx.below H9.out.2).below (hd9.mono H9.out.2.size)).more (Nat.le_trans H9.out.2.size hd9.size)) HRX.out.1
  have H17 : Hid (Calls Tryz.prog 17 #[opVal o (.slice Aa na ca0) (.slice Ap np cp0) (.slice Ac nc cc0)] w9.drew fun e w' => ∃ A1 n1 c1, e = .returned (.slice A1 n1 c1) ∧ Below w9.heap.size w9 w' ∧ ∀ s, s = sx (cx (opB o)) → (convert 25 9 (.slice Ax nx cx')).run Tryz.prog w' = .ok (.string s) w' ∧ (convert 25 9 (.slice A1 n1 c1)).run Tryz.prog w' = .ok (.string s) w') := Lib.hid (by
    refine (refOpBytes_any o _ _ _ w9.drew ((HA.out _ (H9.out.1.on hd9).bel).1) HMO.out).mono ?_
    rintro e w' ⟨u, rfl, hrow, hb⟩
    obtain ⟨A1, c1, rfl, _, hrd⟩ := hrow.rd
    have hb2 := hd9.trans (hb.mono hd9.size)
    refine ⟨A1, _, c1, rfl, hb2, fun s hs => ?_⟩
    subst hs
    refine ⟨?_, conv_bytes hrd rfl⟩
    injection eX with e1 e2 e3
    subst e1 e3
    exact conv_bytes (((hrdx.below H9.out.2).below (hb2.mono H9.out.2.size)).more (Nat.le_trans H9.out.2.size hb2.size)) HRX.out.1)
  obtain ⟨sq, hsq⟩ : ∃ s, s = sx (cx (opB o)) := ⟨_, rfl⟩
  rw [← hsq] at hcx0 hcx1
  have HSQ := Lib.hid hsq
  clear hsq hrdx eX hd9
  go_region_law (first
    | (go_simp; (with_reducible refine (numL_any _ _).mono ?_); rintro e wn ⟨rfl, rfl⟩; dsimp only)
    | (go_simp; (with_reducible refine H17.out.mono ?_); clear H17 x0 x1 x2 x3 x4 x5 x6; rintro e w10 ⟨A10, n10, c10, rfl, hb10, hs10⟩; dsimp only; obtain ⟨hcq2, hcr2⟩ := hs10 sq HSQ.out; have H10 := Lib.hid (H9.out.1.on hb10); have HKN := Lib.hid (known_any w10); clear hs10 hb10)
    | (go_simp; (with_reducible refine HKN.out.mono ?_); clear HKN; rintro e w11 ⟨rfl, hb11⟩; dsimp only; have H11 := Lib.hid (H10.out.on hb11); clear hb11))
  all_goals
    go_wp2_with fail
    go_ret
    exact ⟨rfl, H11.out.bel⟩
end Go.Proofs.YtcjiofhjognklaaGreat.Tlv
