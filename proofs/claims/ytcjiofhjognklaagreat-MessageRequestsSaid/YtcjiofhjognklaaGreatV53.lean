/- The law on requests: what is too big; all its ways. -/
import Derived.Test.YtcjiofhjognklaaGreatV51
import Derived.Test.YtcjiofhjognklaaGreatV52
namespace Go.Proofs.YtcjiofhjognklaaGreat.Tlv
open Go.RowKit Go.Lib Go.Sort
set_option maxRecDepth 100000
set_option linter.unusedVariables false
set_option linter.unusedSimpArgs false
set_option maxHeartbeats 16000000 in
theorem lawRq_out (c1 n1 c2 n2 : Int) (o p : Opn) (va vp vc xa xp xc : Value) (A : Option Addr) (c n : Nat) (w : World) (ho : OpAt w o va vp vc) (hp : OpAt w p xa xp xc) (hlo : Lim0 o) (hlp : Lim0 p) (hn : n ≤ 9223372036854775807) (h : ¬ (bigO o = false ∧ bigO p = false ∧ n ≤ 20000)) :
   Calls Tryz.prog 5 #[rqVal c1 n1 o va vp vc, rqVal c2 n2 p xa xp xc, .slice A n c] w (KnownOut w) := by
 have HA := Lib.hid fun (W : World) (hb : Below w.heap.size w W) => And.intro (ho.on hb) (hp.on hb)
 have HLO := Lib.hid hlo
 have HLP := Lib.hid hlp
 obtain ⟨Aa, ca0, na, rfl, _, _⟩ := rdv_len ho.a
 obtain ⟨Ap, cp0, np, rfl⟩ := ho.p.len
 obtain ⟨Ac, cc0, nc, rfl, _⟩ := ho.c.len
 obtain ⟨Ba, da0, ma, rfl, _, _⟩ := rdv_len hp.a
 obtain ⟨Bp, dp0, mp, rfl⟩ := hp.p.len
 obtain ⟨Bc, dc0, mc, rfl, _⟩ := hp.c.len
 have hb0 : Below w.heap.size w ((w.alloc (.cells (rqCs c1 n1 o (.slice Aa na ca0) (.slice Ap np cp0) (.slice Ac nc cc0)) 57)).alloc (.cells (rqCs c2 n2 p (.slice Ba ma da0) (.slice Bp mp dp0) (.slice Bc mc dc0)) 57)) := ((Below.refl _ _).alloc (Nat.le_refl _) _).alloc (by simp) _
 have kx := (Blk.new w 57 (rqCs c1 n1 o (.slice Aa na ca0) (.slice Ap np cp0) (.slice Ac nc cc0))).alloc (.cells (rqCs c2 n2 p (.slice Ba ma da0) (.slice Bp mp dp0) (.slice Bc mc dc0)) 57)
 have ky := Blk.new (w.alloc (.cells (rqCs c1 n1 o (.slice Aa na ca0) (.slice Ap np cp0) (.slice Ac nc cc0)) 57)) 57 (rqCs c2 n2 p (.slice Ba ma da0) (.slice Bp mp dp0) (.slice Bc mc dc0))
 rw [World.size_alloc] at ky
 obtain ⟨Bx, hBx⟩ : ∃ b, b = w.heap.size := ⟨_, rfl⟩
 obtain ⟨By, hBy⟩ : ∃ b, b = w.heap.size + 1 := ⟨_, rfl⟩
 have H0 : Hid (LQ w Bx By (rqCs c1 n1 o (.slice Aa na ca0) (.slice Ap np cp0) (.slice Ac nc cc0)) (rqCs c2 n2 p (.slice Ba ma da0) (.slice Bp mp dp0) (.slice Bc mc dc0)) ((w.alloc (.cells (rqCs c1 n1 o (.slice Aa na ca0) (.slice Ap np cp0) (.slice Ac nc cc0)) 57)).alloc (.cells (rqCs c2 n2 p (.slice Ba ma da0) (.slice Bp mp dp0) (.slice Bc mc dc0)) 57))) := Lib.hid ⟨hb0, hBx ▸ kx, hBy ▸ ky⟩
 clear hb0 kx ky ho hp hlo hlp
 have hcases : bigO o = true ∨ (bigO o = false ∧ bigO p = true) ∨ (bigO o = false ∧ bigO p = false ∧ 20000 < n) := by
   cases h1 : bigO o with
   | true => exact .inl rfl
   | false =>
     cases h2 : bigO p with
     | true => exact .inr (.inl ⟨rfl, rfl⟩)
     | false => exact .inr (.inr ⟨rfl, rfl, by
         rcases Nat.lt_or_ge 20000 n with h3 | h3
         · exact h3
         · exact absurd ⟨h1, h2, h3⟩ h⟩)
 clear h
 rcases hcases with hc | ⟨hc, hc2⟩ | ⟨hc, hc2, hc3⟩
 · have HBO := Lib.hid hc
   clear hc
   go_enter Tryz.func5, Tryz.ntmps5
   go_upto_region 1 with fail
   rw [← hBy, ← hBx]
   generalize (w.alloc (.cells (rqCs c1 n1 o (.slice Aa na ca0) (.slice Ap np cp0) (.slice Ac nc cc0)) 57)).alloc (.cells (rqCs c2 n2 p (.slice Ba ma da0) (.slice Bp mp dp0) (.slice Bc mc dc0)) 57) = W0 at H0 ⊢
   clear hBx hBy
   obtain ⟨x0, x1, x2, x3, x4, x5, x6, x7, x8⟩ := rq_cells H0.out.x
   obtain ⟨y0, y1, y2, y3, y4, y5, y6, y7, y8⟩ := rq_cells H0.out.y
   have HB1 := zbig_any o _ _ _ W0 (HA.out _ H0.out.bel).1 HLO.out
   rw [HBO.out] at HB1
   have HB1 := Lib.hid HB1
   go_wp2_with (first
     | (go_at_call 7; (with_reducible refine HB1.out.mono ?_); clear HB1 x0 x1 x2 x3 x4 x5 x6 x7 x8 y0 y1 y2 y3 y4 y5 y6 y7 y8; rintro e w1 ⟨rfl, hb1⟩; dsimp only; have H1 := Lib.hid (H0.out.on hb1); clear hb1; have HKN := Lib.hid (known_any w1))
     | (go_at_call 8; (with_reducible refine HKN.out.mono ?_); rintro e w11 ⟨rfl, hb11⟩; dsimp only; have H11 := Lib.hid (H1.out.on hb11); clear hb11))
   go_ret
   exact ⟨rfl, H11.out.bel⟩
 · have HBO := Lib.hid hc
   clear hc
   have HBP := Lib.hid hc2
   clear hc2
   go_enter Tryz.func5, Tryz.ntmps5
   go_upto_region 1 with fail
   rw [← hBy, ← hBx]
   generalize (w.alloc (.cells (rqCs c1 n1 o (.slice Aa na ca0) (.slice Ap np cp0) (.slice Ac nc cc0)) 57)).alloc (.cells (rqCs c2 n2 p (.slice Ba ma da0) (.slice Bp mp dp0) (.slice Bc mc dc0)) 57) = W0 at H0 ⊢
   clear hBx hBy
   obtain ⟨x0, x1, x2, x3, x4, x5, x6, x7, x8⟩ := rq_cells H0.out.x
   obtain ⟨y0, y1, y2, y3, y4, y5, y6, y7, y8⟩ := rq_cells H0.out.y
   have HB1 := zbig_any o _ _ _ W0 (HA.out _ H0.out.bel).1 HLO.out
   rw [HBO.out] at HB1
   have HB1 := Lib.hid HB1
   go_wp2_with (first
     | (go_at_call 7; (with_reducible refine HB1.out.mono ?_); clear HB1 x0 x1 x2 x3 x4 x5 x6 x7 x8 y0 y1 y2 y3 y4 y5 y6 y7 y8; rintro e w1 ⟨rfl, hb1⟩; dsimp only; have H1 := Lib.hid (H0.out.on hb1); clear hb1; obtain ⟨y0, y1, y2, y3, y4, y5, y6, y7, y8⟩ := rq_cells H1.out.y; have HB2 : Hid (Calls Tryz.prog 7 #[opVal p (.slice Ba ma da0) (.slice Bp mp dp0) (.slice Bc mc dc0)] w1 fun e w' => e = .returned (.bool true) ∧ Below w1.heap.size w1 w') := Lib.hid (by have h := zbig_any p _ _ _ w1 (HA.out _ H1.out.bel).2 HLP.out; rw [HBP.out] at h; exact h))
     | (go_at_call 7; (with_reducible refine HB2.out.mono ?_); clear HB2 y0 y1 y2 y3 y4 y5 y6 y7 y8; rintro e w2 ⟨rfl, hb2⟩; dsimp only; have H2 := Lib.hid (H1.out.on hb2); clear hb2; have HKN := Lib.hid (known_any w2))
     | (go_at_call 8; (with_reducible refine HKN.out.mono ?_); rintro e w11 ⟨rfl, hb11⟩; dsimp only; have H11 := Lib.hid (H2.out.on hb11); clear hb11))
   go_ret
   exact ⟨rfl, H11.out.bel⟩
 · have HBO := Lib.hid hc
   clear hc
   have HBP := Lib.hid hc2
   clear hc2
   have hn1 : (20000 : Int) < (n : Int) := by omega
   clear hc3
   go_enter Tryz.func5, Tryz.ntmps5
   go_upto_region 1 with fail
   rw [← hBy, ← hBx]
   generalize (w.alloc (.cells (rqCs c1 n1 o (.slice Aa na ca0) (.slice Ap np cp0) (.slice Ac nc cc0)) 57)).alloc (.cells (rqCs c2 n2 p (.slice Ba ma da0) (.slice Bp mp dp0) (.slice Bc mc dc0)) 57) = W0 at H0 ⊢
   clear hBx hBy
   obtain ⟨x0, x1, x2, x3, x4, x5, x6, x7, x8⟩ := rq_cells H0.out.x
   obtain ⟨y0, y1, y2, y3, y4, y5, y6, y7, y8⟩ := rq_cells H0.out.y
   have HB1 := zbig_any o _ _ _ W0 (HA.out _ H0.out.bel).1 HLO.out
   rw [HBO.out] at HB1
   have HB1 := Lib.hid HB1
   go_wp2_with (first
     | (go_at_call 7; (with_reducible refine HB1.out.mono ?_); clear HB1 x0 x1 x2 x3 x4 x5 x6 x7 x8 y0 y1 y2 y3 y4 y5 y6 y7 y8; rintro e w1 ⟨rfl, hb1⟩; dsimp only; have H1 := Lib.hid (H0.out.on hb1); clear hb1; obtain ⟨y0, y1, y2, y3, y4, y5, y6, y7, y8⟩ := rq_cells H1.out.y; have HB2 : Hid (Calls Tryz.prog 7 #[opVal p (.slice Ba ma da0) (.slice Bp mp dp0) (.slice Bc mc dc0)] w1 fun e w' => e = .returned (.bool false) ∧ Below w1.heap.size w1 w') := Lib.hid (by have h := zbig_any p _ _ _ w1 (HA.out _ H1.out.bel).2 HLP.out; rw [HBP.out] at h; exact h))
     | (go_at_call 7; (with_reducible refine HB2.out.mono ?_); clear HB2 y0 y1 y2 y3 y4 y5 y6 y7 y8; rintro e w2 ⟨rfl, hb2⟩; dsimp only; have H2 := Lib.hid (H1.out.on hb2); clear hb2; have HKN := Lib.hid (known_any w2))
     | (go_at_call 8; (with_reducible refine HKN.out.mono ?_); rintro e w11 ⟨rfl, hb11⟩; dsimp only; have H11 := Lib.hid (H2.out.on hb11); clear hb11))
   go_ret
   exact ⟨rfl, H11.out.bel⟩
theorem lawRq_any (c1 n1 c2 n2 : Int) (o p : Opn) (va vp vc xa xp xc : Value) (A : Option Addr) (c : Nat) (l : List Int) (w : World) (hcn1 : Cn c1 n1) (hcn2 : Cn c2 n2) (ho : OpAt w o va vp vc) (hp : OpAt w p xa xp xc) (hlo : Lim0 o) (hlp : Lim0 p)
   (hr : Rd w w.heap.size A l) (hby : Byt l) (hn : l.length ≤ 9223372036854775807) (hc : l.length ≤ c) (hcm : c ≤ 9223372036854775807) :
   Calls Tryz.prog 5 #[rqVal c1 n1 o va vp vc, rqVal c2 n2 p xa xp xc, .slice A l.length c] w fun e w' => e = .returned (.bool true) ∧ Below w.heap.size w w' := by
 by_cases h : bigO o = false ∧ bigO p = false ∧ l.length ≤ 20000
 · obtain ⟨h1, h2, h3⟩ := h
   by_cases hy : ∃ c0 n0 ob, Cn c0 n0 ∧ mayO ob = true ∧ l = rqB c0 n0 ob
   · obtain ⟨c0, n0, ob, h0, h4, h5⟩ := hy
     cases hm : mayO o with
     | true => exact lawRq_m c1 n1 c2 n2 c0 n0 0 true o p ob va vp vc xa xp xc A c l.length w hcn1 hcn2 ho hp (hlo.lim h1) (hlp.lim h2) h1 h2 h3 hm (fun W hb => requestOf_yes A c l c0 n0 ob W ((hr.below hb).more hb.size) hby (by omega) h0 h4 h5) (fun W hb => refRequestOf_yes A c l c0 n0 ob W ((hr.below hb).more hb.size) hby (by omega) hc hcm h0 h4 h5) (.inl ⟨rfl, rfl⟩)
     | false => exact lawRq_n c1 n1 c2 n2 c0 n0 0 true o p ob va vp vc xa xp xc A c l.length w hcn1 hcn2 ho hp (hlo.lim h1) (hlp.lim h2) h1 h2 h3 hm (fun W hb => requestOf_yes A c l c0 n0 ob W ((hr.below hb).more hb.size) hby (by omega) h0 h4 h5) (fun W hb => refRequestOf_yes A c l c0 n0 ob W ((hr.below hb).more hb.size) hby (by omega) hc hcm h0 h4 h5) (.inl ⟨rfl, rfl⟩)
   · have hno : ∀ c n o, Cn c n → mayO o = true → l ≠ rqB c n o := fun c0 n0 q h0 h4 h5 => hy ⟨c0, n0, q, h0, h4, h5⟩
     cases hm : mayO o with
     | true => exact lawRq_m c1 n1 c2 n2 0 0 4 false o p (o0 0) va vp vc xa xp xc A c l.length w hcn1 hcn2 ho hp (hlo.lim h1) (hlp.lim h2) h1 h2 h3 hm (fun W hb => requestOf_no A c l W ((hr.below hb).more hb.size) hby (by omega) hno) (fun W hb => refRequestOf_no A c l W ((hr.below hb).more hb.size) hby (by omega) hc hcm hno) (.inr ⟨rfl, rfl⟩)
     | false => exact lawRq_n c1 n1 c2 n2 0 0 4 false o p (o0 0) va vp vc xa xp xc A c l.length w hcn1 hcn2 ho hp (hlo.lim h1) (hlp.lim h2) h1 h2 h3 hm (fun W hb => requestOf_no A c l W ((hr.below hb).more hb.size) hby (by omega) hno) (fun W hb => refRequestOf_no A c l W ((hr.below hb).more hb.size) hby (by omega) hc hcm hno) (.inr ⟨rfl, rfl⟩)
 · exact lawRq_out c1 n1 c2 n2 o p va vp vc xa xp xc A c l.length w ho hp hlo hlp hn h
end Go.Proofs.YtcjiofhjognklaaGreat.Tlv
