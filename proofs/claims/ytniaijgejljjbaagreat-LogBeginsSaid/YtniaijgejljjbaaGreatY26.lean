/- May it be an operation, by the document. -/
import Derived.Test.YtniaijgejljjbaaGreatY25
namespace Go.Proofs.YtniaijgejljjbaaGreat.Tlv
open Go.RowKit
set_option maxRecDepth 100000
set_option linter.unusedVariables false
set_option linter.unusedSimpArgs false
set_option maxHeartbeats 16000000 in
theorem rmay0 (o : Opn) (va vp vc : Value) (w : World) (ho : OpAt w o va vp vc) (hl : Lim o)  (h0 : isK o.k = false) : Calls Tryz.prog 39 #[opVal o va vp vc] w fun e w' => e = .returned (.bool false) ∧ Below w.heap.size w w' := by
 have HL := Lib.hid hl
 have HA := Lib.hid fun (W : World) (hb : Below w.heap.size w W) => ho.on hb
 obtain ⟨Aa, ca, na, rfl, HNo, hRA0⟩ := rdv_len ho.a
 obtain ⟨Ap, cp, np, rfl, HPo, HPr⟩ := ho.p.full
 obtain ⟨Ac, cc, nc, rfl, HCo, _⟩ := ho.c.full
 have hRA := Lib.hid hRA0
 clear hRA0
 have HH := Lib.hid (And.intro h0 trivial)
 have hb0 : Below w.heap.size w (w.alloc (.cells (opCs o (.slice Aa na ca) (.slice Ap np cp) (.slice Ac nc cc)) 44)) := (Below.refl _ _).alloc (Nat.le_refl _) _
 have k0 := Blk.new w 44 (opCs o (.slice Aa na ca) (.slice Ap np cp) (.slice Ac nc cc))
 obtain ⟨Bx, hBx⟩ : ∃ b, b = w.heap.size := ⟨_, rfl⟩
 have H0 := Lib.hid (And.intro hb0 (show Blk _ Bx 44 _ from hBx ▸ k0))
 clear hb0 k0 ho hl h0
 go_enter Tryz.func39, Tryz.ntmps39
 go_upto_region 1 with fail
 rw [← hBx]
 generalize w.alloc (.cells (opCs o (.slice Aa na ca) (.slice Ap np cp) (.slice Ac nc cc)) 44) = W0 at H0 ⊢
 clear hBx
 have HBR := Lib.hid (bare_any o _ _ _ W0 (HA.out _ H0.out.1))
 go_upto_region 2 with (first
   | (refine wpList_load_row rfl 44 _ rfl Bx rfl 44 (opCs o (.slice Aa na ca) (.slice Ap np cp) (.slice Ac nc cc)) (0, 0) _ H0.out.2 rfl rfl (by kernel_rfl) ?_)
   | (go_at_call 48; (with_reducible refine HBR.out.mono ?_); clear HBR; rintro e w1 ⟨va', vp', vc', rfl, hat, hb1⟩; obtain ⟨Ba, da, ma, rfl, _, _⟩ := rdv_len hat.a; obtain ⟨Bp, dp, mp, rfl⟩ := hat.p.len; obtain ⟨Bc, dc, mc, rfl, _⟩ := hat.c.len; dsimp only; have H1 := Lib.hid (And.intro hat (And.intro (H0.out.1.trans (hb1.mono H0.out.1.size)) (H0.out.2.on hb1))); clear hat hb1)
   | (refine wpList_store_rowTo rfl 44 _ _ rfl rfl w1.heap.size (opCs (bareO o) (.slice Ba ma da) (.slice Bp mp dp) (.slice Bc mc dc)) rfl rfl 44 zCs (Blk.new w1 44 zCs) (by kernel_rfl) rfl (by kernel_rfl) ?_))
 have hb2 : Below w1.heap.size w1 ((w1.alloc (.cells zCs 44)).setRow w1.heap.size (opCs (bareO o) (.slice Ba ma da) (.slice Bp mp dp) (.slice Bc mc dc))) := below_setRow ((Below.refl _ _).alloc (Nat.le_refl _) (.cells zCs 44)) (Nat.le_refl _) _
 have kB : Blk ((w1.alloc (.cells zCs 44)).setRow w1.heap.size (opCs (bareO o) (.slice Ba ma da) (.slice Bp mp dp) (.slice Bc mc dc))) w1.heap.size 44 (opCs (bareO o) (.slice Ba ma da) (.slice Bp mp dp) (.slice Bc mc dc)) := (Blk.new w1 44 zCs).row _
 have h2' := And.intro (H1.out.1.on hb2) (And.intro (H1.out.2.1.trans (hb2.mono H1.out.2.1.size)) (And.intro (H1.out.2.2.on hb2) kB))
 obtain ⟨Bb, hBb⟩ : ∃ b, b = w1.heap.size := ⟨_, rfl⟩
 rw [← hBb] at h2' ⊢
 clear hb2 kB hBb H0 H1
 generalize (w1.alloc (.cells zCs 44)).setRow Bb (opCs (bareO o) (.slice Ba ma da) (.slice Bp mp dp) (.slice Bc mc dc)) = W at h2' ⊢
 have H2 := Lib.hid h2'
 clear h2'
 rw [HH.out.1]
 go_wp2_with fail
 go_ret
 exact ⟨rfl, H2.out.2.1⟩
set_option maxHeartbeats 16000000 in
theorem rmay1 (o : Opn) (va vp vc : Value) (w : World) (ho : OpAt w o va vp vc) (hl : Lim o) (h0 : isK o.k = true) (h1 : sameO o (bareO o) = false) : Calls Tryz.prog 39 #[opVal o va vp vc] w fun e w' => e = .returned (.bool false) ∧ Below w.heap.size w w' := by
 have HL := Lib.hid hl
 have HA := Lib.hid fun (W : World) (hb : Below w.heap.size w W) => ho.on hb
 obtain ⟨Aa, ca, na, rfl, HNo, hRA0⟩ := rdv_len ho.a
 obtain ⟨Ap, cp, np, rfl, HPo, HPr⟩ := ho.p.full
 obtain ⟨Ac, cc, nc, rfl, HCo, _⟩ := ho.c.full
 have hRA := Lib.hid hRA0
 clear hRA0
 have HH := Lib.hid (And.intro h0 (And.intro h1 trivial))
 have hb0 : Below w.heap.size w (w.alloc (.cells (opCs o (.slice Aa na ca) (.slice Ap np cp) (.slice Ac nc cc)) 44)) := (Below.refl _ _).alloc (Nat.le_refl _) _
 have k0 := Blk.new w 44 (opCs o (.slice Aa na ca) (.slice Ap np cp) (.slice Ac nc cc))
 obtain ⟨Bx, hBx⟩ : ∃ b, b = w.heap.size := ⟨_, rfl⟩
 have H0 := Lib.hid (And.intro hb0 (show Blk _ Bx 44 _ from hBx ▸ k0))
 clear hb0 k0 ho hl h0 h1
 go_enter Tryz.func39, Tryz.ntmps39
 go_upto_region 1 with fail
 rw [← hBx]
 generalize w.alloc (.cells (opCs o (.slice Aa na ca) (.slice Ap np cp) (.slice Ac nc cc)) 44) = W0 at H0 ⊢
 clear hBx
 have HBR := Lib.hid (bare_any o _ _ _ W0 (HA.out _ H0.out.1))
 go_upto_region 2 with (first
   | (refine wpList_load_row rfl 44 _ rfl Bx rfl 44 (opCs o (.slice Aa na ca) (.slice Ap np cp) (.slice Ac nc cc)) (0, 0) _ H0.out.2 rfl rfl (by kernel_rfl) ?_)
   | (go_at_call 48; (with_reducible refine HBR.out.mono ?_); clear HBR; rintro e w1 ⟨va', vp', vc', rfl, hat, hb1⟩; obtain ⟨Ba, da, ma, rfl, _, _⟩ := rdv_len hat.a; obtain ⟨Bp, dp, mp, rfl⟩ := hat.p.len; obtain ⟨Bc, dc, mc, rfl, _⟩ := hat.c.len; dsimp only; have H1 := Lib.hid (And.intro hat (And.intro (H0.out.1.trans (hb1.mono H0.out.1.size)) (H0.out.2.on hb1))); clear hat hb1)
   | (refine wpList_store_rowTo rfl 44 _ _ rfl rfl w1.heap.size (opCs (bareO o) (.slice Ba ma da) (.slice Bp mp dp) (.slice Bc mc dc)) rfl rfl 44 zCs (Blk.new w1 44 zCs) (by kernel_rfl) rfl (by kernel_rfl) ?_))
 have hb2 : Below w1.heap.size w1 ((w1.alloc (.cells zCs 44)).setRow w1.heap.size (opCs (bareO o) (.slice Ba ma da) (.slice Bp mp dp) (.slice Bc mc dc))) := below_setRow ((Below.refl _ _).alloc (Nat.le_refl _) (.cells zCs 44)) (Nat.le_refl _) _
 have kB : Blk ((w1.alloc (.cells zCs 44)).setRow w1.heap.size (opCs (bareO o) (.slice Ba ma da) (.slice Bp mp dp) (.slice Bc mc dc))) w1.heap.size 44 (opCs (bareO o) (.slice Ba ma da) (.slice Bp mp dp) (.slice Bc mc dc)) := (Blk.new w1 44 zCs).row _
 have h2' := And.intro (H1.out.1.on hb2) (And.intro (H1.out.2.1.trans (hb2.mono H1.out.2.1.size)) (And.intro (H1.out.2.2.on hb2) kB))
 obtain ⟨Bb, hBb⟩ : ∃ b, b = w1.heap.size := ⟨_, rfl⟩
 rw [← hBb] at h2' ⊢
 clear hb2 kB hBb H0 H1
 generalize (w1.alloc (.cells zCs 44)).setRow Bb (opCs (bareO o) (.slice Ba ma da) (.slice Bp mp dp) (.slice Bc mc dc)) = W at h2' ⊢
 have H2 := Lib.hid h2'
 clear h2'
 rw [HH.out.1]
 have HSM := refSameOp_any o (bareO o) _ _ _ _ _ _ W (HA.out _ H2.out.2.1) H2.out.1 HL.out (bareO_lim HL.out)
 rw [HH.out.2.1] at HSM
 have HSM := Lib.hid HSM
 have x0 : W.cell? ⟨Bx, 0, none⟩ = some (.int .i64 o.k) := H2.out.2.2.1.cell 0
 have x1 : W.cell? ⟨Bx, 1, none⟩ = some (.string (sx o.name)) := H2.out.2.2.1.cell 1
 have x2 : W.cell? ⟨Bx, 2, none⟩ = some (.string (sx o.dst)) := H2.out.2.2.1.cell 2
 have x3 : W.cell? ⟨Bx, 3, none⟩ = some (.slice Aa na ca) := H2.out.2.2.1.cell 3
 have x4 : W.cell? ⟨Bx, 4, none⟩ = some (.slice Ap np cp) := H2.out.2.2.1.cell 4
 have x5 : W.cell? ⟨Bx, 5, none⟩ = some (.slice Ac nc cc) := H2.out.2.2.1.cell 5
 have x6 : W.cell? ⟨Bx, 6, none⟩ = some (.int .i64 o.n) := H2.out.2.2.1.cell 6
 have b0 : W.cell? ⟨Bb, 0, none⟩ = some (.int .i64 (bareO o).k) := H2.out.2.2.2.cell 0
 have b1 : W.cell? ⟨Bb, 1, none⟩ = some (.string (sx (bareO o).name)) := H2.out.2.2.2.cell 1
 have b2 : W.cell? ⟨Bb, 2, none⟩ = some (.string (sx (bareO o).dst)) := H2.out.2.2.2.cell 2
 have b3 : W.cell? ⟨Bb, 3, none⟩ = some (.slice Ba ma da) := H2.out.2.2.2.cell 3
 have b4 : W.cell? ⟨Bb, 4, none⟩ = some (.slice Bp mp dp) := H2.out.2.2.2.cell 4
 have b5 : W.cell? ⟨Bb, 5, none⟩ = some (.slice Bc mc dc) := H2.out.2.2.2.cell 5
 have b6 : W.cell? ⟨Bb, 6, none⟩ = some (.int .i64 (bareO o).n) := H2.out.2.2.2.cell 6
 go_wp2_with (first
   | (go_at_call 42; (with_reducible refine HSM.out.mono ?_); clear HSM; clear x0 x1 x2 x3 x4 x5 x6; clear b0 b1 b2 b3 b4 b5 b6; rintro e w3 ⟨rfl, hb3⟩; dsimp only; have H3 := Lib.hid (And.intro (H2.out.2.1.trans (hb3.mono H2.out.2.1.size)) (H2.out.2.2.1.on hb3)); clear hb3))
 go_ret
 exact ⟨rfl, H3.out.1⟩
set_option maxHeartbeats 16000000 in
theorem rmay2 (o : Opn) (va vp vc : Value) (w : World) (ho : OpAt w o va vp vc) (hl : Lim o) (h0 : isK o.k = true) (h1 : sameO o (bareO o) = true) (h2 : mayN o.name = false) : Calls Tryz.prog 39 #[opVal o va vp vc] w fun e w' => e = .returned (.bool false) ∧ Below w.heap.size w w' := by
 have HL := Lib.hid hl
 have HA := Lib.hid fun (W : World) (hb : Below w.heap.size w W) => ho.on hb
 obtain ⟨Aa, ca, na, rfl, HNo, hRA0⟩ := rdv_len ho.a
 obtain ⟨Ap, cp, np, rfl, HPo, HPr⟩ := ho.p.full
 obtain ⟨Ac, cc, nc, rfl, HCo, _⟩ := ho.c.full
 have hRA := Lib.hid hRA0
 clear hRA0
 have HH := Lib.hid (And.intro h0 (And.intro h1 (And.intro h2 trivial)))
 have hb0 : Below w.heap.size w (w.alloc (.cells (opCs o (.slice Aa na ca) (.slice Ap np cp) (.slice Ac nc cc)) 44)) := (Below.refl _ _).alloc (Nat.le_refl _) _
 have k0 := Blk.new w 44 (opCs o (.slice Aa na ca) (.slice Ap np cp) (.slice Ac nc cc))
 obtain ⟨Bx, hBx⟩ : ∃ b, b = w.heap.size := ⟨_, rfl⟩
 have H0 := Lib.hid (And.intro hb0 (show Blk _ Bx 44 _ from hBx ▸ k0))
 clear hb0 k0 ho hl h0 h1 h2
 go_enter Tryz.func39, Tryz.ntmps39
 go_upto_region 1 with fail
 rw [← hBx]
 generalize w.alloc (.cells (opCs o (.slice Aa na ca) (.slice Ap np cp) (.slice Ac nc cc)) 44) = W0 at H0 ⊢
 clear hBx
 have HBR := Lib.hid (bare_any o _ _ _ W0 (HA.out _ H0.out.1))
 go_upto_region 2 with (first
   | (refine wpList_load_row rfl 44 _ rfl Bx rfl 44 (opCs o (.slice Aa na ca) (.slice Ap np cp) (.slice Ac nc cc)) (0, 0) _ H0.out.2 rfl rfl (by kernel_rfl) ?_)
   | (go_at_call 48; (with_reducible refine HBR.out.mono ?_); clear HBR; rintro e w1 ⟨va', vp', vc', rfl, hat, hb1⟩; obtain ⟨Ba, da, ma, rfl, _, _⟩ := rdv_len hat.a; obtain ⟨Bp, dp, mp, rfl⟩ := hat.p.len; obtain ⟨Bc, dc, mc, rfl, _⟩ := hat.c.len; dsimp only; have H1 := Lib.hid (And.intro hat (And.intro (H0.out.1.trans (hb1.mono H0.out.1.size)) (H0.out.2.on hb1))); clear hat hb1)
   | (refine wpList_store_rowTo rfl 44 _ _ rfl rfl w1.heap.size (opCs (bareO o) (.slice Ba ma da) (.slice Bp mp dp) (.slice Bc mc dc)) rfl rfl 44 zCs (Blk.new w1 44 zCs) (by kernel_rfl) rfl (by kernel_rfl) ?_))
 have hb2 : Below w1.heap.size w1 ((w1.alloc (.cells zCs 44)).setRow w1.heap.size (opCs (bareO o) (.slice Ba ma da) (.slice Bp mp dp) (.slice Bc mc dc))) := below_setRow ((Below.refl _ _).alloc (Nat.le_refl _) (.cells zCs 44)) (Nat.le_refl _) _
 have kB : Blk ((w1.alloc (.cells zCs 44)).setRow w1.heap.size (opCs (bareO o) (.slice Ba ma da) (.slice Bp mp dp) (.slice Bc mc dc))) w1.heap.size 44 (opCs (bareO o) (.slice Ba ma da) (.slice Bp mp dp) (.slice Bc mc dc)) := (Blk.new w1 44 zCs).row _
 have h2' := And.intro (H1.out.1.on hb2) (And.intro (H1.out.2.1.trans (hb2.mono H1.out.2.1.size)) (And.intro (H1.out.2.2.on hb2) kB))
 obtain ⟨Bb, hBb⟩ : ∃ b, b = w1.heap.size := ⟨_, rfl⟩
 rw [← hBb] at h2' ⊢
 clear hb2 kB hBb H0 H1
 generalize (w1.alloc (.cells zCs 44)).setRow Bb (opCs (bareO o) (.slice Ba ma da) (.slice Bp mp dp) (.slice Bc mc dc)) = W at h2' ⊢
 have H2 := Lib.hid h2'
 clear h2'
 rw [HH.out.1]
 have HSM := refSameOp_any o (bareO o) _ _ _ _ _ _ W (HA.out _ H2.out.2.1) H2.out.1 HL.out (bareO_lim HL.out)
 rw [HH.out.2.1] at HSM
 have HSM := Lib.hid HSM
 have x0 : W.cell? ⟨Bx, 0, none⟩ = some (.int .i64 o.k) := H2.out.2.2.1.cell 0
 have x1 : W.cell? ⟨Bx, 1, none⟩ = some (.string (sx o.name)) := H2.out.2.2.1.cell 1
 have x2 : W.cell? ⟨Bx, 2, none⟩ = some (.string (sx o.dst)) := H2.out.2.2.1.cell 2
 have x3 : W.cell? ⟨Bx, 3, none⟩ = some (.slice Aa na ca) := H2.out.2.2.1.cell 3
 have x4 : W.cell? ⟨Bx, 4, none⟩ = some (.slice Ap np cp) := H2.out.2.2.1.cell 4
 have x5 : W.cell? ⟨Bx, 5, none⟩ = some (.slice Ac nc cc) := H2.out.2.2.1.cell 5
 have x6 : W.cell? ⟨Bx, 6, none⟩ = some (.int .i64 o.n) := H2.out.2.2.1.cell 6
 have b0 : W.cell? ⟨Bb, 0, none⟩ = some (.int .i64 (bareO o).k) := H2.out.2.2.2.cell 0
 have b1 : W.cell? ⟨Bb, 1, none⟩ = some (.string (sx (bareO o).name)) := H2.out.2.2.2.cell 1
 have b2 : W.cell? ⟨Bb, 2, none⟩ = some (.string (sx (bareO o).dst)) := H2.out.2.2.2.cell 2
 have b3 : W.cell? ⟨Bb, 3, none⟩ = some (.slice Ba ma da) := H2.out.2.2.2.cell 3
 have b4 : W.cell? ⟨Bb, 4, none⟩ = some (.slice Bp mp dp) := H2.out.2.2.2.cell 4
 have b5 : W.cell? ⟨Bb, 5, none⟩ = some (.slice Bc mc dc) := H2.out.2.2.2.cell 5
 have b6 : W.cell? ⟨Bb, 6, none⟩ = some (.int .i64 (bareO o).n) := H2.out.2.2.2.cell 6
 go_wp2_with (first
   | (go_at_call 42; (with_reducible refine HSM.out.mono ?_); clear HSM; clear x0 x1 x2 x3 x4 x5 x6; clear b0 b1 b2 b3 b4 b5 b6; rintro e w3 ⟨rfl, hb3⟩; dsimp only; have H3 := Lib.hid (And.intro (H2.out.2.1.trans (hb3.mono H2.out.2.1.size)) (H2.out.2.2.1.on hb3)); clear hb3; have x0 : w3.cell? ⟨Bx, 0, none⟩ = some (.int .i64 o.k) := H3.out.2.cell 0; have x1 : w3.cell? ⟨Bx, 1, none⟩ = some (.string (sx o.name)) := H3.out.2.cell 1; have x2 : w3.cell? ⟨Bx, 2, none⟩ = some (.string (sx o.dst)) := H3.out.2.cell 2; have x3 : w3.cell? ⟨Bx, 3, none⟩ = some (.slice Aa na ca) := H3.out.2.cell 3; have x4 : w3.cell? ⟨Bx, 4, none⟩ = some (.slice Ap np cp) := H3.out.2.cell 4; have x5 : w3.cell? ⟨Bx, 5, none⟩ = some (.slice Ac nc cc) := H3.out.2.cell 5; have x6 : w3.cell? ⟨Bx, 6, none⟩ = some (.int .i64 o.n) := H3.out.2.cell 6; have HN1 : Hid (Calls Tryz.prog 49 #[.string (sx o.name)] w3 fun e w' => e = .returned (.bool false) ∧ Below w3.heap.size w3 w') := Lib.hid (by have h := refMayName_any o.name w3 HL.out.ln; rw [HH.out.2.2.1] at h; exact h))
   | (go_at_call 49; (with_reducible refine HN1.out.mono ?_); clear HN1; clear x0 x1 x2 x3 x4 x5 x6; rintro e w4 ⟨rfl, hb4⟩; dsimp only; have H4 := Lib.hid (And.intro (H3.out.1.trans (hb4.mono H3.out.1.size)) (H3.out.2.on hb4)); clear hb4))
 go_ret
 exact ⟨rfl, H4.out.1⟩
set_option maxHeartbeats 16000000 in
theorem rmay3 (o : Opn) (va vp vc : Value) (w : World) (ho : OpAt w o va vp vc) (hl : Lim o) (h0 : isK o.k = true) (h1 : sameO o (bareO o) = true) (h2 : mayN o.name = true) (h3 : mayN o.dst = false) : Calls Tryz.prog 39 #[opVal o va vp vc] w fun e w' => e = .returned (.bool false) ∧ Below w.heap.size w w' := by
 have HL := Lib.hid hl
 have HA := Lib.hid fun (W : World) (hb : Below w.heap.size w W) => ho.on hb
 obtain ⟨Aa, ca, na, rfl, HNo, hRA0⟩ := rdv_len ho.a
 obtain ⟨Ap, cp, np, rfl, HPo, HPr⟩ := ho.p.full
 obtain ⟨Ac, cc, nc, rfl, HCo, _⟩ := ho.c.full
 have hRA := Lib.hid hRA0
 clear hRA0
 have HH := Lib.hid (And.intro h0 (And.intro h1 (And.intro h2 (And.intro h3 trivial))))
 have hb0 : Below w.heap.size w (w.alloc (.cells (opCs o (.slice Aa na ca) (.slice Ap np cp) (.slice Ac nc cc)) 44)) := (Below.refl _ _).alloc (Nat.le_refl _) _
 have k0 := Blk.new w 44 (opCs o (.slice Aa na ca) (.slice Ap np cp) (.slice Ac nc cc))
 obtain ⟨Bx, hBx⟩ : ∃ b, b = w.heap.size := ⟨_, rfl⟩
 have H0 := Lib.hid (And.intro hb0 (show Blk _ Bx 44 _ from hBx ▸ k0))
 clear hb0 k0 ho hl h0 h1 h2 h3
 go_enter Tryz.func39, Tryz.ntmps39
 go_upto_region 1 with fail
 rw [← hBx]
 generalize w.alloc (.cells (opCs o (.slice Aa na ca) (.slice Ap np cp) (.slice Ac nc cc)) 44) = W0 at H0 ⊢
 clear hBx
 have HBR := Lib.hid (bare_any o _ _ _ W0 (HA.out _ H0.out.1))
 go_upto_region 2 with (first
   | (refine wpList_load_row rfl 44 _ rfl Bx rfl 44 (opCs o (.slice Aa na ca) (.slice Ap np cp) (.slice Ac nc cc)) (0, 0) _ H0.out.2 rfl rfl (by kernel_rfl) ?_)
   | (go_at_call 48; (with_reducible refine HBR.out.mono ?_); clear HBR; rintro e w1 ⟨va', vp', vc', rfl, hat, hb1⟩; obtain ⟨Ba, da, ma, rfl, _, _⟩ := rdv_len hat.a; obtain ⟨Bp, dp, mp, rfl⟩ := hat.p.len; obtain ⟨Bc, dc, mc, rfl, _⟩ := hat.c.len; dsimp only; have H1 := Lib.hid (And.intro hat (And.intro (H0.out.1.trans (hb1.mono H0.out.1.size)) (H0.out.2.on hb1))); clear hat hb1)
   | (refine wpList_store_rowTo rfl 44 _ _ rfl rfl w1.heap.size (opCs (bareO o) (.slice Ba ma da) (.slice Bp mp dp) (.slice Bc mc dc)) rfl rfl 44 zCs (Blk.new w1 44 zCs) (by kernel_rfl) rfl (by kernel_rfl) ?_))
 have hb2 : Below w1.heap.size w1 ((w1.alloc (.cells zCs 44)).setRow w1.heap.size (opCs (bareO o) (.slice Ba ma da) (.slice Bp mp dp) (.slice Bc mc dc))) := below_setRow ((Below.refl _ _).alloc (Nat.le_refl _) (.cells zCs 44)) (Nat.le_refl _) _
 have kB : Blk ((w1.alloc (.cells zCs 44)).setRow w1.heap.size (opCs (bareO o) (.slice Ba ma da) (.slice Bp mp dp) (.slice Bc mc dc))) w1.heap.size 44 (opCs (bareO o) (.slice Ba ma da) (.slice Bp mp dp) (.slice Bc mc dc)) := (Blk.new w1 44 zCs).row _
 have h2' := And.intro (H1.out.1.on hb2) (And.intro (H1.out.2.1.trans (hb2.mono H1.out.2.1.size)) (And.intro (H1.out.2.2.on hb2) kB))
 obtain ⟨Bb, hBb⟩ : ∃ b, b = w1.heap.size := ⟨_, rfl⟩
 rw [← hBb] at h2' ⊢
 clear hb2 kB hBb H0 H1
 generalize (w1.alloc (.cells zCs 44)).setRow Bb (opCs (bareO o) (.slice Ba ma da) (.slice Bp mp dp) (.slice Bc mc dc)) = W at h2' ⊢
 have H2 := Lib.hid h2'
 clear h2'
 rw [HH.out.1]
 have HSM := refSameOp_any o (bareO o) _ _ _ _ _ _ W (HA.out _ H2.out.2.1) H2.out.1 HL.out (bareO_lim HL.out)
 rw [HH.out.2.1] at HSM
 have HSM := Lib.hid HSM
 have x0 : W.cell? ⟨Bx, 0, none⟩ = some (.int .i64 o.k) := H2.out.2.2.1.cell 0
 have x1 : W.cell? ⟨Bx, 1, none⟩ = some (.string (sx o.name)) := H2.out.2.2.1.cell 1
 have x2 : W.cell? ⟨Bx, 2, none⟩ = some (.string (sx o.dst)) := H2.out.2.2.1.cell 2
 have x3 : W.cell? ⟨Bx, 3, none⟩ = some (.slice Aa na ca) := H2.out.2.2.1.cell 3
 have x4 : W.cell? ⟨Bx, 4, none⟩ = some (.slice Ap np cp) := H2.out.2.2.1.cell 4
 have x5 : W.cell? ⟨Bx, 5, none⟩ = some (.slice Ac nc cc) := H2.out.2.2.1.cell 5
 have x6 : W.cell? ⟨Bx, 6, none⟩ = some (.int .i64 o.n) := H2.out.2.2.1.cell 6
 have b0 : W.cell? ⟨Bb, 0, none⟩ = some (.int .i64 (bareO o).k) := H2.out.2.2.2.cell 0
 have b1 : W.cell? ⟨Bb, 1, none⟩ = some (.string (sx (bareO o).name)) := H2.out.2.2.2.cell 1
 have b2 : W.cell? ⟨Bb, 2, none⟩ = some (.string (sx (bareO o).dst)) := H2.out.2.2.2.cell 2
 have b3 : W.cell? ⟨Bb, 3, none⟩ = some (.slice Ba ma da) := H2.out.2.2.2.cell 3
 have b4 : W.cell? ⟨Bb, 4, none⟩ = some (.slice Bp mp dp) := H2.out.2.2.2.cell 4
 have b5 : W.cell? ⟨Bb, 5, none⟩ = some (.slice Bc mc dc) := H2.out.2.2.2.cell 5
 have b6 : W.cell? ⟨Bb, 6, none⟩ = some (.int .i64 (bareO o).n) := H2.out.2.2.2.cell 6
 go_wp2_with (first
   | (go_at_call 42; (with_reducible refine HSM.out.mono ?_); clear HSM; clear x0 x1 x2 x3 x4 x5 x6; clear b0 b1 b2 b3 b4 b5 b6; rintro e w3 ⟨rfl, hb3⟩; dsimp only; have H3 := Lib.hid (And.intro (H2.out.2.1.trans (hb3.mono H2.out.2.1.size)) (H2.out.2.2.1.on hb3)); clear hb3; have x0 : w3.cell? ⟨Bx, 0, none⟩ = some (.int .i64 o.k) := H3.out.2.cell 0; have x1 : w3.cell? ⟨Bx, 1, none⟩ = some (.string (sx o.name)) := H3.out.2.cell 1; have x2 : w3.cell? ⟨Bx, 2, none⟩ = some (.string (sx o.dst)) := H3.out.2.cell 2; have x3 : w3.cell? ⟨Bx, 3, none⟩ = some (.slice Aa na ca) := H3.out.2.cell 3; have x4 : w3.cell? ⟨Bx, 4, none⟩ = some (.slice Ap np cp) := H3.out.2.cell 4; have x5 : w3.cell? ⟨Bx, 5, none⟩ = some (.slice Ac nc cc) := H3.out.2.cell 5; have x6 : w3.cell? ⟨Bx, 6, none⟩ = some (.int .i64 o.n) := H3.out.2.cell 6; have HN1 : Hid (Calls Tryz.prog 49 #[.string (sx o.name)] w3 fun e w' => e = .returned (.bool true) ∧ Below w3.heap.size w3 w') := Lib.hid (by have h := refMayName_any o.name w3 HL.out.ln; rw [HH.out.2.2.1] at h; exact h))
   | (go_at_call 49; (with_reducible refine HN1.out.mono ?_); clear HN1; clear x0 x1 x2 x3 x4 x5 x6; rintro e w4 ⟨rfl, hb4⟩; dsimp only; have H4 := Lib.hid (And.intro (H3.out.1.trans (hb4.mono H3.out.1.size)) (H3.out.2.on hb4)); clear hb4; have x0 : w4.cell? ⟨Bx, 0, none⟩ = some (.int .i64 o.k) := H4.out.2.cell 0; have x1 : w4.cell? ⟨Bx, 1, none⟩ = some (.string (sx o.name)) := H4.out.2.cell 1; have x2 : w4.cell? ⟨Bx, 2, none⟩ = some (.string (sx o.dst)) := H4.out.2.cell 2; have x3 : w4.cell? ⟨Bx, 3, none⟩ = some (.slice Aa na ca) := H4.out.2.cell 3; have x4 : w4.cell? ⟨Bx, 4, none⟩ = some (.slice Ap np cp) := H4.out.2.cell 4; have x5 : w4.cell? ⟨Bx, 5, none⟩ = some (.slice Ac nc cc) := H4.out.2.cell 5; have x6 : w4.cell? ⟨Bx, 6, none⟩ = some (.int .i64 o.n) := H4.out.2.cell 6; have HN2 : Hid (Calls Tryz.prog 49 #[.string (sx o.dst)] w4 fun e w' => e = .returned (.bool false) ∧ Below w4.heap.size w4 w') := Lib.hid (by have h := refMayName_any o.dst w4 HL.out.lt; rw [HH.out.2.2.2.1] at h; exact h))
   | (go_at_call 49; (with_reducible refine HN2.out.mono ?_); clear HN2; clear x0 x1 x2 x3 x4 x5 x6; rintro e w5 ⟨rfl, hb5⟩; dsimp only; have H5 := Lib.hid (And.intro (H4.out.1.trans (hb5.mono H4.out.1.size)) (H4.out.2.on hb5)); clear hb5))
 go_ret
 exact ⟨rfl, H5.out.1⟩
set_option maxHeartbeats 16000000 in
theorem rmay4 (o : Opn) (va vp vc : Value) (w : World) (ho : OpAt w o va vp vc) (hl : Lim o) (h0 : isK o.k = true) (h1 : sameO o (bareO o) = true) (h2 : mayN o.name = true) (h3 : mayN o.dst = true) (h4 : 50 < o.attrs.length) : Calls Tryz.prog 39 #[opVal o va vp vc] w fun e w' => e = .returned (.bool false) ∧ Below w.heap.size w w' := by
 have HL := Lib.hid hl
 have HA := Lib.hid fun (W : World) (hb : Below w.heap.size w W) => ho.on hb
 obtain ⟨Aa, ca, na, rfl, HNo, hRA0⟩ := rdv_len ho.a
 obtain ⟨Ap, cp, np, rfl, HPo, HPr⟩ := ho.p.full
 obtain ⟨Ac, cc, nc, rfl, HCo, _⟩ := ho.c.full
 have hRA := Lib.hid hRA0
 clear hRA0
 have n4 : (50 : Int) < (na : Int) := by have := HNo.out; omega
 have HH := Lib.hid (And.intro h0 (And.intro h1 (And.intro h2 (And.intro h3 trivial))))
 have hb0 : Below w.heap.size w (w.alloc (.cells (opCs o (.slice Aa na ca) (.slice Ap np cp) (.slice Ac nc cc)) 44)) := (Below.refl _ _).alloc (Nat.le_refl _) _
 have k0 := Blk.new w 44 (opCs o (.slice Aa na ca) (.slice Ap np cp) (.slice Ac nc cc))
 obtain ⟨Bx, hBx⟩ : ∃ b, b = w.heap.size := ⟨_, rfl⟩
 have H0 := Lib.hid (And.intro hb0 (show Blk _ Bx 44 _ from hBx ▸ k0))
 clear hb0 k0 ho hl h0 h1 h2 h3 h4
 go_enter Tryz.func39, Tryz.ntmps39
 go_upto_region 1 with fail
 rw [← hBx]
 generalize w.alloc (.cells (opCs o (.slice Aa na ca) (.slice Ap np cp) (.slice Ac nc cc)) 44) = W0 at H0 ⊢
 clear hBx
 have HBR := Lib.hid (bare_any o _ _ _ W0 (HA.out _ H0.out.1))
 go_upto_region 2 with (first
   | (refine wpList_load_row rfl 44 _ rfl Bx rfl 44 (opCs o (.slice Aa na ca) (.slice Ap np cp) (.slice Ac nc cc)) (0, 0) _ H0.out.2 rfl rfl (by kernel_rfl) ?_)
   | (go_at_call 48; (with_reducible refine HBR.out.mono ?_); clear HBR; rintro e w1 ⟨va', vp', vc', rfl, hat, hb1⟩; obtain ⟨Ba, da, ma, rfl, _, _⟩ := rdv_len hat.a; obtain ⟨Bp, dp, mp, rfl⟩ := hat.p.len; obtain ⟨Bc, dc, mc, rfl, _⟩ := hat.c.len; dsimp only; have H1 := Lib.hid (And.intro hat (And.intro (H0.out.1.trans (hb1.mono H0.out.1.size)) (H0.out.2.on hb1))); clear hat hb1)
   | (refine wpList_store_rowTo rfl 44 _ _ rfl rfl w1.heap.size (opCs (bareO o) (.slice Ba ma da) (.slice Bp mp dp) (.slice Bc mc dc)) rfl rfl 44 zCs (Blk.new w1 44 zCs) (by kernel_rfl) rfl (by kernel_rfl) ?_))
 have hb2 : Below w1.heap.size w1 ((w1.alloc (.cells zCs 44)).setRow w1.heap.size (opCs (bareO o) (.slice Ba ma da) (.slice Bp mp dp) (.slice Bc mc dc))) := below_setRow ((Below.refl _ _).alloc (Nat.le_refl _) (.cells zCs 44)) (Nat.le_refl _) _
 have kB : Blk ((w1.alloc (.cells zCs 44)).setRow w1.heap.size (opCs (bareO o) (.slice Ba ma da) (.slice Bp mp dp) (.slice Bc mc dc))) w1.heap.size 44 (opCs (bareO o) (.slice Ba ma da) (.slice Bp mp dp) (.slice Bc mc dc)) := (Blk.new w1 44 zCs).row _
 have h2' := And.intro (H1.out.1.on hb2) (And.intro (H1.out.2.1.trans (hb2.mono H1.out.2.1.size)) (And.intro (H1.out.2.2.on hb2) kB))
 obtain ⟨Bb, hBb⟩ : ∃ b, b = w1.heap.size := ⟨_, rfl⟩
 rw [← hBb] at h2' ⊢
 clear hb2 kB hBb H0 H1
 generalize (w1.alloc (.cells zCs 44)).setRow Bb (opCs (bareO o) (.slice Ba ma da) (.slice Bp mp dp) (.slice Bc mc dc)) = W at h2' ⊢
 have H2 := Lib.hid h2'
 clear h2'
 rw [HH.out.1]
 have HSM := refSameOp_any o (bareO o) _ _ _ _ _ _ W (HA.out _ H2.out.2.1) H2.out.1 HL.out (bareO_lim HL.out)
 rw [HH.out.2.1] at HSM
 have HSM := Lib.hid HSM
 have x0 : W.cell? ⟨Bx, 0, none⟩ = some (.int .i64 o.k) := H2.out.2.2.1.cell 0
 have x1 : W.cell? ⟨Bx, 1, none⟩ = some (.string (sx o.name)) := H2.out.2.2.1.cell 1
 have x2 : W.cell? ⟨Bx, 2, none⟩ = some (.string (sx o.dst)) := H2.out.2.2.1.cell 2
 have x3 : W.cell? ⟨Bx, 3, none⟩ = some (.slice Aa na ca) := H2.out.2.2.1.cell 3
 have x4 : W.cell? ⟨Bx, 4, none⟩ = some (.slice Ap np cp) := H2.out.2.2.1.cell 4
 have x5 : W.cell? ⟨Bx, 5, none⟩ = some (.slice Ac nc cc) := H2.out.2.2.1.cell 5
 have x6 : W.cell? ⟨Bx, 6, none⟩ = some (.int .i64 o.n) := H2.out.2.2.1.cell 6
 have b0 : W.cell? ⟨Bb, 0, none⟩ = some (.int .i64 (bareO o).k) := H2.out.2.2.2.cell 0
 have b1 : W.cell? ⟨Bb, 1, none⟩ = some (.string (sx (bareO o).name)) := H2.out.2.2.2.cell 1
 have b2 : W.cell? ⟨Bb, 2, none⟩ = some (.string (sx (bareO o).dst)) := H2.out.2.2.2.cell 2
 have b3 : W.cell? ⟨Bb, 3, none⟩ = some (.slice Ba ma da) := H2.out.2.2.2.cell 3
 have b4 : W.cell? ⟨Bb, 4, none⟩ = some (.slice Bp mp dp) := H2.out.2.2.2.cell 4
 have b5 : W.cell? ⟨Bb, 5, none⟩ = some (.slice Bc mc dc) := H2.out.2.2.2.cell 5
 have b6 : W.cell? ⟨Bb, 6, none⟩ = some (.int .i64 (bareO o).n) := H2.out.2.2.2.cell 6
 go_wp2_with (first
   | (go_at_call 42; (with_reducible refine HSM.out.mono ?_); clear HSM; clear x0 x1 x2 x3 x4 x5 x6; clear b0 b1 b2 b3 b4 b5 b6; rintro e w3 ⟨rfl, hb3⟩; dsimp only; have H3 := Lib.hid (And.intro (H2.out.2.1.trans (hb3.mono H2.out.2.1.size)) (H2.out.2.2.1.on hb3)); clear hb3; have x0 : w3.cell? ⟨Bx, 0, none⟩ = some (.int .i64 o.k) := H3.out.2.cell 0; have x1 : w3.cell? ⟨Bx, 1, none⟩ = some (.string (sx o.name)) := H3.out.2.cell 1; have x2 : w3.cell? ⟨Bx, 2, none⟩ = some (.string (sx o.dst)) := H3.out.2.cell 2; have x3 : w3.cell? ⟨Bx, 3, none⟩ = some (.slice Aa na ca) := H3.out.2.cell 3; have x4 : w3.cell? ⟨Bx, 4, none⟩ = some (.slice Ap np cp) := H3.out.2.cell 4; have x5 : w3.cell? ⟨Bx, 5, none⟩ = some (.slice Ac nc cc) := H3.out.2.cell 5; have x6 : w3.cell? ⟨Bx, 6, none⟩ = some (.int .i64 o.n) := H3.out.2.cell 6; have HN1 : Hid (Calls Tryz.prog 49 #[.string (sx o.name)] w3 fun e w' => e = .returned (.bool true) ∧ Below w3.heap.size w3 w') := Lib.hid (by have h := refMayName_any o.name w3 HL.out.ln; rw [HH.out.2.2.1] at h; exact h))
   | (go_at_call 49; (with_reducible refine HN1.out.mono ?_); clear HN1; clear x0 x1 x2 x3 x4 x5 x6; rintro e w4 ⟨rfl, hb4⟩; dsimp only; have H4 := Lib.hid (And.intro (H3.out.1.trans (hb4.mono H3.out.1.size)) (H3.out.2.on hb4)); clear hb4; have x0 : w4.cell? ⟨Bx, 0, none⟩ = some (.int .i64 o.k) := H4.out.2.cell 0; have x1 : w4.cell? ⟨Bx, 1, none⟩ = some (.string (sx o.name)) := H4.out.2.cell 1; have x2 : w4.cell? ⟨Bx, 2, none⟩ = some (.string (sx o.dst)) := H4.out.2.cell 2; have x3 : w4.cell? ⟨Bx, 3, none⟩ = some (.slice Aa na ca) := H4.out.2.cell 3; have x4 : w4.cell? ⟨Bx, 4, none⟩ = some (.slice Ap np cp) := H4.out.2.cell 4; have x5 : w4.cell? ⟨Bx, 5, none⟩ = some (.slice Ac nc cc) := H4.out.2.cell 5; have x6 : w4.cell? ⟨Bx, 6, none⟩ = some (.int .i64 o.n) := H4.out.2.cell 6; have HN2 : Hid (Calls Tryz.prog 49 #[.string (sx o.dst)] w4 fun e w' => e = .returned (.bool true) ∧ Below w4.heap.size w4 w') := Lib.hid (by have h := refMayName_any o.dst w4 HL.out.lt; rw [HH.out.2.2.2.1] at h; exact h))
   | (go_at_call 49; (with_reducible refine HN2.out.mono ?_); clear HN2; clear x0 x1 x2 x3 x4 x5 x6; rintro e w5 ⟨rfl, hb5⟩; dsimp only; have H5 := Lib.hid (And.intro (H4.out.1.trans (hb5.mono H4.out.1.size)) (H4.out.2.on hb5)); clear hb5; have x0 : w5.cell? ⟨Bx, 0, none⟩ = some (.int .i64 o.k) := H5.out.2.cell 0; have x1 : w5.cell? ⟨Bx, 1, none⟩ = some (.string (sx o.name)) := H5.out.2.cell 1; have x2 : w5.cell? ⟨Bx, 2, none⟩ = some (.string (sx o.dst)) := H5.out.2.cell 2; have x3 : w5.cell? ⟨Bx, 3, none⟩ = some (.slice Aa na ca) := H5.out.2.cell 3; have x4 : w5.cell? ⟨Bx, 4, none⟩ = some (.slice Ap np cp) := H5.out.2.cell 4; have x5 : w5.cell? ⟨Bx, 5, none⟩ = some (.slice Ac nc cc) := H5.out.2.cell 5; have x6 : w5.cell? ⟨Bx, 6, none⟩ = some (.int .i64 o.n) := H5.out.2.cell 6))
 go_ret
 exact ⟨rfl, H5.out.1⟩
set_option maxHeartbeats 16000000 in
theorem rmay5 (o : Opn) (va vp vc : Value) (w : World) (ho : OpAt w o va vp vc) (hl : Lim o) (h0 : isK o.k = true) (h1 : sameO o (bareO o) = true) (h2 : mayN o.name = true) (h3 : mayN o.dst = true) (h4 : o.attrs.length ≤ 50) (h5 : 8 < o.parts.length) : Calls Tryz.prog 39 #[opVal o va vp vc] w fun e w' => e = .returned (.bool false) ∧ Below w.heap.size w w' := by
 have HL := Lib.hid hl
 have HA := Lib.hid fun (W : World) (hb : Below w.heap.size w W) => ho.on hb
 obtain ⟨Aa, ca, na, rfl, HNo, hRA0⟩ := rdv_len ho.a
 obtain ⟨Ap, cp, np, rfl, HPo, HPr⟩ := ho.p.full
 obtain ⟨Ac, cc, nc, rfl, HCo, _⟩ := ho.c.full
 have hRA := Lib.hid hRA0
 clear hRA0
 have n4 : ¬ (50 : Int) < (na : Int) := by have := HNo.out; omega
 have n5 : (8 : Int) < (np : Int) := by have := HPo.out; omega
 have HH := Lib.hid (And.intro h0 (And.intro h1 (And.intro h2 (And.intro h3 trivial))))
 have hb0 : Below w.heap.size w (w.alloc (.cells (opCs o (.slice Aa na ca) (.slice Ap np cp) (.slice Ac nc cc)) 44)) := (Below.refl _ _).alloc (Nat.le_refl _) _
 have k0 := Blk.new w 44 (opCs o (.slice Aa na ca) (.slice Ap np cp) (.slice Ac nc cc))
 obtain ⟨Bx, hBx⟩ : ∃ b, b = w.heap.size := ⟨_, rfl⟩
 have H0 := Lib.hid (And.intro hb0 (show Blk _ Bx 44 _ from hBx ▸ k0))
 clear hb0 k0 ho hl h0 h1 h2 h3 h4 h5
 go_enter Tryz.func39, Tryz.ntmps39
 go_upto_region 1 with fail
 rw [← hBx]
 generalize w.alloc (.cells (opCs o (.slice Aa na ca) (.slice Ap np cp) (.slice Ac nc cc)) 44) = W0 at H0 ⊢
 clear hBx
 have HBR := Lib.hid (bare_any o _ _ _ W0 (HA.out _ H0.out.1))
 go_upto_region 2 with (first
   | (refine wpList_load_row rfl 44 _ rfl Bx rfl 44 (opCs o (.slice Aa na ca) (.slice Ap np cp) (.slice Ac nc cc)) (0, 0) _ H0.out.2 rfl rfl (by kernel_rfl) ?_)
   | (go_at_call 48; (with_reducible refine HBR.out.mono ?_); clear HBR; rintro e w1 ⟨va', vp', vc', rfl, hat, hb1⟩; obtain ⟨Ba, da, ma, rfl, _, _⟩ := rdv_len hat.a; obtain ⟨Bp, dp, mp, rfl⟩ := hat.p.len; obtain ⟨Bc, dc, mc, rfl, _⟩ := hat.c.len; dsimp only; have H1 := Lib.hid (And.intro hat (And.intro (H0.out.1.trans (hb1.mono H0.out.1.size)) (H0.out.2.on hb1))); clear hat hb1)
   | (refine wpList_store_rowTo rfl 44 _ _ rfl rfl w1.heap.size (opCs (bareO o) (.slice Ba ma da) (.slice Bp mp dp) (.slice Bc mc dc)) rfl rfl 44 zCs (Blk.new w1 44 zCs) (by kernel_rfl) rfl (by kernel_rfl) ?_))
 have hb2 : Below w1.heap.size w1 ((w1.alloc (.cells zCs 44)).setRow w1.heap.size (opCs (bareO o) (.slice Ba ma da) (.slice Bp mp dp) (.slice Bc mc dc))) := below_setRow ((Below.refl _ _).alloc (Nat.le_refl _) (.cells zCs 44)) (Nat.le_refl _) _
 have kB : Blk ((w1.alloc (.cells zCs 44)).setRow w1.heap.size (opCs (bareO o) (.slice Ba ma da) (.slice Bp mp dp) (.slice Bc mc dc))) w1.heap.size 44 (opCs (bareO o) (.slice Ba ma da) (.slice Bp mp dp) (.slice Bc mc dc)) := (Blk.new w1 44 zCs).row _
 have h2' := And.intro (H1.out.1.on hb2) (And.intro (H1.out.2.1.trans (hb2.mono H1.out.2.1.size)) (And.intro (H1.out.2.2.on hb2) kB))
 obtain ⟨Bb, hBb⟩ : ∃ b, b = w1.heap.size := ⟨_, rfl⟩
 rw [← hBb] at h2' ⊢
 clear hb2 kB hBb H0 H1
 generalize (w1.alloc (.cells zCs 44)).setRow Bb (opCs (bareO o) (.slice Ba ma da) (.slice Bp mp dp) (.slice Bc mc dc)) = W at h2' ⊢
 have H2 := Lib.hid h2'
 clear h2'
 rw [HH.out.1]
 have HSM := refSameOp_any o (bareO o) _ _ _ _ _ _ W (HA.out _ H2.out.2.1) H2.out.1 HL.out (bareO_lim HL.out)
 rw [HH.out.2.1] at HSM
 have HSM := Lib.hid HSM
 have x0 : W.cell? ⟨Bx, 0, none⟩ = some (.int .i64 o.k) := H2.out.2.2.1.cell 0
 have x1 : W.cell? ⟨Bx, 1, none⟩ = some (.string (sx o.name)) := H2.out.2.2.1.cell 1
 have x2 : W.cell? ⟨Bx, 2, none⟩ = some (.string (sx o.dst)) := H2.out.2.2.1.cell 2
 have x3 : W.cell? ⟨Bx, 3, none⟩ = some (.slice Aa na ca) := H2.out.2.2.1.cell 3
 have x4 : W.cell? ⟨Bx, 4, none⟩ = some (.slice Ap np cp) := H2.out.2.2.1.cell 4
 have x5 : W.cell? ⟨Bx, 5, none⟩ = some (.slice Ac nc cc) := H2.out.2.2.1.cell 5
 have x6 : W.cell? ⟨Bx, 6, none⟩ = some (.int .i64 o.n) := H2.out.2.2.1.cell 6
 have b0 : W.cell? ⟨Bb, 0, none⟩ = some (.int .i64 (bareO o).k) := H2.out.2.2.2.cell 0
 have b1 : W.cell? ⟨Bb, 1, none⟩ = some (.string (sx (bareO o).name)) := H2.out.2.2.2.cell 1
 have b2 : W.cell? ⟨Bb, 2, none⟩ = some (.string (sx (bareO o).dst)) := H2.out.2.2.2.cell 2
 have b3 : W.cell? ⟨Bb, 3, none⟩ = some (.slice Ba ma da) := H2.out.2.2.2.cell 3
 have b4 : W.cell? ⟨Bb, 4, none⟩ = some (.slice Bp mp dp) := H2.out.2.2.2.cell 4
 have b5 : W.cell? ⟨Bb, 5, none⟩ = some (.slice Bc mc dc) := H2.out.2.2.2.cell 5
 have b6 : W.cell? ⟨Bb, 6, none⟩ = some (.int .i64 (bareO o).n) := H2.out.2.2.2.cell 6
 go_wp2_with (first
   | (go_at_call 42; (with_reducible refine HSM.out.mono ?_); clear HSM; clear x0 x1 x2 x3 x4 x5 x6; clear b0 b1 b2 b3 b4 b5 b6; rintro e w3 ⟨rfl, hb3⟩; dsimp only; have H3 := Lib.hid (And.intro (H2.out.2.1.trans (hb3.mono H2.out.2.1.size)) (H2.out.2.2.1.on hb3)); clear hb3; have x0 : w3.cell? ⟨Bx, 0, none⟩ = some (.int .i64 o.k) := H3.out.2.cell 0; have x1 : w3.cell? ⟨Bx, 1, none⟩ = some (.string (sx o.name)) := H3.out.2.cell 1; have x2 : w3.cell? ⟨Bx, 2, none⟩ = some (.string (sx o.dst)) := H3.out.2.cell 2; have x3 : w3.cell? ⟨Bx, 3, none⟩ = some (.slice Aa na ca) := H3.out.2.cell 3; have x4 : w3.cell? ⟨Bx, 4, none⟩ = some (.slice Ap np cp) := H3.out.2.cell 4; have x5 : w3.cell? ⟨Bx, 5, none⟩ = some (.slice Ac nc cc) := H3.out.2.cell 5; have x6 : w3.cell? ⟨Bx, 6, none⟩ = some (.int .i64 o.n) := H3.out.2.cell 6; have HN1 : Hid (Calls Tryz.prog 49 #[.string (sx o.name)] w3 fun e w' => e = .returned (.bool true) ∧ Below w3.heap.size w3 w') := Lib.hid (by have h := refMayName_any o.name w3 HL.out.ln; rw [HH.out.2.2.1] at h; exact h))
   | (go_at_call 49; (with_reducible refine HN1.out.mono ?_); clear HN1; clear x0 x1 x2 x3 x4 x5 x6; rintro e w4 ⟨rfl, hb4⟩; dsimp only; have H4 := Lib.hid (And.intro (H3.out.1.trans (hb4.mono H3.out.1.size)) (H3.out.2.on hb4)); clear hb4; have x0 : w4.cell? ⟨Bx, 0, none⟩ = some (.int .i64 o.k) := H4.out.2.cell 0; have x1 : w4.cell? ⟨Bx, 1, none⟩ = some (.string (sx o.name)) := H4.out.2.cell 1; have x2 : w4.cell? ⟨Bx, 2, none⟩ = some (.string (sx o.dst)) := H4.out.2.cell 2; have x3 : w4.cell? ⟨Bx, 3, none⟩ = some (.slice Aa na ca) := H4.out.2.cell 3; have x4 : w4.cell? ⟨Bx, 4, none⟩ = some (.slice Ap np cp) := H4.out.2.cell 4; have x5 : w4.cell? ⟨Bx, 5, none⟩ = some (.slice Ac nc cc) := H4.out.2.cell 5; have x6 : w4.cell? ⟨Bx, 6, none⟩ = some (.int .i64 o.n) := H4.out.2.cell 6; have HN2 : Hid (Calls Tryz.prog 49 #[.string (sx o.dst)] w4 fun e w' => e = .returned (.bool true) ∧ Below w4.heap.size w4 w') := Lib.hid (by have h := refMayName_any o.dst w4 HL.out.lt; rw [HH.out.2.2.2.1] at h; exact h))
   | (go_at_call 49; (with_reducible refine HN2.out.mono ?_); clear HN2; clear x0 x1 x2 x3 x4 x5 x6; rintro e w5 ⟨rfl, hb5⟩; dsimp only; have H5 := Lib.hid (And.intro (H4.out.1.trans (hb5.mono H4.out.1.size)) (H4.out.2.on hb5)); clear hb5; have x0 : w5.cell? ⟨Bx, 0, none⟩ = some (.int .i64 o.k) := H5.out.2.cell 0; have x1 : w5.cell? ⟨Bx, 1, none⟩ = some (.string (sx o.name)) := H5.out.2.cell 1; have x2 : w5.cell? ⟨Bx, 2, none⟩ = some (.string (sx o.dst)) := H5.out.2.cell 2; have x3 : w5.cell? ⟨Bx, 3, none⟩ = some (.slice Aa na ca) := H5.out.2.cell 3; have x4 : w5.cell? ⟨Bx, 4, none⟩ = some (.slice Ap np cp) := H5.out.2.cell 4; have x5 : w5.cell? ⟨Bx, 5, none⟩ = some (.slice Ac nc cc) := H5.out.2.cell 5; have x6 : w5.cell? ⟨Bx, 6, none⟩ = some (.int .i64 o.n) := H5.out.2.cell 6))
 go_ret
 exact ⟨rfl, H5.out.1⟩
set_option maxHeartbeats 16000000 in
theorem rmay6 (o : Opn) (va vp vc : Value) (w : World) (ho : OpAt w o va vp vc) (hl : Lim o) (h0 : isK o.k = true) (h1 : sameO o (bareO o) = true) (h2 : mayN o.name = true) (h3 : mayN o.dst = true) (h4 : o.attrs.length ≤ 50) (h5 : o.parts.length ≤ 8) (h6 : 4000 < o.cur.length) : Calls Tryz.prog 39 #[opVal o va vp vc] w fun e w' => e = .returned (.bool false) ∧ Below w.heap.size w w' := by
 have HL := Lib.hid hl
 have HA := Lib.hid fun (W : World) (hb : Below w.heap.size w W) => ho.on hb
 obtain ⟨Aa, ca, na, rfl, HNo, hRA0⟩ := rdv_len ho.a
 obtain ⟨Ap, cp, np, rfl, HPo, HPr⟩ := ho.p.full
 obtain ⟨Ac, cc, nc, rfl, HCo, _⟩ := ho.c.full
 have hRA := Lib.hid hRA0
 clear hRA0
 have n4 : ¬ (50 : Int) < (na : Int) := by have := HNo.out; omega
 have n5 : ¬ (8 : Int) < (np : Int) := by have := HPo.out; omega
 have n6 : (4000 : Int) < (nc : Int) := by have := HCo.out; omega
 have HH := Lib.hid (And.intro h0 (And.intro h1 (And.intro h2 (And.intro h3 trivial))))
 have hb0 : Below w.heap.size w (w.alloc (.cells (opCs o (.slice Aa na ca) (.slice Ap np cp) (.slice Ac nc cc)) 44)) := (Below.refl _ _).alloc (Nat.le_refl _) _
 have k0 := Blk.new w 44 (opCs o (.slice Aa na ca) (.slice Ap np cp) (.slice Ac nc cc))
 obtain ⟨Bx, hBx⟩ : ∃ b, b = w.heap.size := ⟨_, rfl⟩
 have H0 := Lib.hid (And.intro hb0 (show Blk _ Bx 44 _ from hBx ▸ k0))
 clear hb0 k0 ho hl h0 h1 h2 h3 h4 h5 h6
 go_enter Tryz.func39, Tryz.ntmps39
 go_upto_region 1 with fail
 rw [← hBx]
 generalize w.alloc (.cells (opCs o (.slice Aa na ca) (.slice Ap np cp) (.slice Ac nc cc)) 44) = W0 at H0 ⊢
 clear hBx
 have HBR := Lib.hid (bare_any o _ _ _ W0 (HA.out _ H0.out.1))
 go_upto_region 2 with (first
   | (refine wpList_load_row rfl 44 _ rfl Bx rfl 44 (opCs o (.slice Aa na ca) (.slice Ap np cp) (.slice Ac nc cc)) (0, 0) _ H0.out.2 rfl rfl (by kernel_rfl) ?_)
   | (go_at_call 48; (with_reducible refine HBR.out.mono ?_); clear HBR; rintro e w1 ⟨va', vp', vc', rfl, hat, hb1⟩; obtain ⟨Ba, da, ma, rfl, _, _⟩ := rdv_len hat.a; obtain ⟨Bp, dp, mp, rfl⟩ := hat.p.len; obtain ⟨Bc, dc, mc, rfl, _⟩ := hat.c.len; dsimp only; have H1 := Lib.hid (And.intro hat (And.intro (H0.out.1.trans (hb1.mono H0.out.1.size)) (H0.out.2.on hb1))); clear hat hb1)
   | (refine wpList_store_rowTo rfl 44 _ _ rfl rfl w1.heap.size (opCs (bareO o) (.slice Ba ma da) (.slice Bp mp dp) (.slice Bc mc dc)) rfl rfl 44 zCs (Blk.new w1 44 zCs) (by kernel_rfl) rfl (by kernel_rfl) ?_))
 have hb2 : Below w1.heap.size w1 ((w1.alloc (.cells zCs 44)).setRow w1.heap.size (opCs (bareO o) (.slice Ba ma da) (.slice Bp mp dp) (.slice Bc mc dc))) := below_setRow ((Below.refl _ _).alloc (Nat.le_refl _) (.cells zCs 44)) (Nat.le_refl _) _
 have kB : Blk ((w1.alloc (.cells zCs 44)).setRow w1.heap.size (opCs (bareO o) (.slice Ba ma da) (.slice Bp mp dp) (.slice Bc mc dc))) w1.heap.size 44 (opCs (bareO o) (.slice Ba ma da) (.slice Bp mp dp) (.slice Bc mc dc)) := (Blk.new w1 44 zCs).row _
 have h2' := And.intro (H1.out.1.on hb2) (And.intro (H1.out.2.1.trans (hb2.mono H1.out.2.1.size)) (And.intro (H1.out.2.2.on hb2) kB))
 obtain ⟨Bb, hBb⟩ : ∃ b, b = w1.heap.size := ⟨_, rfl⟩
 rw [← hBb] at h2' ⊢
 clear hb2 kB hBb H0 H1
 generalize (w1.alloc (.cells zCs 44)).setRow Bb (opCs (bareO o) (.slice Ba ma da) (.slice Bp mp dp) (.slice Bc mc dc)) = W at h2' ⊢
 have H2 := Lib.hid h2'
 clear h2'
 rw [HH.out.1]
 have HSM := refSameOp_any o (bareO o) _ _ _ _ _ _ W (HA.out _ H2.out.2.1) H2.out.1 HL.out (bareO_lim HL.out)
 rw [HH.out.2.1] at HSM
 have HSM := Lib.hid HSM
 have x0 : W.cell? ⟨Bx, 0, none⟩ = some (.int .i64 o.k) := H2.out.2.2.1.cell 0
 have x1 : W.cell? ⟨Bx, 1, none⟩ = some (.string (sx o.name)) := H2.out.2.2.1.cell 1
 have x2 : W.cell? ⟨Bx, 2, none⟩ = some (.string (sx o.dst)) := H2.out.2.2.1.cell 2
 have x3 : W.cell? ⟨Bx, 3, none⟩ = some (.slice Aa na ca) := H2.out.2.2.1.cell 3
 have x4 : W.cell? ⟨Bx, 4, none⟩ = some (.slice Ap np cp) := H2.out.2.2.1.cell 4
 have x5 : W.cell? ⟨Bx, 5, none⟩ = some (.slice Ac nc cc) := H2.out.2.2.1.cell 5
 have x6 : W.cell? ⟨Bx, 6, none⟩ = some (.int .i64 o.n) := H2.out.2.2.1.cell 6
 have b0 : W.cell? ⟨Bb, 0, none⟩ = some (.int .i64 (bareO o).k) := H2.out.2.2.2.cell 0
 have b1 : W.cell? ⟨Bb, 1, none⟩ = some (.string (sx (bareO o).name)) := H2.out.2.2.2.cell 1
 have b2 : W.cell? ⟨Bb, 2, none⟩ = some (.string (sx (bareO o).dst)) := H2.out.2.2.2.cell 2
 have b3 : W.cell? ⟨Bb, 3, none⟩ = some (.slice Ba ma da) := H2.out.2.2.2.cell 3
 have b4 : W.cell? ⟨Bb, 4, none⟩ = some (.slice Bp mp dp) := H2.out.2.2.2.cell 4
 have b5 : W.cell? ⟨Bb, 5, none⟩ = some (.slice Bc mc dc) := H2.out.2.2.2.cell 5
 have b6 : W.cell? ⟨Bb, 6, none⟩ = some (.int .i64 (bareO o).n) := H2.out.2.2.2.cell 6
 go_wp2_with (first
   | (go_at_call 42; (with_reducible refine HSM.out.mono ?_); clear HSM; clear x0 x1 x2 x3 x4 x5 x6; clear b0 b1 b2 b3 b4 b5 b6; rintro e w3 ⟨rfl, hb3⟩; dsimp only; have H3 := Lib.hid (And.intro (H2.out.2.1.trans (hb3.mono H2.out.2.1.size)) (H2.out.2.2.1.on hb3)); clear hb3; have x0 : w3.cell? ⟨Bx, 0, none⟩ = some (.int .i64 o.k) := H3.out.2.cell 0; have x1 : w3.cell? ⟨Bx, 1, none⟩ = some (.string (sx o.name)) := H3.out.2.cell 1; have x2 : w3.cell? ⟨Bx, 2, none⟩ = some (.string (sx o.dst)) := H3.out.2.cell 2; have x3 : w3.cell? ⟨Bx, 3, none⟩ = some (.slice Aa na ca) := H3.out.2.cell 3; have x4 : w3.cell? ⟨Bx, 4, none⟩ = some (.slice Ap np cp) := H3.out.2.cell 4; have x5 : w3.cell? ⟨Bx, 5, none⟩ = some (.slice Ac nc cc) := H3.out.2.cell 5; have x6 : w3.cell? ⟨Bx, 6, none⟩ = some (.int .i64 o.n) := H3.out.2.cell 6; have HN1 : Hid (Calls Tryz.prog 49 #[.string (sx o.name)] w3 fun e w' => e = .returned (.bool true) ∧ Below w3.heap.size w3 w') := Lib.hid (by have h := refMayName_any o.name w3 HL.out.ln; rw [HH.out.2.2.1] at h; exact h))
   | (go_at_call 49; (with_reducible refine HN1.out.mono ?_); clear HN1; clear x0 x1 x2 x3 x4 x5 x6; rintro e w4 ⟨rfl, hb4⟩; dsimp only; have H4 := Lib.hid (And.intro (H3.out.1.trans (hb4.mono H3.out.1.size)) (H3.out.2.on hb4)); clear hb4; have x0 : w4.cell? ⟨Bx, 0, none⟩ = some (.int .i64 o.k) := H4.out.2.cell 0; have x1 : w4.cell? ⟨Bx, 1, none⟩ = some (.string (sx o.name)) := H4.out.2.cell 1; have x2 : w4.cell? ⟨Bx, 2, none⟩ = some (.string (sx o.dst)) := H4.out.2.cell 2; have x3 : w4.cell? ⟨Bx, 3, none⟩ = some (.slice Aa na ca) := H4.out.2.cell 3; have x4 : w4.cell? ⟨Bx, 4, none⟩ = some (.slice Ap np cp) := H4.out.2.cell 4; have x5 : w4.cell? ⟨Bx, 5, none⟩ = some (.slice Ac nc cc) := H4.out.2.cell 5; have x6 : w4.cell? ⟨Bx, 6, none⟩ = some (.int .i64 o.n) := H4.out.2.cell 6; have HN2 : Hid (Calls Tryz.prog 49 #[.string (sx o.dst)] w4 fun e w' => e = .returned (.bool true) ∧ Below w4.heap.size w4 w') := Lib.hid (by have h := refMayName_any o.dst w4 HL.out.lt; rw [HH.out.2.2.2.1] at h; exact h))
   | (go_at_call 49; (with_reducible refine HN2.out.mono ?_); clear HN2; clear x0 x1 x2 x3 x4 x5 x6; rintro e w5 ⟨rfl, hb5⟩; dsimp only; have H5 := Lib.hid (And.intro (H4.out.1.trans (hb5.mono H4.out.1.size)) (H4.out.2.on hb5)); clear hb5; have x0 : w5.cell? ⟨Bx, 0, none⟩ = some (.int .i64 o.k) := H5.out.2.cell 0; have x1 : w5.cell? ⟨Bx, 1, none⟩ = some (.string (sx o.name)) := H5.out.2.cell 1; have x2 : w5.cell? ⟨Bx, 2, none⟩ = some (.string (sx o.dst)) := H5.out.2.cell 2; have x3 : w5.cell? ⟨Bx, 3, none⟩ = some (.slice Aa na ca) := H5.out.2.cell 3; have x4 : w5.cell? ⟨Bx, 4, none⟩ = some (.slice Ap np cp) := H5.out.2.cell 4; have x5 : w5.cell? ⟨Bx, 5, none⟩ = some (.slice Ac nc cc) := H5.out.2.cell 5; have x6 : w5.cell? ⟨Bx, 6, none⟩ = some (.int .i64 o.n) := H5.out.2.cell 6))
 go_ret
 exact ⟨rfl, H5.out.1⟩
set_option maxHeartbeats 16000000 in
theorem rmay7 (o : Opn) (va vp vc : Value) (w : World) (ho : OpAt w o va vp vc) (hl : Lim o) (h0 : isK o.k = true) (h1 : sameO o (bareO o) = true) (h2 : mayN o.name = true) (h3 : mayN o.dst = true) (h4 : o.attrs.length ≤ 50) (h5 : o.parts.length ≤ 8) (h6 : o.cur.length ≤ 4000) (h7 : o.n < 0) : Calls Tryz.prog 39 #[opVal o va vp vc] w fun e w' => e = .returned (.bool false) ∧ Below w.heap.size w w' := by
 have HL := Lib.hid hl
 have HA := Lib.hid fun (W : World) (hb : Below w.heap.size w W) => ho.on hb
 obtain ⟨Aa, ca, na, rfl, HNo, hRA0⟩ := rdv_len ho.a
 obtain ⟨Ap, cp, np, rfl, HPo, HPr⟩ := ho.p.full
 obtain ⟨Ac, cc, nc, rfl, HCo, _⟩ := ho.c.full
 have hRA := Lib.hid hRA0
 clear hRA0
 have n4 : ¬ (50 : Int) < (na : Int) := by have := HNo.out; omega
 have n5 : ¬ (8 : Int) < (np : Int) := by have := HPo.out; omega
 have n6 : ¬ (4000 : Int) < (nc : Int) := by have := HCo.out; omega
 have n7 : o.n < 0 := h7
 have HH := Lib.hid (And.intro h0 (And.intro h1 (And.intro h2 (And.intro h3 trivial))))
 have hb0 : Below w.heap.size w (w.alloc (.cells (opCs o (.slice Aa na ca) (.slice Ap np cp) (.slice Ac nc cc)) 44)) := (Below.refl _ _).alloc (Nat.le_refl _) _
 have k0 := Blk.new w 44 (opCs o (.slice Aa na ca) (.slice Ap np cp) (.slice Ac nc cc))
 obtain ⟨Bx, hBx⟩ : ∃ b, b = w.heap.size := ⟨_, rfl⟩
 have H0 := Lib.hid (And.intro hb0 (show Blk _ Bx 44 _ from hBx ▸ k0))
 clear hb0 k0 ho hl h0 h1 h2 h3 h4 h5 h6 h7
 go_enter Tryz.func39, Tryz.ntmps39
 go_upto_region 1 with fail
 rw [← hBx]
 generalize w.alloc (.cells (opCs o (.slice Aa na ca) (.slice Ap np cp) (.slice Ac nc cc)) 44) = W0 at H0 ⊢
 clear hBx
 have HBR := Lib.hid (bare_any o _ _ _ W0 (HA.out _ H0.out.1))
 go_upto_region 2 with (first
   | (refine wpList_load_row rfl 44 _ rfl Bx rfl 44 (opCs o (.slice Aa na ca) (.slice Ap np cp) (.slice Ac nc cc)) (0, 0) _ H0.out.2 rfl rfl (by kernel_rfl) ?_)
   | (go_at_call 48; (with_reducible refine HBR.out.mono ?_); clear HBR; rintro e w1 ⟨va', vp', vc', rfl, hat, hb1⟩; obtain ⟨Ba, da, ma, rfl, _, _⟩ := rdv_len hat.a; obtain ⟨Bp, dp, mp, rfl⟩ := hat.p.len; obtain ⟨Bc, dc, mc, rfl, _⟩ := hat.c.len; dsimp only; have H1 := Lib.hid (And.intro hat (And.intro (H0.out.1.trans (hb1.mono H0.out.1.size)) (H0.out.2.on hb1))); clear hat hb1)
   | (refine wpList_store_rowTo rfl 44 _ _ rfl rfl w1.heap.size (opCs (bareO o) (.slice Ba ma da) (.slice Bp mp dp) (.slice Bc mc dc)) rfl rfl 44 zCs (Blk.new w1 44 zCs) (by kernel_rfl) rfl (by kernel_rfl) ?_))
 have hb2 : Below w1.heap.size w1 ((w1.alloc (.cells zCs 44)).setRow w1.heap.size (opCs (bareO o) (.slice Ba ma da) (.slice Bp mp dp) (.slice Bc mc dc))) := below_setRow ((Below.refl _ _).alloc (Nat.le_refl _) (.cells zCs 44)) (Nat.le_refl _) _
 have kB : Blk ((w1.alloc (.cells zCs 44)).setRow w1.heap.size (opCs (bareO o) (.slice Ba ma da) (.slice Bp mp dp) (.slice Bc mc dc))) w1.heap.size 44 (opCs (bareO o) (.slice Ba ma da) (.slice Bp mp dp) (.slice Bc mc dc)) := (Blk.new w1 44 zCs).row _
 have h2' := And.intro (H1.out.1.on hb2) (And.intro (H1.out.2.1.trans (hb2.mono H1.out.2.1.size)) (And.intro (H1.out.2.2.on hb2) kB))
 obtain ⟨Bb, hBb⟩ : ∃ b, b = w1.heap.size := ⟨_, rfl⟩
 rw [← hBb] at h2' ⊢
 clear hb2 kB hBb H0 H1
 generalize (w1.alloc (.cells zCs 44)).setRow Bb (opCs (bareO o) (.slice Ba ma da) (.slice Bp mp dp) (.slice Bc mc dc)) = W at h2' ⊢
 have H2 := Lib.hid h2'
 clear h2'
 rw [HH.out.1]
 have HSM := refSameOp_any o (bareO o) _ _ _ _ _ _ W (HA.out _ H2.out.2.1) H2.out.1 HL.out (bareO_lim HL.out)
 rw [HH.out.2.1] at HSM
 have HSM := Lib.hid HSM
 have x0 : W.cell? ⟨Bx, 0, none⟩ = some (.int .i64 o.k) := H2.out.2.2.1.cell 0
 have x1 : W.cell? ⟨Bx, 1, none⟩ = some (.string (sx o.name)) := H2.out.2.2.1.cell 1
 have x2 : W.cell? ⟨Bx, 2, none⟩ = some (.string (sx o.dst)) := H2.out.2.2.1.cell 2
 have x3 : W.cell? ⟨Bx, 3, none⟩ = some (.slice Aa na ca) := H2.out.2.2.1.cell 3
 have x4 : W.cell? ⟨Bx, 4, none⟩ = some (.slice Ap np cp) := H2.out.2.2.1.cell 4
 have x5 : W.cell? ⟨Bx, 5, none⟩ = some (.slice Ac nc cc) := H2.out.2.2.1.cell 5
 have x6 : W.cell? ⟨Bx, 6, none⟩ = some (.int .i64 o.n) := H2.out.2.2.1.cell 6
 have b0 : W.cell? ⟨Bb, 0, none⟩ = some (.int .i64 (bareO o).k) := H2.out.2.2.2.cell 0
 have b1 : W.cell? ⟨Bb, 1, none⟩ = some (.string (sx (bareO o).name)) := H2.out.2.2.2.cell 1
 have b2 : W.cell? ⟨Bb, 2, none⟩ = some (.string (sx (bareO o).dst)) := H2.out.2.2.2.cell 2
 have b3 : W.cell? ⟨Bb, 3, none⟩ = some (.slice Ba ma da) := H2.out.2.2.2.cell 3
 have b4 : W.cell? ⟨Bb, 4, none⟩ = some (.slice Bp mp dp) := H2.out.2.2.2.cell 4
 have b5 : W.cell? ⟨Bb, 5, none⟩ = some (.slice Bc mc dc) := H2.out.2.2.2.cell 5
 have b6 : W.cell? ⟨Bb, 6, none⟩ = some (.int .i64 (bareO o).n) := H2.out.2.2.2.cell 6
 go_wp2_with (first
   | (go_at_call 42; (with_reducible refine HSM.out.mono ?_); clear HSM; clear x0 x1 x2 x3 x4 x5 x6; clear b0 b1 b2 b3 b4 b5 b6; rintro e w3 ⟨rfl, hb3⟩; dsimp only; have H3 := Lib.hid (And.intro (H2.out.2.1.trans (hb3.mono H2.out.2.1.size)) (H2.out.2.2.1.on hb3)); clear hb3; have x0 : w3.cell? ⟨Bx, 0, none⟩ = some (.int .i64 o.k) := H3.out.2.cell 0; have x1 : w3.cell? ⟨Bx, 1, none⟩ = some (.string (sx o.name)) := H3.out.2.cell 1; have x2 : w3.cell? ⟨Bx, 2, none⟩ = some (.string (sx o.dst)) := H3.out.2.cell 2; have x3 : w3.cell? ⟨Bx, 3, none⟩ = some (.slice Aa na ca) := H3.out.2.cell 3; have x4 : w3.cell? ⟨Bx, 4, none⟩ = some (.slice Ap np cp) := H3.out.2.cell 4; have x5 : w3.cell? ⟨Bx, 5, none⟩ = some (.slice Ac nc cc) := H3.out.2.cell 5; have x6 : w3.cell? ⟨Bx, 6, none⟩ = some (.int .i64 o.n) := H3.out.2.cell 6; have HN1 : Hid (Calls Tryz.prog 49 #[.string (sx o.name)] w3 fun e w' => e = .returned (.bool true) ∧ Below w3.heap.size w3 w') := Lib.hid (by have h := refMayName_any o.name w3 HL.out.ln; rw [HH.out.2.2.1] at h; exact h))
   | (go_at_call 49; (with_reducible refine HN1.out.mono ?_); clear HN1; clear x0 x1 x2 x3 x4 x5 x6; rintro e w4 ⟨rfl, hb4⟩; dsimp only; have H4 := Lib.hid (And.intro (H3.out.1.trans (hb4.mono H3.out.1.size)) (H3.out.2.on hb4)); clear hb4; have x0 : w4.cell? ⟨Bx, 0, none⟩ = some (.int .i64 o.k) := H4.out.2.cell 0; have x1 : w4.cell? ⟨Bx, 1, none⟩ = some (.string (sx o.name)) := H4.out.2.cell 1; have x2 : w4.cell? ⟨Bx, 2, none⟩ = some (.string (sx o.dst)) := H4.out.2.cell 2; have x3 : w4.cell? ⟨Bx, 3, none⟩ = some (.slice Aa na ca) := H4.out.2.cell 3; have x4 : w4.cell? ⟨Bx, 4, none⟩ = some (.slice Ap np cp) := H4.out.2.cell 4; have x5 : w4.cell? ⟨Bx, 5, none⟩ = some (.slice Ac nc cc) := H4.out.2.cell 5; have x6 : w4.cell? ⟨Bx, 6, none⟩ = some (.int .i64 o.n) := H4.out.2.cell 6; have HN2 : Hid (Calls Tryz.prog 49 #[.string (sx o.dst)] w4 fun e w' => e = .returned (.bool true) ∧ Below w4.heap.size w4 w') := Lib.hid (by have h := refMayName_any o.dst w4 HL.out.lt; rw [HH.out.2.2.2.1] at h; exact h))
   | (go_at_call 49; (with_reducible refine HN2.out.mono ?_); clear HN2; clear x0 x1 x2 x3 x4 x5 x6; rintro e w5 ⟨rfl, hb5⟩; dsimp only; have H5 := Lib.hid (And.intro (H4.out.1.trans (hb5.mono H4.out.1.size)) (H4.out.2.on hb5)); clear hb5; have x0 : w5.cell? ⟨Bx, 0, none⟩ = some (.int .i64 o.k) := H5.out.2.cell 0; have x1 : w5.cell? ⟨Bx, 1, none⟩ = some (.string (sx o.name)) := H5.out.2.cell 1; have x2 : w5.cell? ⟨Bx, 2, none⟩ = some (.string (sx o.dst)) := H5.out.2.cell 2; have x3 : w5.cell? ⟨Bx, 3, none⟩ = some (.slice Aa na ca) := H5.out.2.cell 3; have x4 : w5.cell? ⟨Bx, 4, none⟩ = some (.slice Ap np cp) := H5.out.2.cell 4; have x5 : w5.cell? ⟨Bx, 5, none⟩ = some (.slice Ac nc cc) := H5.out.2.cell 5; have x6 : w5.cell? ⟨Bx, 6, none⟩ = some (.int .i64 o.n) := H5.out.2.cell 6))
 go_ret
 exact ⟨rfl, H5.out.1⟩
set_option maxHeartbeats 16000000 in
theorem rmay8 (o : Opn) (va vp vc : Value) (w : World) (ho : OpAt w o va vp vc) (hl : Lim o) (h0 : isK o.k = true) (h1 : sameO o (bareO o) = true) (h2 : mayN o.name = true) (h3 : mayN o.dst = true) (h4 : o.attrs.length ≤ 50) (h5 : o.parts.length ≤ 8) (h6 : o.cur.length ≤ 4000) (h7 : 0 ≤ o.n) (h8 : 1000 < o.n) : Calls Tryz.prog 39 #[opVal o va vp vc] w fun e w' => e = .returned (.bool false) ∧ Below w.heap.size w w' := by
 have HL := Lib.hid hl
 have HA := Lib.hid fun (W : World) (hb : Below w.heap.size w W) => ho.on hb
 obtain ⟨Aa, ca, na, rfl, HNo, hRA0⟩ := rdv_len ho.a
 obtain ⟨Ap, cp, np, rfl, HPo, HPr⟩ := ho.p.full
 obtain ⟨Ac, cc, nc, rfl, HCo, _⟩ := ho.c.full
 have hRA := Lib.hid hRA0
 clear hRA0
 have n4 : ¬ (50 : Int) < (na : Int) := by have := HNo.out; omega
 have n5 : ¬ (8 : Int) < (np : Int) := by have := HPo.out; omega
 have n6 : ¬ (4000 : Int) < (nc : Int) := by have := HCo.out; omega
 have n7 : ¬ o.n < 0 := by omega
 have n8 : 1000 < o.n := h8
 have HH := Lib.hid (And.intro h0 (And.intro h1 (And.intro h2 (And.intro h3 trivial))))
 have hb0 : Below w.heap.size w (w.alloc (.cells (opCs o (.slice Aa na ca) (.slice Ap np cp) (.slice Ac nc cc)) 44)) := (Below.refl _ _).alloc (Nat.le_refl _) _
 have k0 := Blk.new w 44 (opCs o (.slice Aa na ca) (.slice Ap np cp) (.slice Ac nc cc))
 obtain ⟨Bx, hBx⟩ : ∃ b, b = w.heap.size := ⟨_, rfl⟩
 have H0 := Lib.hid (And.intro hb0 (show Blk _ Bx 44 _ from hBx ▸ k0))
 clear hb0 k0 ho hl h0 h1 h2 h3 h4 h5 h6 h7 h8
 go_enter Tryz.func39, Tryz.ntmps39
 go_upto_region 1 with fail
 rw [← hBx]
 generalize w.alloc (.cells (opCs o (.slice Aa na ca) (.slice Ap np cp) (.slice Ac nc cc)) 44) = W0 at H0 ⊢
 clear hBx
 have HBR := Lib.hid (bare_any o _ _ _ W0 (HA.out _ H0.out.1))
 go_upto_region 2 with (first
   | (refine wpList_load_row rfl 44 _ rfl Bx rfl 44 (opCs o (.slice Aa na ca) (.slice Ap np cp) (.slice Ac nc cc)) (0, 0) _ H0.out.2 rfl rfl (by kernel_rfl) ?_)
   | (go_at_call 48; (with_reducible refine HBR.out.mono ?_); clear HBR; rintro e w1 ⟨va', vp', vc', rfl, hat, hb1⟩; obtain ⟨Ba, da, ma, rfl, _, _⟩ := rdv_len hat.a; obtain ⟨Bp, dp, mp, rfl⟩ := hat.p.len; obtain ⟨Bc, dc, mc, rfl, _⟩ := hat.c.len; dsimp only; have H1 := Lib.hid (And.intro hat (And.intro (H0.out.1.trans (hb1.mono H0.out.1.size)) (H0.out.2.on hb1))); clear hat hb1)
   | (refine wpList_store_rowTo rfl 44 _ _ rfl rfl w1.heap.size (opCs (bareO o) (.slice Ba ma da) (.slice Bp mp dp) (.slice Bc mc dc)) rfl rfl 44 zCs (Blk.new w1 44 zCs) (by kernel_rfl) rfl (by kernel_rfl) ?_))
 have hb2 : Below w1.heap.size w1 ((w1.alloc (.cells zCs 44)).setRow w1.heap.size (opCs (bareO o) (.slice Ba ma da) (.slice Bp mp dp) (.slice Bc mc dc))) := below_setRow ((Below.refl _ _).alloc (Nat.le_refl _) (.cells zCs 44)) (Nat.le_refl _) _
 have kB : Blk ((w1.alloc (.cells zCs 44)).setRow w1.heap.size (opCs (bareO o) (.slice Ba ma da) (.slice Bp mp dp) (.slice Bc mc dc))) w1.heap.size 44 (opCs (bareO o) (.slice Ba ma da) (.slice Bp mp dp) (.slice Bc mc dc)) := (Blk.new w1 44 zCs).row _
 have h2' := And.intro (H1.out.1.on hb2) (And.intro (H1.out.2.1.trans (hb2.mono H1.out.2.1.size)) (And.intro (H1.out.2.2.on hb2) kB))
 obtain ⟨Bb, hBb⟩ : ∃ b, b = w1.heap.size := ⟨_, rfl⟩
 rw [← hBb] at h2' ⊢
 clear hb2 kB hBb H0 H1
 generalize (w1.alloc (.cells zCs 44)).setRow Bb (opCs (bareO o) (.slice Ba ma da) (.slice Bp mp dp) (.slice Bc mc dc)) = W at h2' ⊢
 have H2 := Lib.hid h2'
 clear h2'
 rw [HH.out.1]
 have HSM := refSameOp_any o (bareO o) _ _ _ _ _ _ W (HA.out _ H2.out.2.1) H2.out.1 HL.out (bareO_lim HL.out)
 rw [HH.out.2.1] at HSM
 have HSM := Lib.hid HSM
 have x0 : W.cell? ⟨Bx, 0, none⟩ = some (.int .i64 o.k) := H2.out.2.2.1.cell 0
 have x1 : W.cell? ⟨Bx, 1, none⟩ = some (.string (sx o.name)) := H2.out.2.2.1.cell 1
 have x2 : W.cell? ⟨Bx, 2, none⟩ = some (.string (sx o.dst)) := H2.out.2.2.1.cell 2
 have x3 : W.cell? ⟨Bx, 3, none⟩ = some (.slice Aa na ca) := H2.out.2.2.1.cell 3
 have x4 : W.cell? ⟨Bx, 4, none⟩ = some (.slice Ap np cp) := H2.out.2.2.1.cell 4
 have x5 : W.cell? ⟨Bx, 5, none⟩ = some (.slice Ac nc cc) := H2.out.2.2.1.cell 5
 have x6 : W.cell? ⟨Bx, 6, none⟩ = some (.int .i64 o.n) := H2.out.2.2.1.cell 6
 have b0 : W.cell? ⟨Bb, 0, none⟩ = some (.int .i64 (bareO o).k) := H2.out.2.2.2.cell 0
 have b1 : W.cell? ⟨Bb, 1, none⟩ = some (.string (sx (bareO o).name)) := H2.out.2.2.2.cell 1
 have b2 : W.cell? ⟨Bb, 2, none⟩ = some (.string (sx (bareO o).dst)) := H2.out.2.2.2.cell 2
 have b3 : W.cell? ⟨Bb, 3, none⟩ = some (.slice Ba ma da) := H2.out.2.2.2.cell 3
 have b4 : W.cell? ⟨Bb, 4, none⟩ = some (.slice Bp mp dp) := H2.out.2.2.2.cell 4
 have b5 : W.cell? ⟨Bb, 5, none⟩ = some (.slice Bc mc dc) := H2.out.2.2.2.cell 5
 have b6 : W.cell? ⟨Bb, 6, none⟩ = some (.int .i64 (bareO o).n) := H2.out.2.2.2.cell 6
 go_wp2_with (first
   | (go_at_call 42; (with_reducible refine HSM.out.mono ?_); clear HSM; clear x0 x1 x2 x3 x4 x5 x6; clear b0 b1 b2 b3 b4 b5 b6; rintro e w3 ⟨rfl, hb3⟩; dsimp only; have H3 := Lib.hid (And.intro (H2.out.2.1.trans (hb3.mono H2.out.2.1.size)) (H2.out.2.2.1.on hb3)); clear hb3; have x0 : w3.cell? ⟨Bx, 0, none⟩ = some (.int .i64 o.k) := H3.out.2.cell 0; have x1 : w3.cell? ⟨Bx, 1, none⟩ = some (.string (sx o.name)) := H3.out.2.cell 1; have x2 : w3.cell? ⟨Bx, 2, none⟩ = some (.string (sx o.dst)) := H3.out.2.cell 2; have x3 : w3.cell? ⟨Bx, 3, none⟩ = some (.slice Aa na ca) := H3.out.2.cell 3; have x4 : w3.cell? ⟨Bx, 4, none⟩ = some (.slice Ap np cp) := H3.out.2.cell 4; have x5 : w3.cell? ⟨Bx, 5, none⟩ = some (.slice Ac nc cc) := H3.out.2.cell 5; have x6 : w3.cell? ⟨Bx, 6, none⟩ = some (.int .i64 o.n) := H3.out.2.cell 6; have HN1 : Hid (Calls Tryz.prog 49 #[.string (sx o.name)] w3 fun e w' => e = .returned (.bool true) ∧ Below w3.heap.size w3 w') := Lib.hid (by have h := refMayName_any o.name w3 HL.out.ln; rw [HH.out.2.2.1] at h; exact h))
   | (go_at_call 49; (with_reducible refine HN1.out.mono ?_); clear HN1; clear x0 x1 x2 x3 x4 x5 x6; rintro e w4 ⟨rfl, hb4⟩; dsimp only; have H4 := Lib.hid (And.intro (H3.out.1.trans (hb4.mono H3.out.1.size)) (H3.out.2.on hb4)); clear hb4; have x0 : w4.cell? ⟨Bx, 0, none⟩ = some (.int .i64 o.k) := H4.out.2.cell 0; have x1 : w4.cell? ⟨Bx, 1, none⟩ = some (.string (sx o.name)) := H4.out.2.cell 1; have x2 : w4.cell? ⟨Bx, 2, none⟩ = some (.string (sx o.dst)) := H4.out.2.cell 2; have x3 : w4.cell? ⟨Bx, 3, none⟩ = some (.slice Aa na ca) := H4.out.2.cell 3; have x4 : w4.cell? ⟨Bx, 4, none⟩ = some (.slice Ap np cp) := H4.out.2.cell 4; have x5 : w4.cell? ⟨Bx, 5, none⟩ = some (.slice Ac nc cc) := H4.out.2.cell 5; have x6 : w4.cell? ⟨Bx, 6, none⟩ = some (.int .i64 o.n) := H4.out.2.cell 6; have HN2 : Hid (Calls Tryz.prog 49 #[.string (sx o.dst)] w4 fun e w' => e = .returned (.bool true) ∧ Below w4.heap.size w4 w') := Lib.hid (by have h := refMayName_any o.dst w4 HL.out.lt; rw [HH.out.2.2.2.1] at h; exact h))
   | (go_at_call 49; (with_reducible refine HN2.out.mono ?_); clear HN2; clear x0 x1 x2 x3 x4 x5 x6; rintro e w5 ⟨rfl, hb5⟩; dsimp only; have H5 := Lib.hid (And.intro (H4.out.1.trans (hb5.mono H4.out.1.size)) (H4.out.2.on hb5)); clear hb5; have x0 : w5.cell? ⟨Bx, 0, none⟩ = some (.int .i64 o.k) := H5.out.2.cell 0; have x1 : w5.cell? ⟨Bx, 1, none⟩ = some (.string (sx o.name)) := H5.out.2.cell 1; have x2 : w5.cell? ⟨Bx, 2, none⟩ = some (.string (sx o.dst)) := H5.out.2.cell 2; have x3 : w5.cell? ⟨Bx, 3, none⟩ = some (.slice Aa na ca) := H5.out.2.cell 3; have x4 : w5.cell? ⟨Bx, 4, none⟩ = some (.slice Ap np cp) := H5.out.2.cell 4; have x5 : w5.cell? ⟨Bx, 5, none⟩ = some (.slice Ac nc cc) := H5.out.2.cell 5; have x6 : w5.cell? ⟨Bx, 6, none⟩ = some (.int .i64 o.n) := H5.out.2.cell 6))
 go_ret
 exact ⟨rfl, H5.out.1⟩
set_option maxHeartbeats 16000000 in
theorem rmay9 (o : Opn) (va vp vc : Value) (w : World) (ho : OpAt w o va vp vc) (hl : Lim o) (h0 : isK o.k = true) (h1 : sameO o (bareO o) = true) (h2 : mayN o.name = true) (h3 : mayN o.dst = true) (h4 : o.attrs.length ≤ 50) (h5 : o.parts.length ≤ 8) (h6 : o.cur.length ≤ 4000) (h7 : 0 ≤ o.n) (h8 : o.n ≤ 1000) (res : Bool) (hres : res = (o.attrs.all mayA && (o.parts.all mayN && ((o.k != 1 || mayL o.attrs) && (o.k != 5 || decide (o.attrs.length = 1)))))) : Calls Tryz.prog 39 #[opVal o va vp vc] w fun e w' => e = .returned (.bool res) ∧ Below w.heap.size w w' := by
 have HL := Lib.hid hl
 have HA := Lib.hid fun (W : World) (hb : Below w.heap.size w W) => ho.on hb
 obtain ⟨Aa, ca, na, rfl, HNo, hRA0⟩ := rdv_len ho.a
 obtain ⟨Ap, cp, np, rfl, HPo, HPr⟩ := ho.p.full
 obtain ⟨Ac, cc, nc, rfl, HCo, _⟩ := ho.c.full
 have hRA := Lib.hid hRA0
 clear hRA0
 have n4 : ¬ (50 : Int) < (na : Int) := by have := HNo.out; omega
 have n5 : ¬ (8 : Int) < (np : Int) := by have := HPo.out; omega
 have n6 : ¬ (4000 : Int) < (nc : Int) := by have := HCo.out; omega
 have n7 : ¬ o.n < 0 := by omega
 have n8 : ¬ 1000 < o.n := by omega
 have HH := Lib.hid (And.intro h0 (And.intro h1 (And.intro h2 (And.intro h3 trivial))))
 have HRES := Lib.hid hres
 have HSZ := Lib.hid (And.intro h4 h5)
 clear hres
 have hb0 : Below w.heap.size w (w.alloc (.cells (opCs o (.slice Aa na ca) (.slice Ap np cp) (.slice Ac nc cc)) 44)) := (Below.refl _ _).alloc (Nat.le_refl _) _
 have k0 := Blk.new w 44 (opCs o (.slice Aa na ca) (.slice Ap np cp) (.slice Ac nc cc))
 obtain ⟨Bx, hBx⟩ : ∃ b, b = w.heap.size := ⟨_, rfl⟩
 have H0 := Lib.hid (And.intro hb0 (show Blk _ Bx 44 _ from hBx ▸ k0))
 clear hb0 k0 ho hl h0 h1 h2 h3 h4 h5 h6 h7 h8
 go_enter Tryz.func39, Tryz.ntmps39
 go_upto_region 1 with fail
 rw [← hBx]
 generalize w.alloc (.cells (opCs o (.slice Aa na ca) (.slice Ap np cp) (.slice Ac nc cc)) 44) = W0 at H0 ⊢
 clear hBx
 have HBR := Lib.hid (bare_any o _ _ _ W0 (HA.out _ H0.out.1))
 go_upto_region 2 with (first
   | (refine wpList_load_row rfl 44 _ rfl Bx rfl 44 (opCs o (.slice Aa na ca) (.slice Ap np cp) (.slice Ac nc cc)) (0, 0) _ H0.out.2 rfl rfl (by kernel_rfl) ?_)
   | (go_at_call 48; (with_reducible refine HBR.out.mono ?_); clear HBR; rintro e w1 ⟨va', vp', vc', rfl, hat, hb1⟩; obtain ⟨Ba, da, ma, rfl, _, _⟩ := rdv_len hat.a; obtain ⟨Bp, dp, mp, rfl⟩ := hat.p.len; obtain ⟨Bc, dc, mc, rfl, _⟩ := hat.c.len; dsimp only; have H1 := Lib.hid (And.intro hat (And.intro (H0.out.1.trans (hb1.mono H0.out.1.size)) (H0.out.2.on hb1))); clear hat hb1)
   | (refine wpList_store_rowTo rfl 44 _ _ rfl rfl w1.heap.size (opCs (bareO o) (.slice Ba ma da) (.slice Bp mp dp) (.slice Bc mc dc)) rfl rfl 44 zCs (Blk.new w1 44 zCs) (by kernel_rfl) rfl (by kernel_rfl) ?_))
 have hb2 : Below w1.heap.size w1 ((w1.alloc (.cells zCs 44)).setRow w1.heap.size (opCs (bareO o) (.slice Ba ma da) (.slice Bp mp dp) (.slice Bc mc dc))) := below_setRow ((Below.refl _ _).alloc (Nat.le_refl _) (.cells zCs 44)) (Nat.le_refl _) _
 have kB : Blk ((w1.alloc (.cells zCs 44)).setRow w1.heap.size (opCs (bareO o) (.slice Ba ma da) (.slice Bp mp dp) (.slice Bc mc dc))) w1.heap.size 44 (opCs (bareO o) (.slice Ba ma da) (.slice Bp mp dp) (.slice Bc mc dc)) := (Blk.new w1 44 zCs).row _
 have h2' := And.intro (H1.out.1.on hb2) (And.intro (H1.out.2.1.trans (hb2.mono H1.out.2.1.size)) (And.intro (H1.out.2.2.on hb2) kB))
 obtain ⟨Bb, hBb⟩ : ∃ b, b = w1.heap.size := ⟨_, rfl⟩
 rw [← hBb] at h2' ⊢
 clear hb2 kB hBb H0 H1
 generalize (w1.alloc (.cells zCs 44)).setRow Bb (opCs (bareO o) (.slice Ba ma da) (.slice Bp mp dp) (.slice Bc mc dc)) = W at h2' ⊢
 have H2 := Lib.hid h2'
 clear h2'
 rw [HH.out.1]
 have HSM := refSameOp_any o (bareO o) _ _ _ _ _ _ W (HA.out _ H2.out.2.1) H2.out.1 HL.out (bareO_lim HL.out)
 rw [HH.out.2.1] at HSM
 have HSM := Lib.hid HSM
 have x0 : W.cell? ⟨Bx, 0, none⟩ = some (.int .i64 o.k) := H2.out.2.2.1.cell 0
 have x1 : W.cell? ⟨Bx, 1, none⟩ = some (.string (sx o.name)) := H2.out.2.2.1.cell 1
 have x2 : W.cell? ⟨Bx, 2, none⟩ = some (.string (sx o.dst)) := H2.out.2.2.1.cell 2
 have x3 : W.cell? ⟨Bx, 3, none⟩ = some (.slice Aa na ca) := H2.out.2.2.1.cell 3
 have x4 : W.cell? ⟨Bx, 4, none⟩ = some (.slice Ap np cp) := H2.out.2.2.1.cell 4
 have x5 : W.cell? ⟨Bx, 5, none⟩ = some (.slice Ac nc cc) := H2.out.2.2.1.cell 5
 have x6 : W.cell? ⟨Bx, 6, none⟩ = some (.int .i64 o.n) := H2.out.2.2.1.cell 6
 have b0 : W.cell? ⟨Bb, 0, none⟩ = some (.int .i64 (bareO o).k) := H2.out.2.2.2.cell 0
 have b1 : W.cell? ⟨Bb, 1, none⟩ = some (.string (sx (bareO o).name)) := H2.out.2.2.2.cell 1
 have b2 : W.cell? ⟨Bb, 2, none⟩ = some (.string (sx (bareO o).dst)) := H2.out.2.2.2.cell 2
 have b3 : W.cell? ⟨Bb, 3, none⟩ = some (.slice Ba ma da) := H2.out.2.2.2.cell 3
 have b4 : W.cell? ⟨Bb, 4, none⟩ = some (.slice Bp mp dp) := H2.out.2.2.2.cell 4
 have b5 : W.cell? ⟨Bb, 5, none⟩ = some (.slice Bc mc dc) := H2.out.2.2.2.cell 5
 have b6 : W.cell? ⟨Bb, 6, none⟩ = some (.int .i64 (bareO o).n) := H2.out.2.2.2.cell 6
 go_wp2_with (first
   | (go_at_call 42; (with_reducible refine HSM.out.mono ?_); clear HSM; clear x0 x1 x2 x3 x4 x5 x6; clear b0 b1 b2 b3 b4 b5 b6; rintro e w3 ⟨rfl, hb3⟩; dsimp only; have H3 := Lib.hid (And.intro (H2.out.2.1.trans (hb3.mono H2.out.2.1.size)) (H2.out.2.2.1.on hb3)); clear hb3; have x0 : w3.cell? ⟨Bx, 0, none⟩ = some (.int .i64 o.k) := H3.out.2.cell 0; have x1 : w3.cell? ⟨Bx, 1, none⟩ = some (.string (sx o.name)) := H3.out.2.cell 1; have x2 : w3.cell? ⟨Bx, 2, none⟩ = some (.string (sx o.dst)) := H3.out.2.cell 2; have x3 : w3.cell? ⟨Bx, 3, none⟩ = some (.slice Aa na ca) := H3.out.2.cell 3; have x4 : w3.cell? ⟨Bx, 4, none⟩ = some (.slice Ap np cp) := H3.out.2.cell 4; have x5 : w3.cell? ⟨Bx, 5, none⟩ = some (.slice Ac nc cc) := H3.out.2.cell 5; have x6 : w3.cell? ⟨Bx, 6, none⟩ = some (.int .i64 o.n) := H3.out.2.cell 6; have HN1 : Hid (Calls Tryz.prog 49 #[.string (sx o.name)] w3 fun e w' => e = .returned (.bool true) ∧ Below w3.heap.size w3 w') := Lib.hid (by have h := refMayName_any o.name w3 HL.out.ln; rw [HH.out.2.2.1] at h; exact h))
   | (go_at_call 49; (with_reducible refine HN1.out.mono ?_); clear HN1; clear x0 x1 x2 x3 x4 x5 x6; rintro e w4 ⟨rfl, hb4⟩; dsimp only; have H4 := Lib.hid (And.intro (H3.out.1.trans (hb4.mono H3.out.1.size)) (H3.out.2.on hb4)); clear hb4; have x0 : w4.cell? ⟨Bx, 0, none⟩ = some (.int .i64 o.k) := H4.out.2.cell 0; have x1 : w4.cell? ⟨Bx, 1, none⟩ = some (.string (sx o.name)) := H4.out.2.cell 1; have x2 : w4.cell? ⟨Bx, 2, none⟩ = some (.string (sx o.dst)) := H4.out.2.cell 2; have x3 : w4.cell? ⟨Bx, 3, none⟩ = some (.slice Aa na ca) := H4.out.2.cell 3; have x4 : w4.cell? ⟨Bx, 4, none⟩ = some (.slice Ap np cp) := H4.out.2.cell 4; have x5 : w4.cell? ⟨Bx, 5, none⟩ = some (.slice Ac nc cc) := H4.out.2.cell 5; have x6 : w4.cell? ⟨Bx, 6, none⟩ = some (.int .i64 o.n) := H4.out.2.cell 6; have HN2 : Hid (Calls Tryz.prog 49 #[.string (sx o.dst)] w4 fun e w' => e = .returned (.bool true) ∧ Below w4.heap.size w4 w') := Lib.hid (by have h := refMayName_any o.dst w4 HL.out.lt; rw [HH.out.2.2.2.1] at h; exact h))
   | (go_at_call 49; (with_reducible refine HN2.out.mono ?_); clear HN2; clear x0 x1 x2 x3 x4 x5 x6; rintro e w5 ⟨rfl, hb5⟩; dsimp only; have H5 := Lib.hid (And.intro (H4.out.1.trans (hb5.mono H4.out.1.size)) (H4.out.2.on hb5)); clear hb5; have x0 : w5.cell? ⟨Bx, 0, none⟩ = some (.int .i64 o.k) := H5.out.2.cell 0; have x1 : w5.cell? ⟨Bx, 1, none⟩ = some (.string (sx o.name)) := H5.out.2.cell 1; have x2 : w5.cell? ⟨Bx, 2, none⟩ = some (.string (sx o.dst)) := H5.out.2.cell 2; have x3 : w5.cell? ⟨Bx, 3, none⟩ = some (.slice Aa na ca) := H5.out.2.cell 3; have x4 : w5.cell? ⟨Bx, 4, none⟩ = some (.slice Ap np cp) := H5.out.2.cell 4; have x5 : w5.cell? ⟨Bx, 5, none⟩ = some (.slice Ac nc cc) := H5.out.2.cell 5; have x6 : w5.cell? ⟨Bx, 6, none⟩ = some (.int .i64 o.n) := H5.out.2.cell 6))
 clear n4 n5 n6 n7 n8 x0 x1 x2 x3 x4 x5 x6
 have HN50 := Lib.hid (show na ≤ 50 ∧ np ≤ 8 by have h1 := HNo.out; have h2 := HPo.out; have h3 := HSZ.out; omega)
 go_loopw [5] (fun i wr => ∃ k : Nat, i = .int .i64 k ∧ k ≤ na ∧ Hid (Below w.heap.size w wr ∧ Blk wr Bx 44 (opCs o (.slice Aa na ca) (.slice Ap np cp) (.slice Ac nc cc))) ∧ Hid (∀ j, j < k → mayA (o.attrs.getD j default) = true)) (fun i _ => na - (intOf i).toNat)
 case atStart => exact ⟨0, rfl, Nat.zero_le _, Lib.hid ⟨H5.out.1, H5.out.2⟩, Lib.hid fun j hj => absurd hj (Nat.not_lt_zero _)⟩
 case round =>
   obtain ⟨k, rfl, hk, HB, HAll⟩ := hrel
   have hna : na ≤ 50 := HN50.out.1
   have x3 : wr.cell? ⟨Bx, 3, none⟩ = some (.slice Aa na ca) := HB.out.2.cell 3
   by_cases hlt : k < na
   · have hkl : k < o.attrs.length := by have := HNo.out; omega
     obtain ⟨b, off, rfl, hbl, c0, c1⟩ := YtniaijgejljjbaaGreat.at_cells hRA.out HB.out.1 hkl
     have hx := YtniaijgejljjbaaGreat.sm_get HL.out.sa k hkl
     have HG := Lib.hid (List.getElem_mem (l := o.attrs) hkl)
     have hge : o.attrs.getD k default = o.attrs[k] := by rw [List.getD_eq_getElem?_getD, List.getElem?_eq_getElem hkl]; rfl
     rw [← hge] at HG
     generalize hxx : o.attrs.getD k default = x at c0 c1 hx HG
     have HXX := Lib.hid hxx
     have HM := refMayAttr_any x wr hx.1 hx.2
     have HKL := Lib.hid hkl
     clear hx hxx hge hkl
     cases hma : mayA x with
     | false =>
       rw [hma] at HM
       have HM := Lib.hid HM
       have HR : Hid (res = false) := Lib.hid (by
         rw [HRES.out]
         have : o.attrs.all mayA = false := by
           rw [← Bool.not_eq_true, List.all_eq_true]
           intro h
           have := h x HG.out
           rw [hma] at this
           cases this
         rw [this]
         rfl)
       clear hma
       go_wp2_with (go_at_call 50; (refine HM.out.mono ?_); rintro e w6 ⟨rfl, hb6⟩; dsimp only; have H6 := Lib.hid (HB.out.1.trans (hb6.mono HB.out.1.size)); clear hb6)
       go_ret
       exact ⟨by rw [HR.out]; rfl, H6.out⟩
     | true =>
       rw [hma] at HM
       have HM := Lib.hid HM
       have HMA := Lib.hid hma
       clear hma
       go_wp2_with (go_at_call 50; (refine HM.out.mono ?_); rintro e w6 ⟨rfl, hb6⟩; dsimp only; have H6 := Lib.hid (And.intro (HB.out.1.trans (hb6.mono HB.out.1.size)) (HB.out.2.on hb6)); clear hb6 x3 c0 c1)
       go_roundw
       case rel => exact ⟨k + 1, by go_num, by omega, H6, Lib.hid fun j hj => by
         by_cases e : j = k
         · subst e; rw [HXX.out]; exact HMA.out
         · exact HAll.out j (by omega)⟩
       case measure => simp [intOf]; omega
   · have hkn : k = na := by omega
     have HALLA : Hid (o.attrs.all mayA = true) := Lib.hid (List.all_eq_true.2 fun x hx => by
       obtain ⟨j, hj, rfl⟩ := List.getElem_of_mem hx
       have := HAll.out j (by have := HNo.out; omega)
       rwa [List.getD_eq_getElem?_getD, List.getElem?_eq_getElem hj] at this)
     obtain ⟨wo, hwo⟩ : ∃ wo : World, wo = wr := ⟨_, rfl⟩
     subst hwo
     have HB2 := Lib.hid HB.out
     clear HB HAll hkn
     go_wp2_with fail
     clear x3
     go_loopw [6] (fun i wr => ∃ k : Nat, i = .int .i64 k ∧ k ≤ np ∧ Hid (Below w.heap.size w wr ∧ Blk wr Bx 44 (opCs o (.slice Aa na ca) (.slice Ap np cp) (.slice Ac nc cc))) ∧ Hid (∀ j, j < k → mayN (o.parts.getD j default) = true)) (fun i _ => np - (intOf i).toNat)
     case atStart => exact ⟨0, rfl, Nat.zero_le _, HB2, Lib.hid fun j hj => absurd hj (Nat.not_lt_zero _)⟩
     case round =>
       obtain ⟨m, rfl, hm, HB, HAll⟩ := hrel
       have hnp : np ≤ 8 := HN50.out.2
       have x4 : wr.cell? ⟨Bx, 4, none⟩ = some (.slice Ap np cp) := HB.out.2.cell 4
       by_cases hlt2 : m < np
       · have hkl : m < o.parts.length := by have := HPo.out; omega
         obtain ⟨b, off, rfl, hbl, c0⟩ := str_cell HPr.out HB.out.1 hkl
         have HG := Lib.hid (List.getElem_mem (l := o.parts) hkl)
         have hge : o.parts.getD m default = o.parts[m] := by rw [List.getD_eq_getElem?_getD, List.getElem?_eq_getElem hkl]; rfl
         rw [← hge] at HG
         generalize hxx : o.parts.getD m default = x at c0 HG
         have HXX := Lib.hid hxx
         have HM := refMayName_any x wr (HL.out.sp x HG.out)
         clear hxx hge hkl
         cases hma : mayN x with
         | false =>
           rw [hma] at HM
           have HM := Lib.hid HM
           have HR : Hid (res = false) := Lib.hid (by
             rw [HRES.out, HALLA.out]
             have : o.parts.all mayN = false := by
               rw [← Bool.not_eq_true, List.all_eq_true]
               intro h
               have := h x HG.out
               rw [hma] at this
               cases this
             rw [this]
             rfl)
           clear hma
           go_wp2_with (go_at_call 49; (refine HM.out.mono ?_); rintro e w6 ⟨rfl, hb6⟩; dsimp only; have H6 := Lib.hid (HB.out.1.trans (hb6.mono HB.out.1.size)); clear hb6)
           go_ret
           exact ⟨by rw [HR.out]; rfl, H6.out⟩
         | true =>
           rw [hma] at HM
           have HM := Lib.hid HM
           have HMA := Lib.hid hma
           clear hma
           go_wp2_with (go_at_call 49; (refine HM.out.mono ?_); rintro e w6 ⟨rfl, hb6⟩; dsimp only; have H6 := Lib.hid (And.intro (HB.out.1.trans (hb6.mono HB.out.1.size)) (HB.out.2.on hb6)); clear hb6 x4 c0)
           go_roundw
           case rel => exact ⟨m + 1, by go_num, by omega, H6, Lib.hid fun j hj => by
             by_cases e : j = m
             · subst e; rw [HXX.out]; exact HMA.out
             · exact HAll.out j (by omega)⟩
           case measure => simp [intOf]; omega
       · have hmn : m = np := by omega
         have HALLP : Hid (o.parts.all mayN = true) := Lib.hid (List.all_eq_true.2 fun x hx => by
           obtain ⟨j, hj, rfl⟩ := List.getElem_of_mem hx
           have := HAll.out j (by have := HPo.out; omega)
           rwa [List.getD_eq_getElem?_getD, List.getElem?_eq_getElem hj] at this)
         have x0 : wr.cell? ⟨Bx, 0, none⟩ = some (.int .i64 o.k) := HB.out.2.cell 0
         have x3 : wr.cell? ⟨Bx, 3, none⟩ = some (.slice Aa na ca) := HB.out.2.cell 3
         clear hmn HAll
         by_cases h1 : o.k = 1
         · have hk1 : (o.k != 1) = false := by rw [h1]; rfl
           have hk5 : (o.k != 5) = true := by rw [h1]; rfl
           have HM := refMayAttrs_any o.attrs _ wr (HA.out _ HB.out.1).a HL.out.sa HL.out.la
           have HR : Hid (res = mayL o.attrs) := Lib.hid (by rw [HRES.out, HALLA.out, HALLP.out, hk1, hk5]; simp)
           have HM := Lib.hid HM
           clear h1
           cases hml : mayL o.attrs with
           | true =>
             rw [hml] at HM HR
             clear hml
             go_wp2_with (go_at_call 51; (refine HM.out.mono ?_); rintro e w6 ⟨rfl, hb6⟩; dsimp only; have H6 := Lib.hid (And.intro (HB.out.1.trans (hb6.mono HB.out.1.size)) (HB.out.2.on hb6)); clear hb6 x0 x3; have x0 : w6.cell? ⟨Bx, 0, none⟩ = some (.int .i64 o.k) := H6.out.2.cell 0; have x3 : w6.cell? ⟨Bx, 3, none⟩ = some (.slice Aa na ca) := H6.out.2.cell 3)
             go_ret
             exact ⟨by rw [HR.out]; rfl, H6.out.1⟩
           | false =>
             rw [hml] at HM HR
             clear hml
             go_wp2_with (go_at_call 51; (refine HM.out.mono ?_); rintro e w6 ⟨rfl, hb6⟩; dsimp only; have H6 := Lib.hid (And.intro (HB.out.1.trans (hb6.mono HB.out.1.size)) (HB.out.2.on hb6)); clear hb6 x0 x3; have x0 : w6.cell? ⟨Bx, 0, none⟩ = some (.int .i64 o.k) := H6.out.2.cell 0; have x3 : w6.cell? ⟨Bx, 3, none⟩ = some (.slice Aa na ca) := H6.out.2.cell 3)
             go_ret
             exact ⟨by rw [HR.out]; rfl, H6.out.1⟩
         · have hk1 : (o.k != 1) = true := by simpa using h1
           by_cases h5 : o.k = 5
           · have hk5 : (o.k != 5) = false := by rw [h5]; rfl
             have HR : Hid (res = decide (na = 1)) := Lib.hid (by rw [HRES.out, HALLA.out, HALLP.out, hk1, hk5, HNo.out]; simp)
             clear h1 h5
             by_cases hn1 : na = 1
             · have e1 : ((na : Int) == 1) = true := by rw [hn1]; rfl
               have HR2 : Hid (res = true) := Lib.hid (by rw [HR.out, hn1]; rfl)
               clear hn1 hk hlt
               go_wp2_with fail
               go_ret
               exact ⟨by rw [HR2.out]; rfl, HB.out.1⟩
             · have e1 : ((na : Int) == 1) = false := by
                 have : ¬ (na : Int) = 1 := by omega
                 simpa using this
               have HR2 : Hid (res = false) := Lib.hid (by rw [HR.out]; exact decide_eq_false hn1)
               clear hn1 hk hlt
               go_wp2_with fail
               go_ret
               exact ⟨by rw [HR2.out]; rfl, HB.out.1⟩
           · have hk5 : (o.k != 5) = true := by simpa using h5
             have HR : Hid (res = true) := Lib.hid (by rw [HRES.out, HALLA.out, HALLP.out, hk1, hk5]; simp)
             clear h1 h5 hk hlt
             go_wp2_with fail
             go_ret
             exact ⟨by rw [HR.out]; rfl, HB.out.1⟩
theorem refMayOp_any (o : Opn) (va vp vc : Value) (w : World) (ho : OpAt w o va vp vc) (hl : Lim o) : Calls Tryz.prog 39 #[opVal o va vp vc] w fun e w' => e = .returned (.bool (mayO o)) ∧ Below w.heap.size w w' := by
 rw [← refO_eq]
 unfold refO
 cases h0 : isK o.k with
 | false => simpa using rmay0 o va vp vc w ho hl h0
 | true =>
   cases h1 : sameO o (bareO o) with
   | false => simpa using rmay1 o va vp vc w ho hl h0 h1
   | true =>
     cases h2 : mayN o.name with
     | false => simpa using rmay2 o va vp vc w ho hl h0 h1 h2
     | true =>
       cases h3 : mayN o.dst with
       | false => simpa using rmay3 o va vp vc w ho hl h0 h1 h2 h3
       | true =>
         by_cases g4 : 50 < o.attrs.length
         · have e : decide (o.attrs.length ≤ 50) = false := decide_eq_false (by omega)
           rw [e]
           simpa using rmay4 o va vp vc w ho hl h0 h1 h2 h3 g4
         have h4 : o.attrs.length ≤ 50 := by omega
         by_cases g5 : 8 < o.parts.length
         · have e : decide (o.parts.length ≤ 8) = false := decide_eq_false (by omega)
           rw [e]
           simpa using rmay5 o va vp vc w ho hl h0 h1 h2 h3 h4 g5
         have h5 : o.parts.length ≤ 8 := by omega
         by_cases g6 : 4000 < o.cur.length
         · have e : decide (o.cur.length ≤ 4000) = false := decide_eq_false (by omega)
           rw [e]
           simpa using rmay6 o va vp vc w ho hl h0 h1 h2 h3 h4 h5 g6
         have h6 : o.cur.length ≤ 4000 := by omega
         by_cases g7 : o.n < 0
         · have e : decide (0 ≤ o.n) = false := decide_eq_false (by omega)
           rw [e]
           simpa using rmay7 o va vp vc w ho hl h0 h1 h2 h3 h4 h5 h6 g7
         have h7 : 0 ≤ o.n := by omega
         by_cases g8 : 1000 < o.n
         · have e : decide (o.n ≤ 1000) = false := decide_eq_false (by omega)
           rw [e]
           simpa using rmay8 o va vp vc w ho hl h0 h1 h2 h3 h4 h5 h6 h7 g8
         have h8 : o.n ≤ 1000 := by omega
         rw [decide_eq_true h4, decide_eq_true h5, decide_eq_true h6, decide_eq_true h7, decide_eq_true h8]
         simp only [Bool.true_and]
         exact rmay9 o va vp vc w ho hl h0 h1 h2 h3 h4 h5 h6 h7 h8 _ rfl
end Go.Proofs.YtniaijgejljjbaaGreat.Tlv
