/- SameOp. -/
import Derived.Test.YtniaijgejljjbaaGreatY19
namespace Go.Proofs.YtniaijgejljjbaaGreat.Tlv
open Go.RowKit
set_option maxRecDepth 100000
set_option linter.unusedVariables false
set_option linter.unusedSimpArgs false
def sameO (o p : Opn) : Bool := decide (o.k = p.k) && (decide (o.name = p.name) && (decide (o.dst = p.dst) && (decide (o.attrs = p.attrs) && (decide (o.parts = p.parts) && (decide (o.cur = p.cur) && decide (o.n = p.n))))))
set_option maxHeartbeats 4000000 in
theorem same0 (o p : Opn) (va vp vc xa xp xc : Value) (w : World) (ho : OpAt w o va vp vc) (hp : OpAt w p xa xp xc) (hl : Lim o) (hl2 : Lim p) (h0 : o.k ≠ p.k) : Calls Tryz.prog 41 #[opVal o va vp vc, opVal p xa xp xc] w fun e w' => e = .returned (.bool false) ∧ Below w.heap.size w w' := by
 have HL := Lib.hid (And.intro hl hl2)
 have HA := Lib.hid fun (W : World) (hb : Below w.heap.size w W) => And.intro (ho.on hb) (hp.on hb)
 obtain ⟨Aa, ca, na, rfl, _, _⟩ := rdv_len ho.a
 obtain ⟨Ap, cp, np, rfl, _, _⟩ := ho.p.full
 obtain ⟨Ac, cc, nc, rfl, _, _⟩ := ho.c.full
 obtain ⟨Ba, da, ma, rfl, _, _⟩ := rdv_len hp.a
 obtain ⟨Bp, dp, mp, rfl, _, _⟩ := hp.p.full
 obtain ⟨Bc, dc, mc, rfl, _, _⟩ := hp.c.full
 have t0 : (o.k == p.k) = false := by simp [h0]
 have hb : Below w.heap.size w ((w.alloc (.cells (opCs o (.slice Aa na ca) (.slice Ap np cp) (.slice Ac nc cc)) 44)).alloc (.cells (opCs p (.slice Ba ma da) (.slice Bp mp dp) (.slice Bc mc dc)) 44)) := ((Below.refl _ _).alloc (Nat.le_refl _) _).alloc (by simp) _
 have k1 := (Blk.new w 44 (opCs o (.slice Aa na ca) (.slice Ap np cp) (.slice Ac nc cc))).alloc (.cells (opCs p (.slice Ba ma da) (.slice Bp mp dp) (.slice Bc mc dc)) 44)
 have k2 := Blk.new (w.alloc (.cells (opCs o (.slice Aa na ca) (.slice Ap np cp) (.slice Ac nc cc)) 44)) 44 (opCs p (.slice Ba ma da) (.slice Bp mp dp) (.slice Bc mc dc))
 rw [show (w.alloc (.cells (opCs o (.slice Aa na ca) (.slice Ap np cp) (.slice Ac nc cc)) 44)).heap.size = w.heap.size + 1 from by simp] at k2
 obtain ⟨B1, hB1⟩ : ∃ b, b = w.heap.size := ⟨_, rfl⟩
 obtain ⟨B2, hB2⟩ : ∃ b, b = w.heap.size + 1 := ⟨_, rfl⟩
 have HBB := Lib.hid (And.intro hB1 hB2)
 rw [← hB2] at k2
 have HB0 := Lib.hid (And.intro hb (And.intro (show Blk _ B1 44 _ from hB1 ▸ k1) k2))
 clear hb k1 k2 ho hp hl hl2 h0
 go_enter Tryz.func41, Tryz.ntmps41
 go_upto_region 1 with fail
 rw [← hB2, ← hB1]
 generalize (w.alloc (.cells (opCs o (.slice Aa na ca) (.slice Ap np cp) (.slice Ac nc cc)) 44)).alloc (.cells (opCs p (.slice Ba ma da) (.slice Bp mp dp) (.slice Bc mc dc)) 44) = W at HB0 ⊢
 clear hB1 hB2
 have HB1 := Lib.hid HB0.out
 have c0 : W.cell? ⟨B1, 0, none⟩ = some (.int .i64 o.k) := HB0.out.2.1.cell 0
 have d0 : W.cell? ⟨B2, 0, none⟩ = some (.int .i64 p.k) := HB0.out.2.2.cell 0
 have c1 : W.cell? ⟨B1, 1, none⟩ = some (.string (sx o.name)) := HB0.out.2.1.cell 1
 have d1 : W.cell? ⟨B2, 1, none⟩ = some (.string (sx p.name)) := HB0.out.2.2.cell 1
 have c2 : W.cell? ⟨B1, 2, none⟩ = some (.string (sx o.dst)) := HB0.out.2.1.cell 2
 have d2 : W.cell? ⟨B2, 2, none⟩ = some (.string (sx p.dst)) := HB0.out.2.2.cell 2
 have c3 : W.cell? ⟨B1, 3, none⟩ = some (.slice Aa na ca) := HB0.out.2.1.cell 3
 have d3 : W.cell? ⟨B2, 3, none⟩ = some (.slice Ba ma da) := HB0.out.2.2.cell 3
 have c4 : W.cell? ⟨B1, 4, none⟩ = some (.slice Ap np cp) := HB0.out.2.1.cell 4
 have d4 : W.cell? ⟨B2, 4, none⟩ = some (.slice Bp mp dp) := HB0.out.2.2.cell 4
 have c5 : W.cell? ⟨B1, 5, none⟩ = some (.slice Ac nc cc) := HB0.out.2.1.cell 5
 have d5 : W.cell? ⟨B2, 5, none⟩ = some (.slice Bc mc dc) := HB0.out.2.2.cell 5
 have c6 : W.cell? ⟨B1, 6, none⟩ = some (.int .i64 o.n) := HB0.out.2.1.cell 6
 have d6 : W.cell? ⟨B2, 6, none⟩ = some (.int .i64 p.n) := HB0.out.2.2.cell 6
 go_wp2
 go_ret
 exact ⟨rfl, HB0.out.1⟩
set_option maxHeartbeats 4000000 in
theorem same1 (o p : Opn) (va vp vc xa xp xc : Value) (w : World) (ho : OpAt w o va vp vc) (hp : OpAt w p xa xp xc) (hl : Lim o) (hl2 : Lim p) (h0 : o.k = p.k) (h1 : o.name ≠ p.name) : Calls Tryz.prog 41 #[opVal o va vp vc, opVal p xa xp xc] w fun e w' => e = .returned (.bool false) ∧ Below w.heap.size w w' := by
 have HL := Lib.hid (And.intro hl hl2)
 have HA := Lib.hid fun (W : World) (hb : Below w.heap.size w W) => And.intro (ho.on hb) (hp.on hb)
 obtain ⟨Aa, ca, na, rfl, _, _⟩ := rdv_len ho.a
 obtain ⟨Ap, cp, np, rfl, _, _⟩ := ho.p.full
 obtain ⟨Ac, cc, nc, rfl, _, _⟩ := ho.c.full
 obtain ⟨Ba, da, ma, rfl, _, _⟩ := rdv_len hp.a
 obtain ⟨Bp, dp, mp, rfl, _, _⟩ := hp.p.full
 obtain ⟨Bc, dc, mc, rfl, _, _⟩ := hp.c.full
 have t0 : (o.k == p.k) = true := by simp [h0]
 have t1 : ((sx o.name).toList == (sx p.name).toList) = false := by rw [YtniaijgejljjbaaGreat.sx_beq]; simp [h1]
 have hb : Below w.heap.size w ((w.alloc (.cells (opCs o (.slice Aa na ca) (.slice Ap np cp) (.slice Ac nc cc)) 44)).alloc (.cells (opCs p (.slice Ba ma da) (.slice Bp mp dp) (.slice Bc mc dc)) 44)) := ((Below.refl _ _).alloc (Nat.le_refl _) _).alloc (by simp) _
 have k1 := (Blk.new w 44 (opCs o (.slice Aa na ca) (.slice Ap np cp) (.slice Ac nc cc))).alloc (.cells (opCs p (.slice Ba ma da) (.slice Bp mp dp) (.slice Bc mc dc)) 44)
 have k2 := Blk.new (w.alloc (.cells (opCs o (.slice Aa na ca) (.slice Ap np cp) (.slice Ac nc cc)) 44)) 44 (opCs p (.slice Ba ma da) (.slice Bp mp dp) (.slice Bc mc dc))
 rw [show (w.alloc (.cells (opCs o (.slice Aa na ca) (.slice Ap np cp) (.slice Ac nc cc)) 44)).heap.size = w.heap.size + 1 from by simp] at k2
 obtain ⟨B1, hB1⟩ : ∃ b, b = w.heap.size := ⟨_, rfl⟩
 obtain ⟨B2, hB2⟩ : ∃ b, b = w.heap.size + 1 := ⟨_, rfl⟩
 have HBB := Lib.hid (And.intro hB1 hB2)
 rw [← hB2] at k2
 have HB0 := Lib.hid (And.intro hb (And.intro (show Blk _ B1 44 _ from hB1 ▸ k1) k2))
 clear hb k1 k2 ho hp hl hl2 h0 h1
 go_enter Tryz.func41, Tryz.ntmps41
 go_upto_region 1 with fail
 rw [← hB2, ← hB1]
 generalize (w.alloc (.cells (opCs o (.slice Aa na ca) (.slice Ap np cp) (.slice Ac nc cc)) 44)).alloc (.cells (opCs p (.slice Ba ma da) (.slice Bp mp dp) (.slice Bc mc dc)) 44) = W at HB0 ⊢
 clear hB1 hB2
 have HB1 := Lib.hid HB0.out
 have c0 : W.cell? ⟨B1, 0, none⟩ = some (.int .i64 o.k) := HB0.out.2.1.cell 0
 have d0 : W.cell? ⟨B2, 0, none⟩ = some (.int .i64 p.k) := HB0.out.2.2.cell 0
 have c1 : W.cell? ⟨B1, 1, none⟩ = some (.string (sx o.name)) := HB0.out.2.1.cell 1
 have d1 : W.cell? ⟨B2, 1, none⟩ = some (.string (sx p.name)) := HB0.out.2.2.cell 1
 have c2 : W.cell? ⟨B1, 2, none⟩ = some (.string (sx o.dst)) := HB0.out.2.1.cell 2
 have d2 : W.cell? ⟨B2, 2, none⟩ = some (.string (sx p.dst)) := HB0.out.2.2.cell 2
 have c3 : W.cell? ⟨B1, 3, none⟩ = some (.slice Aa na ca) := HB0.out.2.1.cell 3
 have d3 : W.cell? ⟨B2, 3, none⟩ = some (.slice Ba ma da) := HB0.out.2.2.cell 3
 have c4 : W.cell? ⟨B1, 4, none⟩ = some (.slice Ap np cp) := HB0.out.2.1.cell 4
 have d4 : W.cell? ⟨B2, 4, none⟩ = some (.slice Bp mp dp) := HB0.out.2.2.cell 4
 have c5 : W.cell? ⟨B1, 5, none⟩ = some (.slice Ac nc cc) := HB0.out.2.1.cell 5
 have d5 : W.cell? ⟨B2, 5, none⟩ = some (.slice Bc mc dc) := HB0.out.2.2.cell 5
 have c6 : W.cell? ⟨B1, 6, none⟩ = some (.int .i64 o.n) := HB0.out.2.1.cell 6
 have d6 : W.cell? ⟨B2, 6, none⟩ = some (.int .i64 p.n) := HB0.out.2.2.cell 6
 go_wp2
 go_ret
 exact ⟨rfl, HB0.out.1⟩
set_option maxHeartbeats 4000000 in
theorem same2 (o p : Opn) (va vp vc xa xp xc : Value) (w : World) (ho : OpAt w o va vp vc) (hp : OpAt w p xa xp xc) (hl : Lim o) (hl2 : Lim p) (h0 : o.k = p.k) (h1 : o.name = p.name) (h2 : o.dst ≠ p.dst) : Calls Tryz.prog 41 #[opVal o va vp vc, opVal p xa xp xc] w fun e w' => e = .returned (.bool false) ∧ Below w.heap.size w w' := by
 have HL := Lib.hid (And.intro hl hl2)
 have HA := Lib.hid fun (W : World) (hb : Below w.heap.size w W) => And.intro (ho.on hb) (hp.on hb)
 obtain ⟨Aa, ca, na, rfl, _, _⟩ := rdv_len ho.a
 obtain ⟨Ap, cp, np, rfl, _, _⟩ := ho.p.full
 obtain ⟨Ac, cc, nc, rfl, _, _⟩ := ho.c.full
 obtain ⟨Ba, da, ma, rfl, _, _⟩ := rdv_len hp.a
 obtain ⟨Bp, dp, mp, rfl, _, _⟩ := hp.p.full
 obtain ⟨Bc, dc, mc, rfl, _, _⟩ := hp.c.full
 have t0 : (o.k == p.k) = true := by simp [h0]
 have t1 : ((sx o.name).toList == (sx p.name).toList) = true := by rw [YtniaijgejljjbaaGreat.sx_beq]; simp [h1]
 have t2 : ((sx o.dst).toList == (sx p.dst).toList) = false := by rw [YtniaijgejljjbaaGreat.sx_beq]; simp [h2]
 have hb : Below w.heap.size w ((w.alloc (.cells (opCs o (.slice Aa na ca) (.slice Ap np cp) (.slice Ac nc cc)) 44)).alloc (.cells (opCs p (.slice Ba ma da) (.slice Bp mp dp) (.slice Bc mc dc)) 44)) := ((Below.refl _ _).alloc (Nat.le_refl _) _).alloc (by simp) _
 have k1 := (Blk.new w 44 (opCs o (.slice Aa na ca) (.slice Ap np cp) (.slice Ac nc cc))).alloc (.cells (opCs p (.slice Ba ma da) (.slice Bp mp dp) (.slice Bc mc dc)) 44)
 have k2 := Blk.new (w.alloc (.cells (opCs o (.slice Aa na ca) (.slice Ap np cp) (.slice Ac nc cc)) 44)) 44 (opCs p (.slice Ba ma da) (.slice Bp mp dp) (.slice Bc mc dc))
 rw [show (w.alloc (.cells (opCs o (.slice Aa na ca) (.slice Ap np cp) (.slice Ac nc cc)) 44)).heap.size = w.heap.size + 1 from by simp] at k2
 obtain ⟨B1, hB1⟩ : ∃ b, b = w.heap.size := ⟨_, rfl⟩
 obtain ⟨B2, hB2⟩ : ∃ b, b = w.heap.size + 1 := ⟨_, rfl⟩
 have HBB := Lib.hid (And.intro hB1 hB2)
 rw [← hB2] at k2
 have HB0 := Lib.hid (And.intro hb (And.intro (show Blk _ B1 44 _ from hB1 ▸ k1) k2))
 clear hb k1 k2 ho hp hl hl2 h0 h1 h2
 go_enter Tryz.func41, Tryz.ntmps41
 go_upto_region 1 with fail
 rw [← hB2, ← hB1]
 generalize (w.alloc (.cells (opCs o (.slice Aa na ca) (.slice Ap np cp) (.slice Ac nc cc)) 44)).alloc (.cells (opCs p (.slice Ba ma da) (.slice Bp mp dp) (.slice Bc mc dc)) 44) = W at HB0 ⊢
 clear hB1 hB2
 have HB1 := Lib.hid HB0.out
 have c0 : W.cell? ⟨B1, 0, none⟩ = some (.int .i64 o.k) := HB0.out.2.1.cell 0
 have d0 : W.cell? ⟨B2, 0, none⟩ = some (.int .i64 p.k) := HB0.out.2.2.cell 0
 have c1 : W.cell? ⟨B1, 1, none⟩ = some (.string (sx o.name)) := HB0.out.2.1.cell 1
 have d1 : W.cell? ⟨B2, 1, none⟩ = some (.string (sx p.name)) := HB0.out.2.2.cell 1
 have c2 : W.cell? ⟨B1, 2, none⟩ = some (.string (sx o.dst)) := HB0.out.2.1.cell 2
 have d2 : W.cell? ⟨B2, 2, none⟩ = some (.string (sx p.dst)) := HB0.out.2.2.cell 2
 have c3 : W.cell? ⟨B1, 3, none⟩ = some (.slice Aa na ca) := HB0.out.2.1.cell 3
 have d3 : W.cell? ⟨B2, 3, none⟩ = some (.slice Ba ma da) := HB0.out.2.2.cell 3
 have c4 : W.cell? ⟨B1, 4, none⟩ = some (.slice Ap np cp) := HB0.out.2.1.cell 4
 have d4 : W.cell? ⟨B2, 4, none⟩ = some (.slice Bp mp dp) := HB0.out.2.2.cell 4
 have c5 : W.cell? ⟨B1, 5, none⟩ = some (.slice Ac nc cc) := HB0.out.2.1.cell 5
 have d5 : W.cell? ⟨B2, 5, none⟩ = some (.slice Bc mc dc) := HB0.out.2.2.cell 5
 have c6 : W.cell? ⟨B1, 6, none⟩ = some (.int .i64 o.n) := HB0.out.2.1.cell 6
 have d6 : W.cell? ⟨B2, 6, none⟩ = some (.int .i64 p.n) := HB0.out.2.2.cell 6
 go_wp2
 go_ret
 exact ⟨rfl, HB0.out.1⟩
set_option maxHeartbeats 4000000 in
theorem same3 (o p : Opn) (va vp vc xa xp xc : Value) (w : World) (ho : OpAt w o va vp vc) (hp : OpAt w p xa xp xc) (hl : Lim o) (hl2 : Lim p) (h0 : o.k = p.k) (h1 : o.name = p.name) (h2 : o.dst = p.dst) (h3 : o.attrs ≠ p.attrs) : Calls Tryz.prog 41 #[opVal o va vp vc, opVal p xa xp xc] w fun e w' => e = .returned (.bool false) ∧ Below w.heap.size w w' := by
 have HL := Lib.hid (And.intro hl hl2)
 have HA := Lib.hid fun (W : World) (hb : Below w.heap.size w W) => And.intro (ho.on hb) (hp.on hb)
 obtain ⟨Aa, ca, na, rfl, _, _⟩ := rdv_len ho.a
 obtain ⟨Ap, cp, np, rfl, _, _⟩ := ho.p.full
 obtain ⟨Ac, cc, nc, rfl, _, _⟩ := ho.c.full
 obtain ⟨Ba, da, ma, rfl, _, _⟩ := rdv_len hp.a
 obtain ⟨Bp, dp, mp, rfl, _, _⟩ := hp.p.full
 obtain ⟨Bc, dc, mc, rfl, _, _⟩ := hp.c.full
 have t0 : (o.k == p.k) = true := by simp [h0]
 have t1 : ((sx o.name).toList == (sx p.name).toList) = true := by rw [YtniaijgejljjbaaGreat.sx_beq]; simp [h1]
 have t2 : ((sx o.dst).toList == (sx p.dst).toList) = true := by rw [YtniaijgejljjbaaGreat.sx_beq]; simp [h2]
 have HE3 : Hid (decide (o.attrs = p.attrs) = false) := Lib.hid (by simp [h3])
 have hb : Below w.heap.size w ((w.alloc (.cells (opCs o (.slice Aa na ca) (.slice Ap np cp) (.slice Ac nc cc)) 44)).alloc (.cells (opCs p (.slice Ba ma da) (.slice Bp mp dp) (.slice Bc mc dc)) 44)) := ((Below.refl _ _).alloc (Nat.le_refl _) _).alloc (by simp) _
 have k1 := (Blk.new w 44 (opCs o (.slice Aa na ca) (.slice Ap np cp) (.slice Ac nc cc))).alloc (.cells (opCs p (.slice Ba ma da) (.slice Bp mp dp) (.slice Bc mc dc)) 44)
 have k2 := Blk.new (w.alloc (.cells (opCs o (.slice Aa na ca) (.slice Ap np cp) (.slice Ac nc cc)) 44)) 44 (opCs p (.slice Ba ma da) (.slice Bp mp dp) (.slice Bc mc dc))
 rw [show (w.alloc (.cells (opCs o (.slice Aa na ca) (.slice Ap np cp) (.slice Ac nc cc)) 44)).heap.size = w.heap.size + 1 from by simp] at k2
 obtain ⟨B1, hB1⟩ : ∃ b, b = w.heap.size := ⟨_, rfl⟩
 obtain ⟨B2, hB2⟩ : ∃ b, b = w.heap.size + 1 := ⟨_, rfl⟩
 have HBB := Lib.hid (And.intro hB1 hB2)
 rw [← hB2] at k2
 have HB0 := Lib.hid (And.intro hb (And.intro (show Blk _ B1 44 _ from hB1 ▸ k1) k2))
 clear hb k1 k2 ho hp hl hl2 h0 h1 h2 h3
 go_enter Tryz.func41, Tryz.ntmps41
 go_upto_region 1 with fail
 rw [← hB2, ← hB1]
 generalize (w.alloc (.cells (opCs o (.slice Aa na ca) (.slice Ap np cp) (.slice Ac nc cc)) 44)).alloc (.cells (opCs p (.slice Ba ma da) (.slice Bp mp dp) (.slice Bc mc dc)) 44) = W at HB0 ⊢
 clear hB1 hB2
 have HB1 := Lib.hid HB0.out
 have c0 : W.cell? ⟨B1, 0, none⟩ = some (.int .i64 o.k) := HB0.out.2.1.cell 0
 have d0 : W.cell? ⟨B2, 0, none⟩ = some (.int .i64 p.k) := HB0.out.2.2.cell 0
 have c1 : W.cell? ⟨B1, 1, none⟩ = some (.string (sx o.name)) := HB0.out.2.1.cell 1
 have d1 : W.cell? ⟨B2, 1, none⟩ = some (.string (sx p.name)) := HB0.out.2.2.cell 1
 have c2 : W.cell? ⟨B1, 2, none⟩ = some (.string (sx o.dst)) := HB0.out.2.1.cell 2
 have d2 : W.cell? ⟨B2, 2, none⟩ = some (.string (sx p.dst)) := HB0.out.2.2.cell 2
 have c3 : W.cell? ⟨B1, 3, none⟩ = some (.slice Aa na ca) := HB0.out.2.1.cell 3
 have d3 : W.cell? ⟨B2, 3, none⟩ = some (.slice Ba ma da) := HB0.out.2.2.cell 3
 have c4 : W.cell? ⟨B1, 4, none⟩ = some (.slice Ap np cp) := HB0.out.2.1.cell 4
 have d4 : W.cell? ⟨B2, 4, none⟩ = some (.slice Bp mp dp) := HB0.out.2.2.cell 4
 have c5 : W.cell? ⟨B1, 5, none⟩ = some (.slice Ac nc cc) := HB0.out.2.1.cell 5
 have d5 : W.cell? ⟨B2, 5, none⟩ = some (.slice Bc mc dc) := HB0.out.2.2.cell 5
 have c6 : W.cell? ⟨B1, 6, none⟩ = some (.int .i64 o.n) := HB0.out.2.1.cell 6
 have d6 : W.cell? ⟨B2, 6, none⟩ = some (.int .i64 p.n) := HB0.out.2.2.cell 6
 go_wp2_with (first
   | (go_at_call 55; (with_reducible refine (YtniaijgejljjbaaGreat.equal_any o.attrs p.attrs _ _ W (HA.out _ HB0.out.1).1.a (HA.out _ HB0.out.1).2.a (Nat.le_trans HL.out.1.la (by decide)) (Nat.le_trans HL.out.2.la (by decide))).mono ?_); clear c0 d0 c1 d1 c2 d2 c3 d3 c4 d4 c5 d5 c6 d6; rintro e w3 ⟨rfl, hb⟩; dsimp only; rw [HE3.out]; have HC3 := Lib.hid (And.intro (HB0.out.1.trans (hb.mono HB0.out.1.size)) (And.intro (HB0.out.2.1.on hb) (HB0.out.2.2.on hb))); have c0 : w3.cell? ⟨B1, 0, none⟩ = some (.int .i64 o.k) := HC3.out.2.1.cell 0; have d0 : w3.cell? ⟨B2, 0, none⟩ = some (.int .i64 p.k) := HC3.out.2.2.cell 0; have c1 : w3.cell? ⟨B1, 1, none⟩ = some (.string (sx o.name)) := HC3.out.2.1.cell 1; have d1 : w3.cell? ⟨B2, 1, none⟩ = some (.string (sx p.name)) := HC3.out.2.2.cell 1; have c2 : w3.cell? ⟨B1, 2, none⟩ = some (.string (sx o.dst)) := HC3.out.2.1.cell 2; have d2 : w3.cell? ⟨B2, 2, none⟩ = some (.string (sx p.dst)) := HC3.out.2.2.cell 2; have c3 : w3.cell? ⟨B1, 3, none⟩ = some (.slice Aa na ca) := HC3.out.2.1.cell 3; have d3 : w3.cell? ⟨B2, 3, none⟩ = some (.slice Ba ma da) := HC3.out.2.2.cell 3; have c4 : w3.cell? ⟨B1, 4, none⟩ = some (.slice Ap np cp) := HC3.out.2.1.cell 4; have d4 : w3.cell? ⟨B2, 4, none⟩ = some (.slice Bp mp dp) := HC3.out.2.2.cell 4; have c5 : w3.cell? ⟨B1, 5, none⟩ = some (.slice Ac nc cc) := HC3.out.2.1.cell 5; have d5 : w3.cell? ⟨B2, 5, none⟩ = some (.slice Bc mc dc) := HC3.out.2.2.cell 5; have c6 : w3.cell? ⟨B1, 6, none⟩ = some (.int .i64 o.n) := HC3.out.2.1.cell 6; have d6 : w3.cell? ⟨B2, 6, none⟩ = some (.int .i64 p.n) := HC3.out.2.2.cell 6; clear hb))
 go_ret
 exact ⟨rfl, HC3.out.1⟩
set_option maxHeartbeats 4000000 in
theorem same4 (o p : Opn) (va vp vc xa xp xc : Value) (w : World) (ho : OpAt w o va vp vc) (hp : OpAt w p xa xp xc) (hl : Lim o) (hl2 : Lim p) (h0 : o.k = p.k) (h1 : o.name = p.name) (h2 : o.dst = p.dst) (h3 : o.attrs = p.attrs) (h4 : o.parts ≠ p.parts) : Calls Tryz.prog 41 #[opVal o va vp vc, opVal p xa xp xc] w fun e w' => e = .returned (.bool false) ∧ Below w.heap.size w w' := by
 have HL := Lib.hid (And.intro hl hl2)
 have HA := Lib.hid fun (W : World) (hb : Below w.heap.size w W) => And.intro (ho.on hb) (hp.on hb)
 obtain ⟨Aa, ca, na, rfl, _, _⟩ := rdv_len ho.a
 obtain ⟨Ap, cp, np, rfl, _, _⟩ := ho.p.full
 obtain ⟨Ac, cc, nc, rfl, _, _⟩ := ho.c.full
 obtain ⟨Ba, da, ma, rfl, _, _⟩ := rdv_len hp.a
 obtain ⟨Bp, dp, mp, rfl, _, _⟩ := hp.p.full
 obtain ⟨Bc, dc, mc, rfl, _, _⟩ := hp.c.full
 have t0 : (o.k == p.k) = true := by simp [h0]
 have t1 : ((sx o.name).toList == (sx p.name).toList) = true := by rw [YtniaijgejljjbaaGreat.sx_beq]; simp [h1]
 have t2 : ((sx o.dst).toList == (sx p.dst).toList) = true := by rw [YtniaijgejljjbaaGreat.sx_beq]; simp [h2]
 have HE3 : Hid (decide (o.attrs = p.attrs) = true) := Lib.hid (by simp [h3])
 have HE4 : Hid (decide (o.parts = p.parts) = false) := Lib.hid (by simp [h4])
 have hb : Below w.heap.size w ((w.alloc (.cells (opCs o (.slice Aa na ca) (.slice Ap np cp) (.slice Ac nc cc)) 44)).alloc (.cells (opCs p (.slice Ba ma da) (.slice Bp mp dp) (.slice Bc mc dc)) 44)) := ((Below.refl _ _).alloc (Nat.le_refl _) _).alloc (by simp) _
 have k1 := (Blk.new w 44 (opCs o (.slice Aa na ca) (.slice Ap np cp) (.slice Ac nc cc))).alloc (.cells (opCs p (.slice Ba ma da) (.slice Bp mp dp) (.slice Bc mc dc)) 44)
 have k2 := Blk.new (w.alloc (.cells (opCs o (.slice Aa na ca) (.slice Ap np cp) (.slice Ac nc cc)) 44)) 44 (opCs p (.slice Ba ma da) (.slice Bp mp dp) (.slice Bc mc dc))
 rw [show (w.alloc (.cells (opCs o (.slice Aa na ca) (.slice Ap np cp) (.slice Ac nc cc)) 44)).heap.size = w.heap.size + 1 from by simp] at k2
 obtain ⟨B1, hB1⟩ : ∃ b, b = w.heap.size := ⟨_, rfl⟩
 obtain ⟨B2, hB2⟩ : ∃ b, b = w.heap.size + 1 := ⟨_, rfl⟩
 have HBB := Lib.hid (And.intro hB1 hB2)
 rw [← hB2] at k2
 have HB0 := Lib.hid (And.intro hb (And.intro (show Blk _ B1 44 _ from hB1 ▸ k1) k2))
 clear hb k1 k2 ho hp hl hl2 h0 h1 h2 h3 h4
 go_enter Tryz.func41, Tryz.ntmps41
 go_upto_region 1 with fail
 rw [← hB2, ← hB1]
 generalize (w.alloc (.cells (opCs o (.slice Aa na ca) (.slice Ap np cp) (.slice Ac nc cc)) 44)).alloc (.cells (opCs p (.slice Ba ma da) (.slice Bp mp dp) (.slice Bc mc dc)) 44) = W at HB0 ⊢
 clear hB1 hB2
 have HB1 := Lib.hid HB0.out
 have c0 : W.cell? ⟨B1, 0, none⟩ = some (.int .i64 o.k) := HB0.out.2.1.cell 0
 have d0 : W.cell? ⟨B2, 0, none⟩ = some (.int .i64 p.k) := HB0.out.2.2.cell 0
 have c1 : W.cell? ⟨B1, 1, none⟩ = some (.string (sx o.name)) := HB0.out.2.1.cell 1
 have d1 : W.cell? ⟨B2, 1, none⟩ = some (.string (sx p.name)) := HB0.out.2.2.cell 1
 have c2 : W.cell? ⟨B1, 2, none⟩ = some (.string (sx o.dst)) := HB0.out.2.1.cell 2
 have d2 : W.cell? ⟨B2, 2, none⟩ = some (.string (sx p.dst)) := HB0.out.2.2.cell 2
 have c3 : W.cell? ⟨B1, 3, none⟩ = some (.slice Aa na ca) := HB0.out.2.1.cell 3
 have d3 : W.cell? ⟨B2, 3, none⟩ = some (.slice Ba ma da) := HB0.out.2.2.cell 3
 have c4 : W.cell? ⟨B1, 4, none⟩ = some (.slice Ap np cp) := HB0.out.2.1.cell 4
 have d4 : W.cell? ⟨B2, 4, none⟩ = some (.slice Bp mp dp) := HB0.out.2.2.cell 4
 have c5 : W.cell? ⟨B1, 5, none⟩ = some (.slice Ac nc cc) := HB0.out.2.1.cell 5
 have d5 : W.cell? ⟨B2, 5, none⟩ = some (.slice Bc mc dc) := HB0.out.2.2.cell 5
 have c6 : W.cell? ⟨B1, 6, none⟩ = some (.int .i64 o.n) := HB0.out.2.1.cell 6
 have d6 : W.cell? ⟨B2, 6, none⟩ = some (.int .i64 p.n) := HB0.out.2.2.cell 6
 go_wp2_with (first
   | (go_at_call 55; (with_reducible refine (YtniaijgejljjbaaGreat.equal_any o.attrs p.attrs _ _ W (HA.out _ HB0.out.1).1.a (HA.out _ HB0.out.1).2.a (Nat.le_trans HL.out.1.la (by decide)) (Nat.le_trans HL.out.2.la (by decide))).mono ?_); clear c0 d0 c1 d1 c2 d2 c3 d3 c4 d4 c5 d5 c6 d6; rintro e w3 ⟨rfl, hb⟩; dsimp only; rw [HE3.out]; have HC3 := Lib.hid (And.intro (HB0.out.1.trans (hb.mono HB0.out.1.size)) (And.intro (HB0.out.2.1.on hb) (HB0.out.2.2.on hb))); have c0 : w3.cell? ⟨B1, 0, none⟩ = some (.int .i64 o.k) := HC3.out.2.1.cell 0; have d0 : w3.cell? ⟨B2, 0, none⟩ = some (.int .i64 p.k) := HC3.out.2.2.cell 0; have c1 : w3.cell? ⟨B1, 1, none⟩ = some (.string (sx o.name)) := HC3.out.2.1.cell 1; have d1 : w3.cell? ⟨B2, 1, none⟩ = some (.string (sx p.name)) := HC3.out.2.2.cell 1; have c2 : w3.cell? ⟨B1, 2, none⟩ = some (.string (sx o.dst)) := HC3.out.2.1.cell 2; have d2 : w3.cell? ⟨B2, 2, none⟩ = some (.string (sx p.dst)) := HC3.out.2.2.cell 2; have c3 : w3.cell? ⟨B1, 3, none⟩ = some (.slice Aa na ca) := HC3.out.2.1.cell 3; have d3 : w3.cell? ⟨B2, 3, none⟩ = some (.slice Ba ma da) := HC3.out.2.2.cell 3; have c4 : w3.cell? ⟨B1, 4, none⟩ = some (.slice Ap np cp) := HC3.out.2.1.cell 4; have d4 : w3.cell? ⟨B2, 4, none⟩ = some (.slice Bp mp dp) := HC3.out.2.2.cell 4; have c5 : w3.cell? ⟨B1, 5, none⟩ = some (.slice Ac nc cc) := HC3.out.2.1.cell 5; have d5 : w3.cell? ⟨B2, 5, none⟩ = some (.slice Bc mc dc) := HC3.out.2.2.cell 5; have c6 : w3.cell? ⟨B1, 6, none⟩ = some (.int .i64 o.n) := HC3.out.2.1.cell 6; have d6 : w3.cell? ⟨B2, 6, none⟩ = some (.int .i64 p.n) := HC3.out.2.2.cell 6; clear hb)
   | (go_at_call 56; (with_reducible refine (equal_str o.parts p.parts _ _ w3 (HA.out _ HC3.out.1).1.p (HA.out _ HC3.out.1).2.p (Nat.le_trans HL.out.1.lp (by decide)) (Nat.le_trans HL.out.2.lp (by decide))).mono ?_); clear c0 d0 c1 d1 c2 d2 c3 d3 c4 d4 c5 d5 c6 d6; rintro e w4 ⟨rfl, hb⟩; dsimp only; rw [HE4.out]; have HC4 := Lib.hid (And.intro (HC3.out.1.trans (hb.mono HC3.out.1.size)) (And.intro (HC3.out.2.1.on hb) (HC3.out.2.2.on hb))); have c0 : w4.cell? ⟨B1, 0, none⟩ = some (.int .i64 o.k) := HC4.out.2.1.cell 0; have d0 : w4.cell? ⟨B2, 0, none⟩ = some (.int .i64 p.k) := HC4.out.2.2.cell 0; have c1 : w4.cell? ⟨B1, 1, none⟩ = some (.string (sx o.name)) := HC4.out.2.1.cell 1; have d1 : w4.cell? ⟨B2, 1, none⟩ = some (.string (sx p.name)) := HC4.out.2.2.cell 1; have c2 : w4.cell? ⟨B1, 2, none⟩ = some (.string (sx o.dst)) := HC4.out.2.1.cell 2; have d2 : w4.cell? ⟨B2, 2, none⟩ = some (.string (sx p.dst)) := HC4.out.2.2.cell 2; have c3 : w4.cell? ⟨B1, 3, none⟩ = some (.slice Aa na ca) := HC4.out.2.1.cell 3; have d3 : w4.cell? ⟨B2, 3, none⟩ = some (.slice Ba ma da) := HC4.out.2.2.cell 3; have c4 : w4.cell? ⟨B1, 4, none⟩ = some (.slice Ap np cp) := HC4.out.2.1.cell 4; have d4 : w4.cell? ⟨B2, 4, none⟩ = some (.slice Bp mp dp) := HC4.out.2.2.cell 4; have c5 : w4.cell? ⟨B1, 5, none⟩ = some (.slice Ac nc cc) := HC4.out.2.1.cell 5; have d5 : w4.cell? ⟨B2, 5, none⟩ = some (.slice Bc mc dc) := HC4.out.2.2.cell 5; have c6 : w4.cell? ⟨B1, 6, none⟩ = some (.int .i64 o.n) := HC4.out.2.1.cell 6; have d6 : w4.cell? ⟨B2, 6, none⟩ = some (.int .i64 p.n) := HC4.out.2.2.cell 6; clear hb))
 go_ret
 exact ⟨rfl, HC4.out.1⟩
set_option maxHeartbeats 4000000 in
theorem same5 (o p : Opn) (va vp vc xa xp xc : Value) (w : World) (ho : OpAt w o va vp vc) (hp : OpAt w p xa xp xc) (hl : Lim o) (hl2 : Lim p) (h0 : o.k = p.k) (h1 : o.name = p.name) (h2 : o.dst = p.dst) (h3 : o.attrs = p.attrs) (h4 : o.parts = p.parts) (h5 : o.cur ≠ p.cur) : Calls Tryz.prog 41 #[opVal o va vp vc, opVal p xa xp xc] w fun e w' => e = .returned (.bool false) ∧ Below w.heap.size w w' := by
 have HL := Lib.hid (And.intro hl hl2)
 have HA := Lib.hid fun (W : World) (hb : Below w.heap.size w W) => And.intro (ho.on hb) (hp.on hb)
 obtain ⟨Aa, ca, na, rfl, _, _⟩ := rdv_len ho.a
 obtain ⟨Ap, cp, np, rfl, _, _⟩ := ho.p.full
 obtain ⟨Ac, cc, nc, rfl, _, _⟩ := ho.c.full
 obtain ⟨Ba, da, ma, rfl, _, _⟩ := rdv_len hp.a
 obtain ⟨Bp, dp, mp, rfl, _, _⟩ := hp.p.full
 obtain ⟨Bc, dc, mc, rfl, _, _⟩ := hp.c.full
 have t0 : (o.k == p.k) = true := by simp [h0]
 have t1 : ((sx o.name).toList == (sx p.name).toList) = true := by rw [YtniaijgejljjbaaGreat.sx_beq]; simp [h1]
 have t2 : ((sx o.dst).toList == (sx p.dst).toList) = true := by rw [YtniaijgejljjbaaGreat.sx_beq]; simp [h2]
 have HE3 : Hid (decide (o.attrs = p.attrs) = true) := Lib.hid (by simp [h3])
 have HE4 : Hid (decide (o.parts = p.parts) = true) := Lib.hid (by simp [h4])
 have HE5 : Hid (decide (o.cur = p.cur) = false) := Lib.hid (by simp [h5])
 have hb : Below w.heap.size w ((w.alloc (.cells (opCs o (.slice Aa na ca) (.slice Ap np cp) (.slice Ac nc cc)) 44)).alloc (.cells (opCs p (.slice Ba ma da) (.slice Bp mp dp) (.slice Bc mc dc)) 44)) := ((Below.refl _ _).alloc (Nat.le_refl _) _).alloc (by simp) _
 have k1 := (Blk.new w 44 (opCs o (.slice Aa na ca) (.slice Ap np cp) (.slice Ac nc cc))).alloc (.cells (opCs p (.slice Ba ma da) (.slice Bp mp dp) (.slice Bc mc dc)) 44)
 have k2 := Blk.new (w.alloc (.cells (opCs o (.slice Aa na ca) (.slice Ap np cp) (.slice Ac nc cc)) 44)) 44 (opCs p (.slice Ba ma da) (.slice Bp mp dp) (.slice Bc mc dc))
 rw [show (w.alloc (.cells (opCs o (.slice Aa na ca) (.slice Ap np cp) (.slice Ac nc cc)) 44)).heap.size = w.heap.size + 1 from by simp] at k2
 obtain ⟨B1, hB1⟩ : ∃ b, b = w.heap.size := ⟨_, rfl⟩
 obtain ⟨B2, hB2⟩ : ∃ b, b = w.heap.size + 1 := ⟨_, rfl⟩
 have HBB := Lib.hid (And.intro hB1 hB2)
 rw [← hB2] at k2
 have HB0 := Lib.hid (And.intro hb (And.intro (show Blk _ B1 44 _ from hB1 ▸ k1) k2))
 clear hb k1 k2 ho hp hl hl2 h0 h1 h2 h3 h4 h5
 go_enter Tryz.func41, Tryz.ntmps41
 go_upto_region 1 with fail
 rw [← hB2, ← hB1]
 generalize (w.alloc (.cells (opCs o (.slice Aa na ca) (.slice Ap np cp) (.slice Ac nc cc)) 44)).alloc (.cells (opCs p (.slice Ba ma da) (.slice Bp mp dp) (.slice Bc mc dc)) 44) = W at HB0 ⊢
 clear hB1 hB2
 have HB1 := Lib.hid HB0.out
 have c0 : W.cell? ⟨B1, 0, none⟩ = some (.int .i64 o.k) := HB0.out.2.1.cell 0
 have d0 : W.cell? ⟨B2, 0, none⟩ = some (.int .i64 p.k) := HB0.out.2.2.cell 0
 have c1 : W.cell? ⟨B1, 1, none⟩ = some (.string (sx o.name)) := HB0.out.2.1.cell 1
 have d1 : W.cell? ⟨B2, 1, none⟩ = some (.string (sx p.name)) := HB0.out.2.2.cell 1
 have c2 : W.cell? ⟨B1, 2, none⟩ = some (.string (sx o.dst)) := HB0.out.2.1.cell 2
 have d2 : W.cell? ⟨B2, 2, none⟩ = some (.string (sx p.dst)) := HB0.out.2.2.cell 2
 have c3 : W.cell? ⟨B1, 3, none⟩ = some (.slice Aa na ca) := HB0.out.2.1.cell 3
 have d3 : W.cell? ⟨B2, 3, none⟩ = some (.slice Ba ma da) := HB0.out.2.2.cell 3
 have c4 : W.cell? ⟨B1, 4, none⟩ = some (.slice Ap np cp) := HB0.out.2.1.cell 4
 have d4 : W.cell? ⟨B2, 4, none⟩ = some (.slice Bp mp dp) := HB0.out.2.2.cell 4
 have c5 : W.cell? ⟨B1, 5, none⟩ = some (.slice Ac nc cc) := HB0.out.2.1.cell 5
 have d5 : W.cell? ⟨B2, 5, none⟩ = some (.slice Bc mc dc) := HB0.out.2.2.cell 5
 have c6 : W.cell? ⟨B1, 6, none⟩ = some (.int .i64 o.n) := HB0.out.2.1.cell 6
 have d6 : W.cell? ⟨B2, 6, none⟩ = some (.int .i64 p.n) := HB0.out.2.2.cell 6
 go_wp2_with (first
   | (go_at_call 55; (with_reducible refine (YtniaijgejljjbaaGreat.equal_any o.attrs p.attrs _ _ W (HA.out _ HB0.out.1).1.a (HA.out _ HB0.out.1).2.a (Nat.le_trans HL.out.1.la (by decide)) (Nat.le_trans HL.out.2.la (by decide))).mono ?_); clear c0 d0 c1 d1 c2 d2 c3 d3 c4 d4 c5 d5 c6 d6; rintro e w3 ⟨rfl, hb⟩; dsimp only; rw [HE3.out]; have HC3 := Lib.hid (And.intro (HB0.out.1.trans (hb.mono HB0.out.1.size)) (And.intro (HB0.out.2.1.on hb) (HB0.out.2.2.on hb))); have c0 : w3.cell? ⟨B1, 0, none⟩ = some (.int .i64 o.k) := HC3.out.2.1.cell 0; have d0 : w3.cell? ⟨B2, 0, none⟩ = some (.int .i64 p.k) := HC3.out.2.2.cell 0; have c1 : w3.cell? ⟨B1, 1, none⟩ = some (.string (sx o.name)) := HC3.out.2.1.cell 1; have d1 : w3.cell? ⟨B2, 1, none⟩ = some (.string (sx p.name)) := HC3.out.2.2.cell 1; have c2 : w3.cell? ⟨B1, 2, none⟩ = some (.string (sx o.dst)) := HC3.out.2.1.cell 2; have d2 : w3.cell? ⟨B2, 2, none⟩ = some (.string (sx p.dst)) := HC3.out.2.2.cell 2; have c3 : w3.cell? ⟨B1, 3, none⟩ = some (.slice Aa na ca) := HC3.out.2.1.cell 3; have d3 : w3.cell? ⟨B2, 3, none⟩ = some (.slice Ba ma da) := HC3.out.2.2.cell 3; have c4 : w3.cell? ⟨B1, 4, none⟩ = some (.slice Ap np cp) := HC3.out.2.1.cell 4; have d4 : w3.cell? ⟨B2, 4, none⟩ = some (.slice Bp mp dp) := HC3.out.2.2.cell 4; have c5 : w3.cell? ⟨B1, 5, none⟩ = some (.slice Ac nc cc) := HC3.out.2.1.cell 5; have d5 : w3.cell? ⟨B2, 5, none⟩ = some (.slice Bc mc dc) := HC3.out.2.2.cell 5; have c6 : w3.cell? ⟨B1, 6, none⟩ = some (.int .i64 o.n) := HC3.out.2.1.cell 6; have d6 : w3.cell? ⟨B2, 6, none⟩ = some (.int .i64 p.n) := HC3.out.2.2.cell 6; clear hb)
   | (go_at_call 56; (with_reducible refine (equal_str o.parts p.parts _ _ w3 (HA.out _ HC3.out.1).1.p (HA.out _ HC3.out.1).2.p (Nat.le_trans HL.out.1.lp (by decide)) (Nat.le_trans HL.out.2.lp (by decide))).mono ?_); clear c0 d0 c1 d1 c2 d2 c3 d3 c4 d4 c5 d5 c6 d6; rintro e w4 ⟨rfl, hb⟩; dsimp only; rw [HE4.out]; have HC4 := Lib.hid (And.intro (HC3.out.1.trans (hb.mono HC3.out.1.size)) (And.intro (HC3.out.2.1.on hb) (HC3.out.2.2.on hb))); have c0 : w4.cell? ⟨B1, 0, none⟩ = some (.int .i64 o.k) := HC4.out.2.1.cell 0; have d0 : w4.cell? ⟨B2, 0, none⟩ = some (.int .i64 p.k) := HC4.out.2.2.cell 0; have c1 : w4.cell? ⟨B1, 1, none⟩ = some (.string (sx o.name)) := HC4.out.2.1.cell 1; have d1 : w4.cell? ⟨B2, 1, none⟩ = some (.string (sx p.name)) := HC4.out.2.2.cell 1; have c2 : w4.cell? ⟨B1, 2, none⟩ = some (.string (sx o.dst)) := HC4.out.2.1.cell 2; have d2 : w4.cell? ⟨B2, 2, none⟩ = some (.string (sx p.dst)) := HC4.out.2.2.cell 2; have c3 : w4.cell? ⟨B1, 3, none⟩ = some (.slice Aa na ca) := HC4.out.2.1.cell 3; have d3 : w4.cell? ⟨B2, 3, none⟩ = some (.slice Ba ma da) := HC4.out.2.2.cell 3; have c4 : w4.cell? ⟨B1, 4, none⟩ = some (.slice Ap np cp) := HC4.out.2.1.cell 4; have d4 : w4.cell? ⟨B2, 4, none⟩ = some (.slice Bp mp dp) := HC4.out.2.2.cell 4; have c5 : w4.cell? ⟨B1, 5, none⟩ = some (.slice Ac nc cc) := HC4.out.2.1.cell 5; have d5 : w4.cell? ⟨B2, 5, none⟩ = some (.slice Bc mc dc) := HC4.out.2.2.cell 5; have c6 : w4.cell? ⟨B1, 6, none⟩ = some (.int .i64 o.n) := HC4.out.2.1.cell 6; have d6 : w4.cell? ⟨B2, 6, none⟩ = some (.int .i64 p.n) := HC4.out.2.2.cell 6; clear hb)
   | (go_at_call 57; (with_reducible refine (equal_byt o.cur p.cur _ _ w4 (HA.out _ HC4.out.1).1.c (HA.out _ HC4.out.1).2.c HL.out.1.byt HL.out.2.byt).mono ?_); clear c0 d0 c1 d1 c2 d2 c3 d3 c4 d4 c5 d5 c6 d6; rintro e w5 ⟨rfl, hb⟩; dsimp only; rw [HE5.out]; have HC5 := Lib.hid (And.intro (HC4.out.1.trans (hb.mono HC4.out.1.size)) (And.intro (HC4.out.2.1.on hb) (HC4.out.2.2.on hb))); have c0 : w5.cell? ⟨B1, 0, none⟩ = some (.int .i64 o.k) := HC5.out.2.1.cell 0; have d0 : w5.cell? ⟨B2, 0, none⟩ = some (.int .i64 p.k) := HC5.out.2.2.cell 0; have c1 : w5.cell? ⟨B1, 1, none⟩ = some (.string (sx o.name)) := HC5.out.2.1.cell 1; have d1 : w5.cell? ⟨B2, 1, none⟩ = some (.string (sx p.name)) := HC5.out.2.2.cell 1; have c2 : w5.cell? ⟨B1, 2, none⟩ = some (.string (sx o.dst)) := HC5.out.2.1.cell 2; have d2 : w5.cell? ⟨B2, 2, none⟩ = some (.string (sx p.dst)) := HC5.out.2.2.cell 2; have c3 : w5.cell? ⟨B1, 3, none⟩ = some (.slice Aa na ca) := HC5.out.2.1.cell 3; have d3 : w5.cell? ⟨B2, 3, none⟩ = some (.slice Ba ma da) := HC5.out.2.2.cell 3; have c4 : w5.cell? ⟨B1, 4, none⟩ = some (.slice Ap np cp) := HC5.out.2.1.cell 4; have d4 : w5.cell? ⟨B2, 4, none⟩ = some (.slice Bp mp dp) := HC5.out.2.2.cell 4; have c5 : w5.cell? ⟨B1, 5, none⟩ = some (.slice Ac nc cc) := HC5.out.2.1.cell 5; have d5 : w5.cell? ⟨B2, 5, none⟩ = some (.slice Bc mc dc) := HC5.out.2.2.cell 5; have c6 : w5.cell? ⟨B1, 6, none⟩ = some (.int .i64 o.n) := HC5.out.2.1.cell 6; have d6 : w5.cell? ⟨B2, 6, none⟩ = some (.int .i64 p.n) := HC5.out.2.2.cell 6; clear hb))
 go_ret
 exact ⟨rfl, HC5.out.1⟩
set_option maxHeartbeats 4000000 in
theorem same6 (o p : Opn) (va vp vc xa xp xc : Value) (w : World) (ho : OpAt w o va vp vc) (hp : OpAt w p xa xp xc) (hl : Lim o) (hl2 : Lim p) (h0 : o.k = p.k) (h1 : o.name = p.name) (h2 : o.dst = p.dst) (h3 : o.attrs = p.attrs) (h4 : o.parts = p.parts) (h5 : o.cur = p.cur) (h6 : o.n ≠ p.n) : Calls Tryz.prog 41 #[opVal o va vp vc, opVal p xa xp xc] w fun e w' => e = .returned (.bool false) ∧ Below w.heap.size w w' := by
 have HL := Lib.hid (And.intro hl hl2)
 have HA := Lib.hid fun (W : World) (hb : Below w.heap.size w W) => And.intro (ho.on hb) (hp.on hb)
 obtain ⟨Aa, ca, na, rfl, _, _⟩ := rdv_len ho.a
 obtain ⟨Ap, cp, np, rfl, _, _⟩ := ho.p.full
 obtain ⟨Ac, cc, nc, rfl, _, _⟩ := ho.c.full
 obtain ⟨Ba, da, ma, rfl, _, _⟩ := rdv_len hp.a
 obtain ⟨Bp, dp, mp, rfl, _, _⟩ := hp.p.full
 obtain ⟨Bc, dc, mc, rfl, _, _⟩ := hp.c.full
 have t0 : (o.k == p.k) = true := by simp [h0]
 have t1 : ((sx o.name).toList == (sx p.name).toList) = true := by rw [YtniaijgejljjbaaGreat.sx_beq]; simp [h1]
 have t2 : ((sx o.dst).toList == (sx p.dst).toList) = true := by rw [YtniaijgejljjbaaGreat.sx_beq]; simp [h2]
 have HE3 : Hid (decide (o.attrs = p.attrs) = true) := Lib.hid (by simp [h3])
 have HE4 : Hid (decide (o.parts = p.parts) = true) := Lib.hid (by simp [h4])
 have HE5 : Hid (decide (o.cur = p.cur) = true) := Lib.hid (by simp [h5])
 have t6 : (o.n == p.n) = false := by simp [h6]
 have hb : Below w.heap.size w ((w.alloc (.cells (opCs o (.slice Aa na ca) (.slice Ap np cp) (.slice Ac nc cc)) 44)).alloc (.cells (opCs p (.slice Ba ma da) (.slice Bp mp dp) (.slice Bc mc dc)) 44)) := ((Below.refl _ _).alloc (Nat.le_refl _) _).alloc (by simp) _
 have k1 := (Blk.new w 44 (opCs o (.slice Aa na ca) (.slice Ap np cp) (.slice Ac nc cc))).alloc (.cells (opCs p (.slice Ba ma da) (.slice Bp mp dp) (.slice Bc mc dc)) 44)
 have k2 := Blk.new (w.alloc (.cells (opCs o (.slice Aa na ca) (.slice Ap np cp) (.slice Ac nc cc)) 44)) 44 (opCs p (.slice Ba ma da) (.slice Bp mp dp) (.slice Bc mc dc))
 rw [show (w.alloc (.cells (opCs o (.slice Aa na ca) (.slice Ap np cp) (.slice Ac nc cc)) 44)).heap.size = w.heap.size + 1 from by simp] at k2
 obtain ⟨B1, hB1⟩ : ∃ b, b = w.heap.size := ⟨_, rfl⟩
 obtain ⟨B2, hB2⟩ : ∃ b, b = w.heap.size + 1 := ⟨_, rfl⟩
 have HBB := Lib.hid (And.intro hB1 hB2)
 rw [← hB2] at k2
 have HB0 := Lib.hid (And.intro hb (And.intro (show Blk _ B1 44 _ from hB1 ▸ k1) k2))
 clear hb k1 k2 ho hp hl hl2 h0 h1 h2 h3 h4 h5 h6
 go_enter Tryz.func41, Tryz.ntmps41
 go_upto_region 1 with fail
 rw [← hB2, ← hB1]
 generalize (w.alloc (.cells (opCs o (.slice Aa na ca) (.slice Ap np cp) (.slice Ac nc cc)) 44)).alloc (.cells (opCs p (.slice Ba ma da) (.slice Bp mp dp) (.slice Bc mc dc)) 44) = W at HB0 ⊢
 clear hB1 hB2
 have HB1 := Lib.hid HB0.out
 have c0 : W.cell? ⟨B1, 0, none⟩ = some (.int .i64 o.k) := HB0.out.2.1.cell 0
 have d0 : W.cell? ⟨B2, 0, none⟩ = some (.int .i64 p.k) := HB0.out.2.2.cell 0
 have c1 : W.cell? ⟨B1, 1, none⟩ = some (.string (sx o.name)) := HB0.out.2.1.cell 1
 have d1 : W.cell? ⟨B2, 1, none⟩ = some (.string (sx p.name)) := HB0.out.2.2.cell 1
 have c2 : W.cell? ⟨B1, 2, none⟩ = some (.string (sx o.dst)) := HB0.out.2.1.cell 2
 have d2 : W.cell? ⟨B2, 2, none⟩ = some (.string (sx p.dst)) := HB0.out.2.2.cell 2
 have c3 : W.cell? ⟨B1, 3, none⟩ = some (.slice Aa na ca) := HB0.out.2.1.cell 3
 have d3 : W.cell? ⟨B2, 3, none⟩ = some (.slice Ba ma da) := HB0.out.2.2.cell 3
 have c4 : W.cell? ⟨B1, 4, none⟩ = some (.slice Ap np cp) := HB0.out.2.1.cell 4
 have d4 : W.cell? ⟨B2, 4, none⟩ = some (.slice Bp mp dp) := HB0.out.2.2.cell 4
 have c5 : W.cell? ⟨B1, 5, none⟩ = some (.slice Ac nc cc) := HB0.out.2.1.cell 5
 have d5 : W.cell? ⟨B2, 5, none⟩ = some (.slice Bc mc dc) := HB0.out.2.2.cell 5
 have c6 : W.cell? ⟨B1, 6, none⟩ = some (.int .i64 o.n) := HB0.out.2.1.cell 6
 have d6 : W.cell? ⟨B2, 6, none⟩ = some (.int .i64 p.n) := HB0.out.2.2.cell 6
 go_wp2_with (first
   | (go_at_call 55; (with_reducible refine (YtniaijgejljjbaaGreat.equal_any o.attrs p.attrs _ _ W (HA.out _ HB0.out.1).1.a (HA.out _ HB0.out.1).2.a (Nat.le_trans HL.out.1.la (by decide)) (Nat.le_trans HL.out.2.la (by decide))).mono ?_); clear c0 d0 c1 d1 c2 d2 c3 d3 c4 d4 c5 d5 c6 d6; rintro e w3 ⟨rfl, hb⟩; dsimp only; rw [HE3.out]; have HC3 := Lib.hid (And.intro (HB0.out.1.trans (hb.mono HB0.out.1.size)) (And.intro (HB0.out.2.1.on hb) (HB0.out.2.2.on hb))); have c0 : w3.cell? ⟨B1, 0, none⟩ = some (.int .i64 o.k) := HC3.out.2.1.cell 0; have d0 : w3.cell? ⟨B2, 0, none⟩ = some (.int .i64 p.k) := HC3.out.2.2.cell 0; have c1 : w3.cell? ⟨B1, 1, none⟩ = some (.string (sx o.name)) := HC3.out.2.1.cell 1; have d1 : w3.cell? ⟨B2, 1, none⟩ = some (.string (sx p.name)) := HC3.out.2.2.cell 1; have c2 : w3.cell? ⟨B1, 2, none⟩ = some (.string (sx o.dst)) := HC3.out.2.1.cell 2; have d2 : w3.cell? ⟨B2, 2, none⟩ = some (.string (sx p.dst)) := HC3.out.2.2.cell 2; have c3 : w3.cell? ⟨B1, 3, none⟩ = some (.slice Aa na ca) := HC3.out.2.1.cell 3; have d3 : w3.cell? ⟨B2, 3, none⟩ = some (.slice Ba ma da) := HC3.out.2.2.cell 3; have c4 : w3.cell? ⟨B1, 4, none⟩ = some (.slice Ap np cp) := HC3.out.2.1.cell 4; have d4 : w3.cell? ⟨B2, 4, none⟩ = some (.slice Bp mp dp) := HC3.out.2.2.cell 4; have c5 : w3.cell? ⟨B1, 5, none⟩ = some (.slice Ac nc cc) := HC3.out.2.1.cell 5; have d5 : w3.cell? ⟨B2, 5, none⟩ = some (.slice Bc mc dc) := HC3.out.2.2.cell 5; have c6 : w3.cell? ⟨B1, 6, none⟩ = some (.int .i64 o.n) := HC3.out.2.1.cell 6; have d6 : w3.cell? ⟨B2, 6, none⟩ = some (.int .i64 p.n) := HC3.out.2.2.cell 6; clear hb)
   | (go_at_call 56; (with_reducible refine (equal_str o.parts p.parts _ _ w3 (HA.out _ HC3.out.1).1.p (HA.out _ HC3.out.1).2.p (Nat.le_trans HL.out.1.lp (by decide)) (Nat.le_trans HL.out.2.lp (by decide))).mono ?_); clear c0 d0 c1 d1 c2 d2 c3 d3 c4 d4 c5 d5 c6 d6; rintro e w4 ⟨rfl, hb⟩; dsimp only; rw [HE4.out]; have HC4 := Lib.hid (And.intro (HC3.out.1.trans (hb.mono HC3.out.1.size)) (And.intro (HC3.out.2.1.on hb) (HC3.out.2.2.on hb))); have c0 : w4.cell? ⟨B1, 0, none⟩ = some (.int .i64 o.k) := HC4.out.2.1.cell 0; have d0 : w4.cell? ⟨B2, 0, none⟩ = some (.int .i64 p.k) := HC4.out.2.2.cell 0; have c1 : w4.cell? ⟨B1, 1, none⟩ = some (.string (sx o.name)) := HC4.out.2.1.cell 1; have d1 : w4.cell? ⟨B2, 1, none⟩ = some (.string (sx p.name)) := HC4.out.2.2.cell 1; have c2 : w4.cell? ⟨B1, 2, none⟩ = some (.string (sx o.dst)) := HC4.out.2.1.cell 2; have d2 : w4.cell? ⟨B2, 2, none⟩ = some (.string (sx p.dst)) := HC4.out.2.2.cell 2; have c3 : w4.cell? ⟨B1, 3, none⟩ = some (.slice Aa na ca) := HC4.out.2.1.cell 3; have d3 : w4.cell? ⟨B2, 3, none⟩ = some (.slice Ba ma da) := HC4.out.2.2.cell 3; have c4 : w4.cell? ⟨B1, 4, none⟩ = some (.slice Ap np cp) := HC4.out.2.1.cell 4; have d4 : w4.cell? ⟨B2, 4, none⟩ = some (.slice Bp mp dp) := HC4.out.2.2.cell 4; have c5 : w4.cell? ⟨B1, 5, none⟩ = some (.slice Ac nc cc) := HC4.out.2.1.cell 5; have d5 : w4.cell? ⟨B2, 5, none⟩ = some (.slice Bc mc dc) := HC4.out.2.2.cell 5; have c6 : w4.cell? ⟨B1, 6, none⟩ = some (.int .i64 o.n) := HC4.out.2.1.cell 6; have d6 : w4.cell? ⟨B2, 6, none⟩ = some (.int .i64 p.n) := HC4.out.2.2.cell 6; clear hb)
   | (go_at_call 57; (with_reducible refine (equal_byt o.cur p.cur _ _ w4 (HA.out _ HC4.out.1).1.c (HA.out _ HC4.out.1).2.c HL.out.1.byt HL.out.2.byt).mono ?_); clear c0 d0 c1 d1 c2 d2 c3 d3 c4 d4 c5 d5 c6 d6; rintro e w5 ⟨rfl, hb⟩; dsimp only; rw [HE5.out]; have HC5 := Lib.hid (And.intro (HC4.out.1.trans (hb.mono HC4.out.1.size)) (And.intro (HC4.out.2.1.on hb) (HC4.out.2.2.on hb))); have c0 : w5.cell? ⟨B1, 0, none⟩ = some (.int .i64 o.k) := HC5.out.2.1.cell 0; have d0 : w5.cell? ⟨B2, 0, none⟩ = some (.int .i64 p.k) := HC5.out.2.2.cell 0; have c1 : w5.cell? ⟨B1, 1, none⟩ = some (.string (sx o.name)) := HC5.out.2.1.cell 1; have d1 : w5.cell? ⟨B2, 1, none⟩ = some (.string (sx p.name)) := HC5.out.2.2.cell 1; have c2 : w5.cell? ⟨B1, 2, none⟩ = some (.string (sx o.dst)) := HC5.out.2.1.cell 2; have d2 : w5.cell? ⟨B2, 2, none⟩ = some (.string (sx p.dst)) := HC5.out.2.2.cell 2; have c3 : w5.cell? ⟨B1, 3, none⟩ = some (.slice Aa na ca) := HC5.out.2.1.cell 3; have d3 : w5.cell? ⟨B2, 3, none⟩ = some (.slice Ba ma da) := HC5.out.2.2.cell 3; have c4 : w5.cell? ⟨B1, 4, none⟩ = some (.slice Ap np cp) := HC5.out.2.1.cell 4; have d4 : w5.cell? ⟨B2, 4, none⟩ = some (.slice Bp mp dp) := HC5.out.2.2.cell 4; have c5 : w5.cell? ⟨B1, 5, none⟩ = some (.slice Ac nc cc) := HC5.out.2.1.cell 5; have d5 : w5.cell? ⟨B2, 5, none⟩ = some (.slice Bc mc dc) := HC5.out.2.2.cell 5; have c6 : w5.cell? ⟨B1, 6, none⟩ = some (.int .i64 o.n) := HC5.out.2.1.cell 6; have d6 : w5.cell? ⟨B2, 6, none⟩ = some (.int .i64 p.n) := HC5.out.2.2.cell 6; clear hb))
 go_ret
 exact ⟨rfl, HC5.out.1⟩
set_option maxHeartbeats 4000000 in
theorem same7 (o p : Opn) (va vp vc xa xp xc : Value) (w : World) (ho : OpAt w o va vp vc) (hp : OpAt w p xa xp xc) (hl : Lim o) (hl2 : Lim p) (h0 : o.k = p.k) (h1 : o.name = p.name) (h2 : o.dst = p.dst) (h3 : o.attrs = p.attrs) (h4 : o.parts = p.parts) (h5 : o.cur = p.cur) (h6 : o.n = p.n) : Calls Tryz.prog 41 #[opVal o va vp vc, opVal p xa xp xc] w fun e w' => e = .returned (.bool true) ∧ Below w.heap.size w w' := by
 have HL := Lib.hid (And.intro hl hl2)
 have HA := Lib.hid fun (W : World) (hb : Below w.heap.size w W) => And.intro (ho.on hb) (hp.on hb)
 obtain ⟨Aa, ca, na, rfl, _, _⟩ := rdv_len ho.a
 obtain ⟨Ap, cp, np, rfl, _, _⟩ := ho.p.full
 obtain ⟨Ac, cc, nc, rfl, _, _⟩ := ho.c.full
 obtain ⟨Ba, da, ma, rfl, _, _⟩ := rdv_len hp.a
 obtain ⟨Bp, dp, mp, rfl, _, _⟩ := hp.p.full
 obtain ⟨Bc, dc, mc, rfl, _, _⟩ := hp.c.full
 have t0 : (o.k == p.k) = true := by simp [h0]
 have t1 : ((sx o.name).toList == (sx p.name).toList) = true := by rw [YtniaijgejljjbaaGreat.sx_beq]; simp [h1]
 have t2 : ((sx o.dst).toList == (sx p.dst).toList) = true := by rw [YtniaijgejljjbaaGreat.sx_beq]; simp [h2]
 have HE3 : Hid (decide (o.attrs = p.attrs) = true) := Lib.hid (by simp [h3])
 have HE4 : Hid (decide (o.parts = p.parts) = true) := Lib.hid (by simp [h4])
 have HE5 : Hid (decide (o.cur = p.cur) = true) := Lib.hid (by simp [h5])
 have t6 : (o.n == p.n) = true := by simp [h6]
 have hb : Below w.heap.size w ((w.alloc (.cells (opCs o (.slice Aa na ca) (.slice Ap np cp) (.slice Ac nc cc)) 44)).alloc (.cells (opCs p (.slice Ba ma da) (.slice Bp mp dp) (.slice Bc mc dc)) 44)) := ((Below.refl _ _).alloc (Nat.le_refl _) _).alloc (by simp) _
 have k1 := (Blk.new w 44 (opCs o (.slice Aa na ca) (.slice Ap np cp) (.slice Ac nc cc))).alloc (.cells (opCs p (.slice Ba ma da) (.slice Bp mp dp) (.slice Bc mc dc)) 44)
 have k2 := Blk.new (w.alloc (.cells (opCs o (.slice Aa na ca) (.slice Ap np cp) (.slice Ac nc cc)) 44)) 44 (opCs p (.slice Ba ma da) (.slice Bp mp dp) (.slice Bc mc dc))
 rw [show (w.alloc (.cells (opCs o (.slice Aa na ca) (.slice Ap np cp) (.slice Ac nc cc)) 44)).heap.size = w.heap.size + 1 from by simp] at k2
 obtain ⟨B1, hB1⟩ : ∃ b, b = w.heap.size := ⟨_, rfl⟩
 obtain ⟨B2, hB2⟩ : ∃ b, b = w.heap.size + 1 := ⟨_, rfl⟩
 have HBB := Lib.hid (And.intro hB1 hB2)
 rw [← hB2] at k2
 have HB0 := Lib.hid (And.intro hb (And.intro (show Blk _ B1 44 _ from hB1 ▸ k1) k2))
 clear hb k1 k2 ho hp hl hl2 h0 h1 h2 h3 h4 h5 h6
 go_enter Tryz.func41, Tryz.ntmps41
 go_upto_region 1 with fail
 rw [← hB2, ← hB1]
 generalize (w.alloc (.cells (opCs o (.slice Aa na ca) (.slice Ap np cp) (.slice Ac nc cc)) 44)).alloc (.cells (opCs p (.slice Ba ma da) (.slice Bp mp dp) (.slice Bc mc dc)) 44) = W at HB0 ⊢
 clear hB1 hB2
 have HB1 := Lib.hid HB0.out
 have c0 : W.cell? ⟨B1, 0, none⟩ = some (.int .i64 o.k) := HB0.out.2.1.cell 0
 have d0 : W.cell? ⟨B2, 0, none⟩ = some (.int .i64 p.k) := HB0.out.2.2.cell 0
 have c1 : W.cell? ⟨B1, 1, none⟩ = some (.string (sx o.name)) := HB0.out.2.1.cell 1
 have d1 : W.cell? ⟨B2, 1, none⟩ = some (.string (sx p.name)) := HB0.out.2.2.cell 1
 have c2 : W.cell? ⟨B1, 2, none⟩ = some (.string (sx o.dst)) := HB0.out.2.1.cell 2
 have d2 : W.cell? ⟨B2, 2, none⟩ = some (.string (sx p.dst)) := HB0.out.2.2.cell 2
 have c3 : W.cell? ⟨B1, 3, none⟩ = some (.slice Aa na ca) := HB0.out.2.1.cell 3
 have d3 : W.cell? ⟨B2, 3, none⟩ = some (.slice Ba ma da) := HB0.out.2.2.cell 3
 have c4 : W.cell? ⟨B1, 4, none⟩ = some (.slice Ap np cp) := HB0.out.2.1.cell 4
 have d4 : W.cell? ⟨B2, 4, none⟩ = some (.slice Bp mp dp) := HB0.out.2.2.cell 4
 have c5 : W.cell? ⟨B1, 5, none⟩ = some (.slice Ac nc cc) := HB0.out.2.1.cell 5
 have d5 : W.cell? ⟨B2, 5, none⟩ = some (.slice Bc mc dc) := HB0.out.2.2.cell 5
 have c6 : W.cell? ⟨B1, 6, none⟩ = some (.int .i64 o.n) := HB0.out.2.1.cell 6
 have d6 : W.cell? ⟨B2, 6, none⟩ = some (.int .i64 p.n) := HB0.out.2.2.cell 6
 go_wp2_with (first
   | (go_at_call 55; (with_reducible refine (YtniaijgejljjbaaGreat.equal_any o.attrs p.attrs _ _ W (HA.out _ HB0.out.1).1.a (HA.out _ HB0.out.1).2.a (Nat.le_trans HL.out.1.la (by decide)) (Nat.le_trans HL.out.2.la (by decide))).mono ?_); clear c0 d0 c1 d1 c2 d2 c3 d3 c4 d4 c5 d5 c6 d6; rintro e w3 ⟨rfl, hb⟩; dsimp only; rw [HE3.out]; have HC3 := Lib.hid (And.intro (HB0.out.1.trans (hb.mono HB0.out.1.size)) (And.intro (HB0.out.2.1.on hb) (HB0.out.2.2.on hb))); have c0 : w3.cell? ⟨B1, 0, none⟩ = some (.int .i64 o.k) := HC3.out.2.1.cell 0; have d0 : w3.cell? ⟨B2, 0, none⟩ = some (.int .i64 p.k) := HC3.out.2.2.cell 0; have c1 : w3.cell? ⟨B1, 1, none⟩ = some (.string (sx o.name)) := HC3.out.2.1.cell 1; have d1 : w3.cell? ⟨B2, 1, none⟩ = some (.string (sx p.name)) := HC3.out.2.2.cell 1; have c2 : w3.cell? ⟨B1, 2, none⟩ = some (.string (sx o.dst)) := HC3.out.2.1.cell 2; have d2 : w3.cell? ⟨B2, 2, none⟩ = some (.string (sx p.dst)) := HC3.out.2.2.cell 2; have c3 : w3.cell? ⟨B1, 3, none⟩ = some (.slice Aa na ca) := HC3.out.2.1.cell 3; have d3 : w3.cell? ⟨B2, 3, none⟩ = some (.slice Ba ma da) := HC3.out.2.2.cell 3; have c4 : w3.cell? ⟨B1, 4, none⟩ = some (.slice Ap np cp) := HC3.out.2.1.cell 4; have d4 : w3.cell? ⟨B2, 4, none⟩ = some (.slice Bp mp dp) := HC3.out.2.2.cell 4; have c5 : w3.cell? ⟨B1, 5, none⟩ = some (.slice Ac nc cc) := HC3.out.2.1.cell 5; have d5 : w3.cell? ⟨B2, 5, none⟩ = some (.slice Bc mc dc) := HC3.out.2.2.cell 5; have c6 : w3.cell? ⟨B1, 6, none⟩ = some (.int .i64 o.n) := HC3.out.2.1.cell 6; have d6 : w3.cell? ⟨B2, 6, none⟩ = some (.int .i64 p.n) := HC3.out.2.2.cell 6; clear hb)
   | (go_at_call 56; (with_reducible refine (equal_str o.parts p.parts _ _ w3 (HA.out _ HC3.out.1).1.p (HA.out _ HC3.out.1).2.p (Nat.le_trans HL.out.1.lp (by decide)) (Nat.le_trans HL.out.2.lp (by decide))).mono ?_); clear c0 d0 c1 d1 c2 d2 c3 d3 c4 d4 c5 d5 c6 d6; rintro e w4 ⟨rfl, hb⟩; dsimp only; rw [HE4.out]; have HC4 := Lib.hid (And.intro (HC3.out.1.trans (hb.mono HC3.out.1.size)) (And.intro (HC3.out.2.1.on hb) (HC3.out.2.2.on hb))); have c0 : w4.cell? ⟨B1, 0, none⟩ = some (.int .i64 o.k) := HC4.out.2.1.cell 0; have d0 : w4.cell? ⟨B2, 0, none⟩ = some (.int .i64 p.k) := HC4.out.2.2.cell 0; have c1 : w4.cell? ⟨B1, 1, none⟩ = some (.string (sx o.name)) := HC4.out.2.1.cell 1; have d1 : w4.cell? ⟨B2, 1, none⟩ = some (.string (sx p.name)) := HC4.out.2.2.cell 1; have c2 : w4.cell? ⟨B1, 2, none⟩ = some (.string (sx o.dst)) := HC4.out.2.1.cell 2; have d2 : w4.cell? ⟨B2, 2, none⟩ = some (.string (sx p.dst)) := HC4.out.2.2.cell 2; have c3 : w4.cell? ⟨B1, 3, none⟩ = some (.slice Aa na ca) := HC4.out.2.1.cell 3; have d3 : w4.cell? ⟨B2, 3, none⟩ = some (.slice Ba ma da) := HC4.out.2.2.cell 3; have c4 : w4.cell? ⟨B1, 4, none⟩ = some (.slice Ap np cp) := HC4.out.2.1.cell 4; have d4 : w4.cell? ⟨B2, 4, none⟩ = some (.slice Bp mp dp) := HC4.out.2.2.cell 4; have c5 : w4.cell? ⟨B1, 5, none⟩ = some (.slice Ac nc cc) := HC4.out.2.1.cell 5; have d5 : w4.cell? ⟨B2, 5, none⟩ = some (.slice Bc mc dc) := HC4.out.2.2.cell 5; have c6 : w4.cell? ⟨B1, 6, none⟩ = some (.int .i64 o.n) := HC4.out.2.1.cell 6; have d6 : w4.cell? ⟨B2, 6, none⟩ = some (.int .i64 p.n) := HC4.out.2.2.cell 6; clear hb)
   | (go_at_call 57; (with_reducible refine (equal_byt o.cur p.cur _ _ w4 (HA.out _ HC4.out.1).1.c (HA.out _ HC4.out.1).2.c HL.out.1.byt HL.out.2.byt).mono ?_); clear c0 d0 c1 d1 c2 d2 c3 d3 c4 d4 c5 d5 c6 d6; rintro e w5 ⟨rfl, hb⟩; dsimp only; rw [HE5.out]; have HC5 := Lib.hid (And.intro (HC4.out.1.trans (hb.mono HC4.out.1.size)) (And.intro (HC4.out.2.1.on hb) (HC4.out.2.2.on hb))); have c0 : w5.cell? ⟨B1, 0, none⟩ = some (.int .i64 o.k) := HC5.out.2.1.cell 0; have d0 : w5.cell? ⟨B2, 0, none⟩ = some (.int .i64 p.k) := HC5.out.2.2.cell 0; have c1 : w5.cell? ⟨B1, 1, none⟩ = some (.string (sx o.name)) := HC5.out.2.1.cell 1; have d1 : w5.cell? ⟨B2, 1, none⟩ = some (.string (sx p.name)) := HC5.out.2.2.cell 1; have c2 : w5.cell? ⟨B1, 2, none⟩ = some (.string (sx o.dst)) := HC5.out.2.1.cell 2; have d2 : w5.cell? ⟨B2, 2, none⟩ = some (.string (sx p.dst)) := HC5.out.2.2.cell 2; have c3 : w5.cell? ⟨B1, 3, none⟩ = some (.slice Aa na ca) := HC5.out.2.1.cell 3; have d3 : w5.cell? ⟨B2, 3, none⟩ = some (.slice Ba ma da) := HC5.out.2.2.cell 3; have c4 : w5.cell? ⟨B1, 4, none⟩ = some (.slice Ap np cp) := HC5.out.2.1.cell 4; have d4 : w5.cell? ⟨B2, 4, none⟩ = some (.slice Bp mp dp) := HC5.out.2.2.cell 4; have c5 : w5.cell? ⟨B1, 5, none⟩ = some (.slice Ac nc cc) := HC5.out.2.1.cell 5; have d5 : w5.cell? ⟨B2, 5, none⟩ = some (.slice Bc mc dc) := HC5.out.2.2.cell 5; have c6 : w5.cell? ⟨B1, 6, none⟩ = some (.int .i64 o.n) := HC5.out.2.1.cell 6; have d6 : w5.cell? ⟨B2, 6, none⟩ = some (.int .i64 p.n) := HC5.out.2.2.cell 6; clear hb))
 go_ret
 exact ⟨rfl, HC5.out.1⟩
theorem sameOp_any (o p : Opn) (va vp vc xa xp xc : Value) (w : World) (ho : OpAt w o va vp vc) (hp : OpAt w p xa xp xc) (hl : Lim o) (hl2 : Lim p) : Calls Tryz.prog 41 #[opVal o va vp vc, opVal p xa xp xc] w fun e w' => e = .returned (.bool (sameO o p)) ∧ Below w.heap.size w w' := by
 by_cases h0 : o.k = p.k
 rotate_left
 · have e : sameO o p = false := by simp [sameO, h0]
   rw [e]
   exact same0 o p va vp vc xa xp xc w ho hp hl hl2 h0
 by_cases h1 : o.name = p.name
 rotate_left
 · have e : sameO o p = false := by simp [sameO, h1]
   rw [e]
   exact same1 o p va vp vc xa xp xc w ho hp hl hl2 h0 h1
 by_cases h2 : o.dst = p.dst
 rotate_left
 · have e : sameO o p = false := by simp [sameO, h2]
   rw [e]
   exact same2 o p va vp vc xa xp xc w ho hp hl hl2 h0 h1 h2
 by_cases h3 : o.attrs = p.attrs
 rotate_left
 · have e : sameO o p = false := by simp [sameO, h3]
   rw [e]
   exact same3 o p va vp vc xa xp xc w ho hp hl hl2 h0 h1 h2 h3
 by_cases h4 : o.parts = p.parts
 rotate_left
 · have e : sameO o p = false := by simp [sameO, h4]
   rw [e]
   exact same4 o p va vp vc xa xp xc w ho hp hl hl2 h0 h1 h2 h3 h4
 by_cases h5 : o.cur = p.cur
 rotate_left
 · have e : sameO o p = false := by simp [sameO, h5]
   rw [e]
   exact same5 o p va vp vc xa xp xc w ho hp hl hl2 h0 h1 h2 h3 h4 h5
 by_cases h6 : o.n = p.n
 rotate_left
 · have e : sameO o p = false := by simp [sameO, h6]
   rw [e]
   exact same6 o p va vp vc xa xp xc w ho hp hl hl2 h0 h1 h2 h3 h4 h5 h6
 have e : sameO o p = true := by simp [sameO, h0, h1, h2, h3, h4, h5, h6]
 rw [e]
 exact same7 o p va vp vc xa xp xc w ho hp hl hl2 h0 h1 h2 h3 h4 h5 h6
end Go.Proofs.YtniaijgejljjbaaGreat.Tlv
