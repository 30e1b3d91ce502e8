/- The reference's SameOp. -/
import Derived.Test.YtniaijgejljjbaaGreatY20
namespace Go.Proofs.YtniaijgejljjbaaGreat.Tlv
open Go.RowKit
set_option maxRecDepth 100000
set_option linter.unusedVariables false
set_option linter.unusedSimpArgs false
set_option maxHeartbeats 4000000 in
theorem rsame0 (o p : Opn) (va vp vc xa xp xc : Value) (w : World) (ho : OpAt w o va vp vc) (hp : OpAt w p xa xp xc) (hl : Lim o) (hl2 : Lim p) (h0 : o.k ≠ p.k) : Calls Tryz.prog 42 #[opVal o va vp vc, opVal p xa xp xc] w fun e w' => e = .returned (.bool false) ∧ Below w.heap.size w w' := by
 have HL := Lib.hid (And.intro hl hl2)
 have HA := Lib.hid fun (W : World) (hb : Below w.heap.size w W) => And.intro (ho.on hb) (hp.on hb)
 obtain ⟨Aa, ca, na, rfl, _, _⟩ := rdv_len ho.a
 obtain ⟨Ap, cp, np, rfl, HNo, HRo⟩ := ho.p.full
 obtain ⟨Ac, cc, nc, rfl, HCo, HRCo⟩ := ho.c.full
 obtain ⟨Ba, da, ma, rfl, _, _⟩ := rdv_len hp.a
 obtain ⟨Bp, dp, mp, rfl, HNp, HRp⟩ := hp.p.full
 obtain ⟨Bc, dc, mc, rfl, HCp, HRCp⟩ := hp.c.full
 have t0 : (o.k == p.k) = false := by simp [h0]
 have q0 : ¬ o.k = p.k := h0
 have hb : Below w.heap.size w ((w.alloc (.cells (opCs o (.slice Aa na ca) (.slice Ap np cp) (.slice Ac nc cc)) 44)).alloc (.cells (opCs p (.slice Ba ma da) (.slice Bp mp dp) (.slice Bc mc dc)) 44)) := ((Below.refl _ _).alloc (Nat.le_refl _) _).alloc (by simp) _
 have k1 := (Blk.new w 44 (opCs o (.slice Aa na ca) (.slice Ap np cp) (.slice Ac nc cc))).alloc (.cells (opCs p (.slice Ba ma da) (.slice Bp mp dp) (.slice Bc mc dc)) 44)
 have k2 := Blk.new (w.alloc (.cells (opCs o (.slice Aa na ca) (.slice Ap np cp) (.slice Ac nc cc)) 44)) 44 (opCs p (.slice Ba ma da) (.slice Bp mp dp) (.slice Bc mc dc))
 rw [show (w.alloc (.cells (opCs o (.slice Aa na ca) (.slice Ap np cp) (.slice Ac nc cc)) 44)).heap.size = w.heap.size + 1 from by simp] at k2
 obtain ⟨B1, hB1⟩ : ∃ b, b = w.heap.size := ⟨_, rfl⟩
 obtain ⟨B2, hB2⟩ : ∃ b, b = w.heap.size + 1 := ⟨_, rfl⟩
 have HBB := Lib.hid (And.intro hB1 hB2)
 rw [← hB2] at k2
 have HB0 := Lib.hid (And.intro hb (And.intro (show Blk _ B1 44 _ from hB1 ▸ k1) k2))
 clear hb k1 k2 ho hp hl hl2 h0
 go_enter Tryz.func42, Tryz.ntmps42
 go_upto_region 1 with fail
 rw [← hB2, ← hB1]
 generalize (w.alloc (.cells (opCs o (.slice Aa na ca) (.slice Ap np cp) (.slice Ac nc cc)) 44)).alloc (.cells (opCs p (.slice Ba ma da) (.slice Bp mp dp) (.slice Bc mc dc)) 44) = W at HB0 ⊢
 clear hB1 hB2
 have HB1 := Lib.hid HB0.out
 have c0 : W.cell? ⟨B1, 0, none⟩ = some (.int .i64 o.k) := HB0.out.2.1.cell 0
 have d0 : W.cell? ⟨B2, 0, none⟩ = some (.int .i64 p.k) := HB0.out.2.2.cell 0
 have c1 : W.cell? ⟨B1, 1, none⟩ = some (.string (sx o.name)) := HB0.out.2.1.cell 1
 have d1 : W.cell? ⟨B2, 1, none⟩ = some (.string (sx p.name)) := HB0.out.2.2.cell 1
 have c2 : W.cell? ⟨B1, 2, none⟩ = some (.string (sx o.dst)) := HB0.out.2.1.cell 2
 have d2 : W.cell? ⟨B2, 2, none⟩ = some (.string (sx p.dst)) := HB0.out.2.2.cell 2
 have c3 : W.cell? ⟨B1, 3, none⟩ = some (.slice Aa na ca) := HB0.out.2.1.cell 3
 have d3 : W.cell? ⟨B2, 3, none⟩ = some (.slice Ba ma da) := HB0.out.2.2.cell 3
 have c4 : W.cell? ⟨B1, 4, none⟩ = some (.slice Ap np cp) := HB0.out.2.1.cell 4
 have d4 : W.cell? ⟨B2, 4, none⟩ = some (.slice Bp mp dp) := HB0.out.2.2.cell 4
 have c5 : W.cell? ⟨B1, 5, none⟩ = some (.slice Ac nc cc) := HB0.out.2.1.cell 5
 have d5 : W.cell? ⟨B2, 5, none⟩ = some (.slice Bc mc dc) := HB0.out.2.2.cell 5
 have c6 : W.cell? ⟨B1, 6, none⟩ = some (.int .i64 o.n) := HB0.out.2.1.cell 6
 have d6 : W.cell? ⟨B2, 6, none⟩ = some (.int .i64 p.n) := HB0.out.2.2.cell 6
 go_wp2
 go_ret
 exact ⟨rfl, HB0.out.1⟩
set_option maxHeartbeats 4000000 in
theorem rsame1 (o p : Opn) (va vp vc xa xp xc : Value) (w : World) (ho : OpAt w o va vp vc) (hp : OpAt w p xa xp xc) (hl : Lim o) (hl2 : Lim p) (h0 : o.k = p.k) (h1 : o.name ≠ p.name) : Calls Tryz.prog 42 #[opVal o va vp vc, opVal p xa xp xc] w fun e w' => e = .returned (.bool false) ∧ Below w.heap.size w w' := by
 have HL := Lib.hid (And.intro hl hl2)
 have HA := Lib.hid fun (W : World) (hb : Below w.heap.size w W) => And.intro (ho.on hb) (hp.on hb)
 obtain ⟨Aa, ca, na, rfl, _, _⟩ := rdv_len ho.a
 obtain ⟨Ap, cp, np, rfl, HNo, HRo⟩ := ho.p.full
 obtain ⟨Ac, cc, nc, rfl, HCo, HRCo⟩ := ho.c.full
 obtain ⟨Ba, da, ma, rfl, _, _⟩ := rdv_len hp.a
 obtain ⟨Bp, dp, mp, rfl, HNp, HRp⟩ := hp.p.full
 obtain ⟨Bc, dc, mc, rfl, HCp, HRCp⟩ := hp.c.full
 have t0 : (o.k == p.k) = true := by simp [h0]
 have q0 : o.k = p.k := h0
 have t1 : ((sx o.name).toList == (sx p.name).toList) = false := by rw [YtniaijgejljjbaaGreat.sx_beq]; simp [h1]
 have q1 : ¬ (sx o.name).toList = (sx p.name).toList := by simpa using t1
 have hb : Below w.heap.size w ((w.alloc (.cells (opCs o (.slice Aa na ca) (.slice Ap np cp) (.slice Ac nc cc)) 44)).alloc (.cells (opCs p (.slice Ba ma da) (.slice Bp mp dp) (.slice Bc mc dc)) 44)) := ((Below.refl _ _).alloc (Nat.le_refl _) _).alloc (by simp) _
 have k1 := (Blk.new w 44 (opCs o (.slice Aa na ca) (.slice Ap np cp) (.slice Ac nc cc))).alloc (.cells (opCs p (.slice Ba ma da) (.slice Bp mp dp) (.slice Bc mc dc)) 44)
 have k2 := Blk.new (w.alloc (.cells (opCs o (.slice Aa na ca) (.slice Ap np cp) (.slice Ac nc cc)) 44)) 44 (opCs p (.slice Ba ma da) (.slice Bp mp dp) (.slice Bc mc dc))
 rw [show (w.alloc (.cells (opCs o (.slice Aa na ca) (.slice Ap np cp) (.slice Ac nc cc)) 44)).heap.size = w.heap.size + 1 from by simp] at k2
 obtain ⟨B1, hB1⟩ : ∃ b, b = w.heap.size := ⟨_, rfl⟩
 obtain ⟨B2, hB2⟩ : ∃ b, b = w.heap.size + 1 := ⟨_, rfl⟩
 have HBB := Lib.hid (And.intro hB1 hB2)
 rw [← hB2] at k2
 have HB0 := Lib.hid (And.intro hb (And.intro (show Blk _ B1 44 _ from hB1 ▸ k1) k2))
 clear hb k1 k2 ho hp hl hl2 h0 h1
 go_enter Tryz.func42, Tryz.ntmps42
 go_upto_region 1 with fail
 rw [← hB2, ← hB1]
 generalize (w.alloc (.cells (opCs o (.slice Aa na ca) (.slice Ap np cp) (.slice Ac nc cc)) 44)).alloc (.cells (opCs p (.slice Ba ma da) (.slice Bp mp dp) (.slice Bc mc dc)) 44) = W at HB0 ⊢
 clear hB1 hB2
 have HB1 := Lib.hid HB0.out
 have c0 : W.cell? ⟨B1, 0, none⟩ = some (.int .i64 o.k) := HB0.out.2.1.cell 0
 have d0 : W.cell? ⟨B2, 0, none⟩ = some (.int .i64 p.k) := HB0.out.2.2.cell 0
 have c1 : W.cell? ⟨B1, 1, none⟩ = some (.string (sx o.name)) := HB0.out.2.1.cell 1
 have d1 : W.cell? ⟨B2, 1, none⟩ = some (.string (sx p.name)) := HB0.out.2.2.cell 1
 have c2 : W.cell? ⟨B1, 2, none⟩ = some (.string (sx o.dst)) := HB0.out.2.1.cell 2
 have d2 : W.cell? ⟨B2, 2, none⟩ = some (.string (sx p.dst)) := HB0.out.2.2.cell 2
 have c3 : W.cell? ⟨B1, 3, none⟩ = some (.slice Aa na ca) := HB0.out.2.1.cell 3
 have d3 : W.cell? ⟨B2, 3, none⟩ = some (.slice Ba ma da) := HB0.out.2.2.cell 3
 have c4 : W.cell? ⟨B1, 4, none⟩ = some (.slice Ap np cp) := HB0.out.2.1.cell 4
 have d4 : W.cell? ⟨B2, 4, none⟩ = some (.slice Bp mp dp) := HB0.out.2.2.cell 4
 have c5 : W.cell? ⟨B1, 5, none⟩ = some (.slice Ac nc cc) := HB0.out.2.1.cell 5
 have d5 : W.cell? ⟨B2, 5, none⟩ = some (.slice Bc mc dc) := HB0.out.2.2.cell 5
 have c6 : W.cell? ⟨B1, 6, none⟩ = some (.int .i64 o.n) := HB0.out.2.1.cell 6
 have d6 : W.cell? ⟨B2, 6, none⟩ = some (.int .i64 p.n) := HB0.out.2.2.cell 6
 go_wp2
 go_ret
 exact ⟨rfl, HB0.out.1⟩
set_option maxHeartbeats 4000000 in
theorem rsame2 (o p : Opn) (va vp vc xa xp xc : Value) (w : World) (ho : OpAt w o va vp vc) (hp : OpAt w p xa xp xc) (hl : Lim o) (hl2 : Lim p) (h0 : o.k = p.k) (h1 : o.name = p.name) (h2 : o.dst ≠ p.dst) : Calls Tryz.prog 42 #[opVal o va vp vc, opVal p xa xp xc] w fun e w' => e = .returned (.bool false) ∧ Below w.heap.size w w' := by
 have HL := Lib.hid (And.intro hl hl2)
 have HA := Lib.hid fun (W : World) (hb : Below w.heap.size w W) => And.intro (ho.on hb) (hp.on hb)
 obtain ⟨Aa, ca, na, rfl, _, _⟩ := rdv_len ho.a
 obtain ⟨Ap, cp, np, rfl, HNo, HRo⟩ := ho.p.full
 obtain ⟨Ac, cc, nc, rfl, HCo, HRCo⟩ := ho.c.full
 obtain ⟨Ba, da, ma, rfl, _, _⟩ := rdv_len hp.a
 obtain ⟨Bp, dp, mp, rfl, HNp, HRp⟩ := hp.p.full
 obtain ⟨Bc, dc, mc, rfl, HCp, HRCp⟩ := hp.c.full
 have t0 : (o.k == p.k) = true := by simp [h0]
 have q0 : o.k = p.k := h0
 have t1 : ((sx o.name).toList == (sx p.name).toList) = true := by rw [YtniaijgejljjbaaGreat.sx_beq]; simp [h1]
 have q1 : (sx o.name).toList = (sx p.name).toList := by rw [h1]
 have t2 : ((sx o.dst).toList == (sx p.dst).toList) = false := by rw [YtniaijgejljjbaaGreat.sx_beq]; simp [h2]
 have q2 : ¬ (sx o.dst).toList = (sx p.dst).toList := by simpa using t2
 have hb : Below w.heap.size w ((w.alloc (.cells (opCs o (.slice Aa na ca) (.slice Ap np cp) (.slice Ac nc cc)) 44)).alloc (.cells (opCs p (.slice Ba ma da) (.slice Bp mp dp) (.slice Bc mc dc)) 44)) := ((Below.refl _ _).alloc (Nat.le_refl _) _).alloc (by simp) _
 have k1 := (Blk.new w 44 (opCs o (.slice Aa na ca) (.slice Ap np cp) (.slice Ac nc cc))).alloc (.cells (opCs p (.slice Ba ma da) (.slice Bp mp dp) (.slice Bc mc dc)) 44)
 have k2 := Blk.new (w.alloc (.cells (opCs o (.slice Aa na ca) (.slice Ap np cp) (.slice Ac nc cc)) 44)) 44 (opCs p (.slice Ba ma da) (.slice Bp mp dp) (.slice Bc mc dc))
 rw [show (w.alloc (.cells (opCs o (.slice Aa na ca) (.slice Ap np cp) (.slice Ac nc cc)) 44)).heap.size = w.heap.size + 1 from by simp] at k2
 obtain ⟨B1, hB1⟩ : ∃ b, b = w.heap.size := ⟨_, rfl⟩
 obtain ⟨B2, hB2⟩ : ∃ b, b = w.heap.size + 1 := ⟨_, rfl⟩
 have HBB := Lib.hid (And.intro hB1 hB2)
 rw [← hB2] at k2
 have HB0 := Lib.hid (And.intro hb (And.intro (show Blk _ B1 44 _ from hB1 ▸ k1) k2))
 clear hb k1 k2 ho hp hl hl2 h0 h1 h2
 go_enter Tryz.func42, Tryz.ntmps42
 go_upto_region 1 with fail
 rw [← hB2, ← hB1]
 generalize (w.alloc (.cells (opCs o (.slice Aa na ca) (.slice Ap np cp) (.slice Ac nc cc)) 44)).alloc (.cells (opCs p (.slice Ba ma da) (.slice Bp mp dp) (.slice Bc mc dc)) 44) = W at HB0 ⊢
 clear hB1 hB2
 have HB1 := Lib.hid HB0.out
 have c0 : W.cell? ⟨B1, 0, none⟩ = some (.int .i64 o.k) := HB0.out.2.1.cell 0
 have d0 : W.cell? ⟨B2, 0, none⟩ = some (.int .i64 p.k) := HB0.out.2.2.cell 0
 have c1 : W.cell? ⟨B1, 1, none⟩ = some (.string (sx o.name)) := HB0.out.2.1.cell 1
 have d1 : W.cell? ⟨B2, 1, none⟩ = some (.string (sx p.name)) := HB0.out.2.2.cell 1
 have c2 : W.cell? ⟨B1, 2, none⟩ = some (.string (sx o.dst)) := HB0.out.2.1.cell 2
 have d2 : W.cell? ⟨B2, 2, none⟩ = some (.string (sx p.dst)) := HB0.out.2.2.cell 2
 have c3 : W.cell? ⟨B1, 3, none⟩ = some (.slice Aa na ca) := HB0.out.2.1.cell 3
 have d3 : W.cell? ⟨B2, 3, none⟩ = some (.slice Ba ma da) := HB0.out.2.2.cell 3
 have c4 : W.cell? ⟨B1, 4, none⟩ = some (.slice Ap np cp) := HB0.out.2.1.cell 4
 have d4 : W.cell? ⟨B2, 4, none⟩ = some (.slice Bp mp dp) := HB0.out.2.2.cell 4
 have c5 : W.cell? ⟨B1, 5, none⟩ = some (.slice Ac nc cc) := HB0.out.2.1.cell 5
 have d5 : W.cell? ⟨B2, 5, none⟩ = some (.slice Bc mc dc) := HB0.out.2.2.cell 5
 have c6 : W.cell? ⟨B1, 6, none⟩ = some (.int .i64 o.n) := HB0.out.2.1.cell 6
 have d6 : W.cell? ⟨B2, 6, none⟩ = some (.int .i64 p.n) := HB0.out.2.2.cell 6
 go_wp2
 go_ret
 exact ⟨rfl, HB0.out.1⟩
set_option maxHeartbeats 4000000 in
theorem rsame3 (o p : Opn) (va vp vc xa xp xc : Value) (w : World) (ho : OpAt w o va vp vc) (hp : OpAt w p xa xp xc) (hl : Lim o) (hl2 : Lim p) (h0 : o.k = p.k) (h1 : o.name = p.name) (h2 : o.dst = p.dst) (h3 : o.attrs ≠ p.attrs) : Calls Tryz.prog 42 #[opVal o va vp vc, opVal p xa xp xc] w fun e w' => e = .returned (.bool false) ∧ Below w.heap.size w w' := by
 have HL := Lib.hid (And.intro hl hl2)
 have HA := Lib.hid fun (W : World) (hb : Below w.heap.size w W) => And.intro (ho.on hb) (hp.on hb)
 obtain ⟨Aa, ca, na, rfl, _, _⟩ := rdv_len ho.a
 obtain ⟨Ap, cp, np, rfl, HNo, HRo⟩ := ho.p.full
 obtain ⟨Ac, cc, nc, rfl, HCo, HRCo⟩ := ho.c.full
 obtain ⟨Ba, da, ma, rfl, _, _⟩ := rdv_len hp.a
 obtain ⟨Bp, dp, mp, rfl, HNp, HRp⟩ := hp.p.full
 obtain ⟨Bc, dc, mc, rfl, HCp, HRCp⟩ := hp.c.full
 have t0 : (o.k == p.k) = true := by simp [h0]
 have q0 : o.k = p.k := h0
 have t1 : ((sx o.name).toList == (sx p.name).toList) = true := by rw [YtniaijgejljjbaaGreat.sx_beq]; simp [h1]
 have q1 : (sx o.name).toList = (sx p.name).toList := by rw [h1]
 have t2 : ((sx o.dst).toList == (sx p.dst).toList) = true := by rw [YtniaijgejljjbaaGreat.sx_beq]; simp [h2]
 have q2 : (sx o.dst).toList = (sx p.dst).toList := by rw [h2]
 have HE3 : Hid (decide (o.attrs = p.attrs) = false) := Lib.hid (by simp [h3])
 have hb : Below w.heap.size w ((w.alloc (.cells (opCs o (.slice Aa na ca) (.slice Ap np cp) (.slice Ac nc cc)) 44)).alloc (.cells (opCs p (.slice Ba ma da) (.slice Bp mp dp) (.slice Bc mc dc)) 44)) := ((Below.refl _ _).alloc (Nat.le_refl _) _).alloc (by simp) _
 have k1 := (Blk.new w 44 (opCs o (.slice Aa na ca) (.slice Ap np cp) (.slice Ac nc cc))).alloc (.cells (opCs p (.slice Ba ma da) (.slice Bp mp dp) (.slice Bc mc dc)) 44)
 have k2 := Blk.new (w.alloc (.cells (opCs o (.slice Aa na ca) (.slice Ap np cp) (.slice Ac nc cc)) 44)) 44 (opCs p (.slice Ba ma da) (.slice Bp mp dp) (.slice Bc mc dc))
 rw [show (w.alloc (.cells (opCs o (.slice Aa na ca) (.slice Ap np cp) (.slice Ac nc cc)) 44)).heap.size = w.heap.size + 1 from by simp] at k2
 obtain ⟨B1, hB1⟩ : ∃ b, b = w.heap.size := ⟨_, rfl⟩
 obtain ⟨B2, hB2⟩ : ∃ b, b = w.heap.size + 1 := ⟨_, rfl⟩
 have HBB := Lib.hid (And.intro hB1 hB2)
 rw [← hB2] at k2
 have HB0 := Lib.hid (And.intro hb (And.intro (show Blk _ B1 44 _ from hB1 ▸ k1) k2))
 clear hb k1 k2 ho hp hl hl2 h0 h1 h2 h3
 go_enter Tryz.func42, Tryz.ntmps42
 go_upto_region 1 with fail
 rw [← hB2, ← hB1]
 generalize (w.alloc (.cells (opCs o (.slice Aa na ca) (.slice Ap np cp) (.slice Ac nc cc)) 44)).alloc (.cells (opCs p (.slice Ba ma da) (.slice Bp mp dp) (.slice Bc mc dc)) 44) = W at HB0 ⊢
 clear hB1 hB2
 have HB1 := Lib.hid HB0.out
 have c0 : W.cell? ⟨B1, 0, none⟩ = some (.int .i64 o.k) := HB0.out.2.1.cell 0
 have d0 : W.cell? ⟨B2, 0, none⟩ = some (.int .i64 p.k) := HB0.out.2.2.cell 0
 have c1 : W.cell? ⟨B1, 1, none⟩ = some (.string (sx o.name)) := HB0.out.2.1.cell 1
 have d1 : W.cell? ⟨B2, 1, none⟩ = some (.string (sx p.name)) := HB0.out.2.2.cell 1
 have c2 : W.cell? ⟨B1, 2, none⟩ = some (.string (sx o.dst)) := HB0.out.2.1.cell 2
 have d2 : W.cell? ⟨B2, 2, none⟩ = some (.string (sx p.dst)) := HB0.out.2.2.cell 2
 have c3 : W.cell? ⟨B1, 3, none⟩ = some (.slice Aa na ca) := HB0.out.2.1.cell 3
 have d3 : W.cell? ⟨B2, 3, none⟩ = some (.slice Ba ma da) := HB0.out.2.2.cell 3
 have c4 : W.cell? ⟨B1, 4, none⟩ = some (.slice Ap np cp) := HB0.out.2.1.cell 4
 have d4 : W.cell? ⟨B2, 4, none⟩ = some (.slice Bp mp dp) := HB0.out.2.2.cell 4
 have c5 : W.cell? ⟨B1, 5, none⟩ = some (.slice Ac nc cc) := HB0.out.2.1.cell 5
 have d5 : W.cell? ⟨B2, 5, none⟩ = some (.slice Bc mc dc) := HB0.out.2.2.cell 5
 have c6 : W.cell? ⟨B1, 6, none⟩ = some (.int .i64 o.n) := HB0.out.2.1.cell 6
 have d6 : W.cell? ⟨B2, 6, none⟩ = some (.int .i64 p.n) := HB0.out.2.2.cell 6
 go_wp2_with (first
   | (go_at_call 58; (with_reducible refine (YtniaijgejljjbaaGreat.refSame_any o.attrs p.attrs _ _ W (HA.out _ HB0.out.1).1.a (HA.out _ HB0.out.1).2.a (Nat.le_trans HL.out.1.la (by decide)) (Nat.le_trans HL.out.2.la (by decide))).mono ?_); clear c0 d0 c1 d1 c2 d2 c3 d3 c4 d4 c5 d5 c6 d6; rintro e w3 ⟨rfl, hb⟩; dsimp only; rw [HE3.out]; have HC3 := Lib.hid (And.intro (HB0.out.1.trans (hb.mono HB0.out.1.size)) (And.intro (HB0.out.2.1.on hb) (HB0.out.2.2.on hb))); have c0 : w3.cell? ⟨B1, 0, none⟩ = some (.int .i64 o.k) := HC3.out.2.1.cell 0; have d0 : w3.cell? ⟨B2, 0, none⟩ = some (.int .i64 p.k) := HC3.out.2.2.cell 0; have c1 : w3.cell? ⟨B1, 1, none⟩ = some (.string (sx o.name)) := HC3.out.2.1.cell 1; have d1 : w3.cell? ⟨B2, 1, none⟩ = some (.string (sx p.name)) := HC3.out.2.2.cell 1; have c2 : w3.cell? ⟨B1, 2, none⟩ = some (.string (sx o.dst)) := HC3.out.2.1.cell 2; have d2 : w3.cell? ⟨B2, 2, none⟩ = some (.string (sx p.dst)) := HC3.out.2.2.cell 2; have c3 : w3.cell? ⟨B1, 3, none⟩ = some (.slice Aa na ca) := HC3.out.2.1.cell 3; have d3 : w3.cell? ⟨B2, 3, none⟩ = some (.slice Ba ma da) := HC3.out.2.2.cell 3; have c4 : w3.cell? ⟨B1, 4, none⟩ = some (.slice Ap np cp) := HC3.out.2.1.cell 4; have d4 : w3.cell? ⟨B2, 4, none⟩ = some (.slice Bp mp dp) := HC3.out.2.2.cell 4; have c5 : w3.cell? ⟨B1, 5, none⟩ = some (.slice Ac nc cc) := HC3.out.2.1.cell 5; have d5 : w3.cell? ⟨B2, 5, none⟩ = some (.slice Bc mc dc) := HC3.out.2.2.cell 5; have c6 : w3.cell? ⟨B1, 6, none⟩ = some (.int .i64 o.n) := HC3.out.2.1.cell 6; have d6 : w3.cell? ⟨B2, 6, none⟩ = some (.int .i64 p.n) := HC3.out.2.2.cell 6; clear hb))
 go_ret
 exact ⟨rfl, HC3.out.1⟩
set_option maxHeartbeats 4000000 in
theorem rsame4 (o p : Opn) (va vp vc xa xp xc : Value) (w : World) (ho : OpAt w o va vp vc) (hp : OpAt w p xa xp xc) (hl : Lim o) (hl2 : Lim p) (h0 : o.k = p.k) (h1 : o.name = p.name) (h2 : o.dst = p.dst) (h3 : o.attrs = p.attrs) (h4 : o.parts.length ≠ p.parts.length) : Calls Tryz.prog 42 #[opVal o va vp vc, opVal p xa xp xc] w fun e w' => e = .returned (.bool false) ∧ Below w.heap.size w w' := by
 have HL := Lib.hid (And.intro hl hl2)
 have HA := Lib.hid fun (W : World) (hb : Below w.heap.size w W) => And.intro (ho.on hb) (hp.on hb)
 obtain ⟨Aa, ca, na, rfl, _, _⟩ := rdv_len ho.a
 obtain ⟨Ap, cp, np, rfl, HNo, HRo⟩ := ho.p.full
 obtain ⟨Ac, cc, nc, rfl, HCo, HRCo⟩ := ho.c.full
 obtain ⟨Ba, da, ma, rfl, _, _⟩ := rdv_len hp.a
 obtain ⟨Bp, dp, mp, rfl, HNp, HRp⟩ := hp.p.full
 obtain ⟨Bc, dc, mc, rfl, HCp, HRCp⟩ := hp.c.full
 have t0 : (o.k == p.k) = true := by simp [h0]
 have q0 : o.k = p.k := h0
 have t1 : ((sx o.name).toList == (sx p.name).toList) = true := by rw [YtniaijgejljjbaaGreat.sx_beq]; simp [h1]
 have q1 : (sx o.name).toList = (sx p.name).toList := by rw [h1]
 have t2 : ((sx o.dst).toList == (sx p.dst).toList) = true := by rw [YtniaijgejljjbaaGreat.sx_beq]; simp [h2]
 have q2 : (sx o.dst).toList = (sx p.dst).toList := by rw [h2]
 have HE3 : Hid (decide (o.attrs = p.attrs) = true) := Lib.hid (by simp [h3])
 have HE4 : Hid ((o.parts.length == p.parts.length) = false) := Lib.hid (by simp [h4])
 have lq : ¬ np = mp := by rw [HNo.out, HNp.out]; exact h4
 have ln : ((np : Int) == (mp : Int)) = false := by simp; omega
 have lz : ¬ (np : Int) = (mp : Int) := by omega
 have hb : Below w.heap.size w ((w.alloc (.cells (opCs o (.slice Aa na ca) (.slice Ap np cp) (.slice Ac nc cc)) 44)).alloc (.cells (opCs p (.slice Ba ma da) (.slice Bp mp dp) (.slice Bc mc dc)) 44)) := ((Below.refl _ _).alloc (Nat.le_refl _) _).alloc (by simp) _
 have k1 := (Blk.new w 44 (opCs o (.slice Aa na ca) (.slice Ap np cp) (.slice Ac nc cc))).alloc (.cells (opCs p (.slice Ba ma da) (.slice Bp mp dp) (.slice Bc mc dc)) 44)
 have k2 := Blk.new (w.alloc (.cells (opCs o (.slice Aa na ca) (.slice Ap np cp) (.slice Ac nc cc)) 44)) 44 (opCs p (.slice Ba ma da) (.slice Bp mp dp) (.slice Bc mc dc))
 rw [show (w.alloc (.cells (opCs o (.slice Aa na ca) (.slice Ap np cp) (.slice Ac nc cc)) 44)).heap.size = w.heap.size + 1 from by simp] at k2
 obtain ⟨B1, hB1⟩ : ∃ b, b = w.heap.size := ⟨_, rfl⟩
 obtain ⟨B2, hB2⟩ : ∃ b, b = w.heap.size + 1 := ⟨_, rfl⟩
 have HBB := Lib.hid (And.intro hB1 hB2)
 rw [← hB2] at k2
 have HB0 := Lib.hid (And.intro hb (And.intro (show Blk _ B1 44 _ from hB1 ▸ k1) k2))
 clear hb k1 k2 ho hp hl hl2 h0 h1 h2 h3 h4
 go_enter Tryz.func42, Tryz.ntmps42
 go_upto_region 1 with fail
 rw [← hB2, ← hB1]
 generalize (w.alloc (.cells (opCs o (.slice Aa na ca) (.slice Ap np cp) (.slice Ac nc cc)) 44)).alloc (.cells (opCs p (.slice Ba ma da) (.slice Bp mp dp) (.slice Bc mc dc)) 44) = W at HB0 ⊢
 clear hB1 hB2
 have HB1 := Lib.hid HB0.out
 have c0 : W.cell? ⟨B1, 0, none⟩ = some (.int .i64 o.k) := HB0.out.2.1.cell 0
 have d0 : W.cell? ⟨B2, 0, none⟩ = some (.int .i64 p.k) := HB0.out.2.2.cell 0
 have c1 : W.cell? ⟨B1, 1, none⟩ = some (.string (sx o.name)) := HB0.out.2.1.cell 1
 have d1 : W.cell? ⟨B2, 1, none⟩ = some (.string (sx p.name)) := HB0.out.2.2.cell 1
 have c2 : W.cell? ⟨B1, 2, none⟩ = some (.string (sx o.dst)) := HB0.out.2.1.cell 2
 have d2 : W.cell? ⟨B2, 2, none⟩ = some (.string (sx p.dst)) := HB0.out.2.2.cell 2
 have c3 : W.cell? ⟨B1, 3, none⟩ = some (.slice Aa na ca) := HB0.out.2.1.cell 3
 have d3 : W.cell? ⟨B2, 3, none⟩ = some (.slice Ba ma da) := HB0.out.2.2.cell 3
 have c4 : W.cell? ⟨B1, 4, none⟩ = some (.slice Ap np cp) := HB0.out.2.1.cell 4
 have d4 : W.cell? ⟨B2, 4, none⟩ = some (.slice Bp mp dp) := HB0.out.2.2.cell 4
 have c5 : W.cell? ⟨B1, 5, none⟩ = some (.slice Ac nc cc) := HB0.out.2.1.cell 5
 have d5 : W.cell? ⟨B2, 5, none⟩ = some (.slice Bc mc dc) := HB0.out.2.2.cell 5
 have c6 : W.cell? ⟨B1, 6, none⟩ = some (.int .i64 o.n) := HB0.out.2.1.cell 6
 have d6 : W.cell? ⟨B2, 6, none⟩ = some (.int .i64 p.n) := HB0.out.2.2.cell 6
 go_wp2_with (first
   | (go_at_call 58; (with_reducible refine (YtniaijgejljjbaaGreat.refSame_any o.attrs p.attrs _ _ W (HA.out _ HB0.out.1).1.a (HA.out _ HB0.out.1).2.a (Nat.le_trans HL.out.1.la (by decide)) (Nat.le_trans HL.out.2.la (by decide))).mono ?_); clear c0 d0 c1 d1 c2 d2 c3 d3 c4 d4 c5 d5 c6 d6; rintro e w3 ⟨rfl, hb⟩; dsimp only; rw [HE3.out]; have HC3 := Lib.hid (And.intro (HB0.out.1.trans (hb.mono HB0.out.1.size)) (And.intro (HB0.out.2.1.on hb) (HB0.out.2.2.on hb))); have c0 : w3.cell? ⟨B1, 0, none⟩ = some (.int .i64 o.k) := HC3.out.2.1.cell 0; have d0 : w3.cell? ⟨B2, 0, none⟩ = some (.int .i64 p.k) := HC3.out.2.2.cell 0; have c1 : w3.cell? ⟨B1, 1, none⟩ = some (.string (sx o.name)) := HC3.out.2.1.cell 1; have d1 : w3.cell? ⟨B2, 1, none⟩ = some (.string (sx p.name)) := HC3.out.2.2.cell 1; have c2 : w3.cell? ⟨B1, 2, none⟩ = some (.string (sx o.dst)) := HC3.out.2.1.cell 2; have d2 : w3.cell? ⟨B2, 2, none⟩ = some (.string (sx p.dst)) := HC3.out.2.2.cell 2; have c3 : w3.cell? ⟨B1, 3, none⟩ = some (.slice Aa na ca) := HC3.out.2.1.cell 3; have d3 : w3.cell? ⟨B2, 3, none⟩ = some (.slice Ba ma da) := HC3.out.2.2.cell 3; have c4 : w3.cell? ⟨B1, 4, none⟩ = some (.slice Ap np cp) := HC3.out.2.1.cell 4; have d4 : w3.cell? ⟨B2, 4, none⟩ = some (.slice Bp mp dp) := HC3.out.2.2.cell 4; have c5 : w3.cell? ⟨B1, 5, none⟩ = some (.slice Ac nc cc) := HC3.out.2.1.cell 5; have d5 : w3.cell? ⟨B2, 5, none⟩ = some (.slice Bc mc dc) := HC3.out.2.2.cell 5; have c6 : w3.cell? ⟨B1, 6, none⟩ = some (.int .i64 o.n) := HC3.out.2.1.cell 6; have d6 : w3.cell? ⟨B2, 6, none⟩ = some (.int .i64 p.n) := HC3.out.2.2.cell 6; clear hb))
 go_ret
 exact ⟨rfl, HC3.out.1⟩
set_option maxHeartbeats 4000000 in
theorem rsame5 (o p : Opn) (va vp vc xa xp xc : Value) (w : World) (ho : OpAt w o va vp vc) (hp : OpAt w p xa xp xc) (hl : Lim o) (hl2 : Lim p) (h0 : o.k = p.k) (h1 : o.name = p.name) (h2 : o.dst = p.dst) (h3 : o.attrs = p.attrs) (h4 : o.parts.length = p.parts.length) (h5 : o.cur ≠ p.cur) : Calls Tryz.prog 42 #[opVal o va vp vc, opVal p xa xp xc] w fun e w' => e = .returned (.bool false) ∧ Below w.heap.size w w' := by
 have HL := Lib.hid (And.intro hl hl2)
 have HA := Lib.hid fun (W : World) (hb : Below w.heap.size w W) => And.intro (ho.on hb) (hp.on hb)
 obtain ⟨Aa, ca, na, rfl, _, _⟩ := rdv_len ho.a
 obtain ⟨Ap, cp, np, rfl, HNo, HRo⟩ := ho.p.full
 obtain ⟨Ac, cc, nc, rfl, HCo, HRCo⟩ := ho.c.full
 obtain ⟨Ba, da, ma, rfl, _, _⟩ := rdv_len hp.a
 obtain ⟨Bp, dp, mp, rfl, HNp, HRp⟩ := hp.p.full
 obtain ⟨Bc, dc, mc, rfl, HCp, HRCp⟩ := hp.c.full
 have t0 : (o.k == p.k) = true := by simp [h0]
 have q0 : o.k = p.k := h0
 have t1 : ((sx o.name).toList == (sx p.name).toList) = true := by rw [YtniaijgejljjbaaGreat.sx_beq]; simp [h1]
 have q1 : (sx o.name).toList = (sx p.name).toList := by rw [h1]
 have t2 : ((sx o.dst).toList == (sx p.dst).toList) = true := by rw [YtniaijgejljjbaaGreat.sx_beq]; simp [h2]
 have q2 : (sx o.dst).toList = (sx p.dst).toList := by rw [h2]
 have HE3 : Hid (decide (o.attrs = p.attrs) = true) := Lib.hid (by simp [h3])
 have HE4 : Hid ((o.parts.length == p.parts.length) = true) := Lib.hid (by simp [h4])
 have t5 : ((sx (cx o.cur)).toList == (sx (cx p.cur)).toList) = false := by rw [cx_beq hl.byt hl2.byt]; simp [h5]
 have q5 : ¬ (sx (cx o.cur)).toList = (sx (cx p.cur)).toList := by simpa using t5
 have lq : np = mp := by rw [HNo.out, HNp.out]; exact h4
 subst lq
 have HCV : Hid (∀ W, Below w.heap.size w W → (convert 42 9 (.slice Ac nc cc)).run Tryz.prog W = .ok (.string (sx (cx o.cur))) W ∧ (convert 42 9 (.slice Bc mc dc)).run Tryz.prog W = .ok (.string (sx (cx p.cur))) W) := Lib.hid fun W hb => ⟨conv_bytes ((HRCo.out.1.below hb).more hb.size) HCo.out, conv_bytes ((HRCp.out.1.below hb).more hb.size) HCp.out⟩
 have hb : Below w.heap.size w ((w.alloc (.cells (opCs o (.slice Aa na ca) (.slice Ap np cp) (.slice Ac nc cc)) 44)).alloc (.cells (opCs p (.slice Ba ma da) (.slice Bp np dp) (.slice Bc mc dc)) 44)) := ((Below.refl _ _).alloc (Nat.le_refl _) _).alloc (by simp) _
 have k1 := (Blk.new w 44 (opCs o (.slice Aa na ca) (.slice Ap np cp) (.slice Ac nc cc))).alloc (.cells (opCs p (.slice Ba ma da) (.slice Bp np dp) (.slice Bc mc dc)) 44)
 have k2 := Blk.new (w.alloc (.cells (opCs o (.slice Aa na ca) (.slice Ap np cp) (.slice Ac nc cc)) 44)) 44 (opCs p (.slice Ba ma da) (.slice Bp np dp) (.slice Bc mc dc))
 rw [show (w.alloc (.cells (opCs o (.slice Aa na ca) (.slice Ap np cp) (.slice Ac nc cc)) 44)).heap.size = w.heap.size + 1 from by simp] at k2
 obtain ⟨B1, hB1⟩ : ∃ b, b = w.heap.size := ⟨_, rfl⟩
 obtain ⟨B2, hB2⟩ : ∃ b, b = w.heap.size + 1 := ⟨_, rfl⟩
 have HBB := Lib.hid (And.intro hB1 hB2)
 rw [← hB2] at k2
 have HB0 := Lib.hid (And.intro hb (And.intro (show Blk _ B1 44 _ from hB1 ▸ k1) k2))
 clear hb k1 k2 ho hp hl hl2 h0 h1 h2 h3 h4 h5
 go_enter Tryz.func42, Tryz.ntmps42
 go_upto_region 1 with fail
 rw [← hB2, ← hB1]
 generalize (w.alloc (.cells (opCs o (.slice Aa na ca) (.slice Ap np cp) (.slice Ac nc cc)) 44)).alloc (.cells (opCs p (.slice Ba ma da) (.slice Bp np dp) (.slice Bc mc dc)) 44) = W at HB0 ⊢
 clear hB1 hB2
 have HB1 := Lib.hid HB0.out
 have c0 : W.cell? ⟨B1, 0, none⟩ = some (.int .i64 o.k) := HB0.out.2.1.cell 0
 have d0 : W.cell? ⟨B2, 0, none⟩ = some (.int .i64 p.k) := HB0.out.2.2.cell 0
 have c1 : W.cell? ⟨B1, 1, none⟩ = some (.string (sx o.name)) := HB0.out.2.1.cell 1
 have d1 : W.cell? ⟨B2, 1, none⟩ = some (.string (sx p.name)) := HB0.out.2.2.cell 1
 have c2 : W.cell? ⟨B1, 2, none⟩ = some (.string (sx o.dst)) := HB0.out.2.1.cell 2
 have d2 : W.cell? ⟨B2, 2, none⟩ = some (.string (sx p.dst)) := HB0.out.2.2.cell 2
 have c3 : W.cell? ⟨B1, 3, none⟩ = some (.slice Aa na ca) := HB0.out.2.1.cell 3
 have d3 : W.cell? ⟨B2, 3, none⟩ = some (.slice Ba ma da) := HB0.out.2.2.cell 3
 have c4 : W.cell? ⟨B1, 4, none⟩ = some (.slice Ap np cp) := HB0.out.2.1.cell 4
 have d4 : W.cell? ⟨B2, 4, none⟩ = some (.slice Bp np dp) := HB0.out.2.2.cell 4
 have c5 : W.cell? ⟨B1, 5, none⟩ = some (.slice Ac nc cc) := HB0.out.2.1.cell 5
 have d5 : W.cell? ⟨B2, 5, none⟩ = some (.slice Bc mc dc) := HB0.out.2.2.cell 5
 have c6 : W.cell? ⟨B1, 6, none⟩ = some (.int .i64 o.n) := HB0.out.2.1.cell 6
 have d6 : W.cell? ⟨B2, 6, none⟩ = some (.int .i64 p.n) := HB0.out.2.2.cell 6
 go_wp2_with (first
   | (go_at_call 58; (with_reducible refine (YtniaijgejljjbaaGreat.refSame_any o.attrs p.attrs _ _ W (HA.out _ HB0.out.1).1.a (HA.out _ HB0.out.1).2.a (Nat.le_trans HL.out.1.la (by decide)) (Nat.le_trans HL.out.2.la (by decide))).mono ?_); clear c0 d0 c1 d1 c2 d2 c3 d3 c4 d4 c5 d5 c6 d6; rintro e w3 ⟨rfl, hb⟩; dsimp only; rw [HE3.out]; have HC3 := Lib.hid (And.intro (HB0.out.1.trans (hb.mono HB0.out.1.size)) (And.intro (HB0.out.2.1.on hb) (HB0.out.2.2.on hb))); have c0 : w3.cell? ⟨B1, 0, none⟩ = some (.int .i64 o.k) := HC3.out.2.1.cell 0; have d0 : w3.cell? ⟨B2, 0, none⟩ = some (.int .i64 p.k) := HC3.out.2.2.cell 0; have c1 : w3.cell? ⟨B1, 1, none⟩ = some (.string (sx o.name)) := HC3.out.2.1.cell 1; have d1 : w3.cell? ⟨B2, 1, none⟩ = some (.string (sx p.name)) := HC3.out.2.2.cell 1; have c2 : w3.cell? ⟨B1, 2, none⟩ = some (.string (sx o.dst)) := HC3.out.2.1.cell 2; have d2 : w3.cell? ⟨B2, 2, none⟩ = some (.string (sx p.dst)) := HC3.out.2.2.cell 2; have c3 : w3.cell? ⟨B1, 3, none⟩ = some (.slice Aa na ca) := HC3.out.2.1.cell 3; have d3 : w3.cell? ⟨B2, 3, none⟩ = some (.slice Ba ma da) := HC3.out.2.2.cell 3; have c4 : w3.cell? ⟨B1, 4, none⟩ = some (.slice Ap np cp) := HC3.out.2.1.cell 4; have d4 : w3.cell? ⟨B2, 4, none⟩ = some (.slice Bp np dp) := HC3.out.2.2.cell 4; have c5 : w3.cell? ⟨B1, 5, none⟩ = some (.slice Ac nc cc) := HC3.out.2.1.cell 5; have d5 : w3.cell? ⟨B2, 5, none⟩ = some (.slice Bc mc dc) := HC3.out.2.2.cell 5; have c6 : w3.cell? ⟨B1, 6, none⟩ = some (.int .i64 o.n) := HC3.out.2.1.cell 6; have d6 : w3.cell? ⟨B2, 6, none⟩ = some (.int .i64 p.n) := HC3.out.2.2.cell 6; have cvo := (HCV.out _ HC3.out.1).1; have cvp := (HCV.out _ HC3.out.1).2; clear hb))
 go_ret
 exact ⟨rfl, HC3.out.1⟩
set_option maxHeartbeats 4000000 in
theorem rsame6 (o p : Opn) (va vp vc xa xp xc : Value) (w : World) (ho : OpAt w o va vp vc) (hp : OpAt w p xa xp xc) (hl : Lim o) (hl2 : Lim p) (h0 : o.k = p.k) (h1 : o.name = p.name) (h2 : o.dst = p.dst) (h3 : o.attrs = p.attrs) (h4 : o.parts.length = p.parts.length) (h5 : o.cur = p.cur) (h6 : o.n ≠ p.n) : Calls Tryz.prog 42 #[opVal o va vp vc, opVal p xa xp xc] w fun e w' => e = .returned (.bool false) ∧ Below w.heap.size w w' := by
 have HL := Lib.hid (And.intro hl hl2)
 have HA := Lib.hid fun (W : World) (hb : Below w.heap.size w W) => And.intro (ho.on hb) (hp.on hb)
 obtain ⟨Aa, ca, na, rfl, _, _⟩ := rdv_len ho.a
 obtain ⟨Ap, cp, np, rfl, HNo, HRo⟩ := ho.p.full
 obtain ⟨Ac, cc, nc, rfl, HCo, HRCo⟩ := ho.c.full
 obtain ⟨Ba, da, ma, rfl, _, _⟩ := rdv_len hp.a
 obtain ⟨Bp, dp, mp, rfl, HNp, HRp⟩ := hp.p.full
 obtain ⟨Bc, dc, mc, rfl, HCp, HRCp⟩ := hp.c.full
 have t0 : (o.k == p.k) = true := by simp [h0]
 have q0 : o.k = p.k := h0
 have t1 : ((sx o.name).toList == (sx p.name).toList) = true := by rw [YtniaijgejljjbaaGreat.sx_beq]; simp [h1]
 have q1 : (sx o.name).toList = (sx p.name).toList := by rw [h1]
 have t2 : ((sx o.dst).toList == (sx p.dst).toList) = true := by rw [YtniaijgejljjbaaGreat.sx_beq]; simp [h2]
 have q2 : (sx o.dst).toList = (sx p.dst).toList := by rw [h2]
 have HE3 : Hid (decide (o.attrs = p.attrs) = true) := Lib.hid (by simp [h3])
 have HE4 : Hid ((o.parts.length == p.parts.length) = true) := Lib.hid (by simp [h4])
 have t5 : ((sx (cx o.cur)).toList == (sx (cx p.cur)).toList) = true := by rw [cx_beq hl.byt hl2.byt]; simp [h5]
 have q5 : (sx (cx o.cur)).toList = (sx (cx p.cur)).toList := by simpa using t5
 have t6 : (o.n == p.n) = false := by simp [h6]
 have q6 : ¬ o.n = p.n := h6
 have lq : np = mp := by rw [HNo.out, HNp.out]; exact h4
 subst lq
 have HCV : Hid (∀ W, Below w.heap.size w W → (convert 42 9 (.slice Ac nc cc)).run Tryz.prog W = .ok (.string (sx (cx o.cur))) W ∧ (convert 42 9 (.slice Bc mc dc)).run Tryz.prog W = .ok (.string (sx (cx p.cur))) W) := Lib.hid fun W hb => ⟨conv_bytes ((HRCo.out.1.below hb).more hb.size) HCo.out, conv_bytes ((HRCp.out.1.below hb).more hb.size) HCp.out⟩
 have hb : Below w.heap.size w ((w.alloc (.cells (opCs o (.slice Aa na ca) (.slice Ap np cp) (.slice Ac nc cc)) 44)).alloc (.cells (opCs p (.slice Ba ma da) (.slice Bp np dp) (.slice Bc mc dc)) 44)) := ((Below.refl _ _).alloc (Nat.le_refl _) _).alloc (by simp) _
 have k1 := (Blk.new w 44 (opCs o (.slice Aa na ca) (.slice Ap np cp) (.slice Ac nc cc))).alloc (.cells (opCs p (.slice Ba ma da) (.slice Bp np dp) (.slice Bc mc dc)) 44)
 have k2 := Blk.new (w.alloc (.cells (opCs o (.slice Aa na ca) (.slice Ap np cp) (.slice Ac nc cc)) 44)) 44 (opCs p (.slice Ba ma da) (.slice Bp np dp) (.slice Bc mc dc))
 rw [show (w.alloc (.cells (opCs o (.slice Aa na ca) (.slice Ap np cp) (.slice Ac nc cc)) 44)).heap.size = w.heap.size + 1 from by simp] at k2
 obtain ⟨B1, hB1⟩ : ∃ b, b = w.heap.size := ⟨_, rfl⟩
 obtain ⟨B2, hB2⟩ : ∃ b, b = w.heap.size + 1 := ⟨_, rfl⟩
 have HBB := Lib.hid (And.intro hB1 hB2)
 rw [← hB2] at k2
 have HB0 := Lib.hid (And.intro hb (And.intro (show Blk _ B1 44 _ from hB1 ▸ k1) k2))
 clear hb k1 k2 ho hp hl hl2 h0 h1 h2 h3 h4 h5 h6
 go_enter Tryz.func42, Tryz.ntmps42
 go_upto_region 1 with fail
 rw [← hB2, ← hB1]
 generalize (w.alloc (.cells (opCs o (.slice Aa na ca) (.slice Ap np cp) (.slice Ac nc cc)) 44)).alloc (.cells (opCs p (.slice Ba ma da) (.slice Bp np dp) (.slice Bc mc dc)) 44) = W at HB0 ⊢
 clear hB1 hB2
 have HB1 := Lib.hid HB0.out
 have c0 : W.cell? ⟨B1, 0, none⟩ = some (.int .i64 o.k) := HB0.out.2.1.cell 0
 have d0 : W.cell? ⟨B2, 0, none⟩ = some (.int .i64 p.k) := HB0.out.2.2.cell 0
 have c1 : W.cell? ⟨B1, 1, none⟩ = some (.string (sx o.name)) := HB0.out.2.1.cell 1
 have d1 : W.cell? ⟨B2, 1, none⟩ = some (.string (sx p.name)) := HB0.out.2.2.cell 1
 have c2 : W.cell? ⟨B1, 2, none⟩ = some (.string (sx o.dst)) := HB0.out.2.1.cell 2
 have d2 : W.cell? ⟨B2, 2, none⟩ = some (.string (sx p.dst)) := HB0.out.2.2.cell 2
 have c3 : W.cell? ⟨B1, 3, none⟩ = some (.slice Aa na ca) := HB0.out.2.1.cell 3
 have d3 : W.cell? ⟨B2, 3, none⟩ = some (.slice Ba ma da) := HB0.out.2.2.cell 3
 have c4 : W.cell? ⟨B1, 4, none⟩ = some (.slice Ap np cp) := HB0.out.2.1.cell 4
 have d4 : W.cell? ⟨B2, 4, none⟩ = some (.slice Bp np dp) := HB0.out.2.2.cell 4
 have c5 : W.cell? ⟨B1, 5, none⟩ = some (.slice Ac nc cc) := HB0.out.2.1.cell 5
 have d5 : W.cell? ⟨B2, 5, none⟩ = some (.slice Bc mc dc) := HB0.out.2.2.cell 5
 have c6 : W.cell? ⟨B1, 6, none⟩ = some (.int .i64 o.n) := HB0.out.2.1.cell 6
 have d6 : W.cell? ⟨B2, 6, none⟩ = some (.int .i64 p.n) := HB0.out.2.2.cell 6
 go_wp2_with (first
   | (go_at_call 58; (with_reducible refine (YtniaijgejljjbaaGreat.refSame_any o.attrs p.attrs _ _ W (HA.out _ HB0.out.1).1.a (HA.out _ HB0.out.1).2.a (Nat.le_trans HL.out.1.la (by decide)) (Nat.le_trans HL.out.2.la (by decide))).mono ?_); clear c0 d0 c1 d1 c2 d2 c3 d3 c4 d4 c5 d5 c6 d6; rintro e w3 ⟨rfl, hb⟩; dsimp only; rw [HE3.out]; have HC3 := Lib.hid (And.intro (HB0.out.1.trans (hb.mono HB0.out.1.size)) (And.intro (HB0.out.2.1.on hb) (HB0.out.2.2.on hb))); have c0 : w3.cell? ⟨B1, 0, none⟩ = some (.int .i64 o.k) := HC3.out.2.1.cell 0; have d0 : w3.cell? ⟨B2, 0, none⟩ = some (.int .i64 p.k) := HC3.out.2.2.cell 0; have c1 : w3.cell? ⟨B1, 1, none⟩ = some (.string (sx o.name)) := HC3.out.2.1.cell 1; have d1 : w3.cell? ⟨B2, 1, none⟩ = some (.string (sx p.name)) := HC3.out.2.2.cell 1; have c2 : w3.cell? ⟨B1, 2, none⟩ = some (.string (sx o.dst)) := HC3.out.2.1.cell 2; have d2 : w3.cell? ⟨B2, 2, none⟩ = some (.string (sx p.dst)) := HC3.out.2.2.cell 2; have c3 : w3.cell? ⟨B1, 3, none⟩ = some (.slice Aa na ca) := HC3.out.2.1.cell 3; have d3 : w3.cell? ⟨B2, 3, none⟩ = some (.slice Ba ma da) := HC3.out.2.2.cell 3; have c4 : w3.cell? ⟨B1, 4, none⟩ = some (.slice Ap np cp) := HC3.out.2.1.cell 4; have d4 : w3.cell? ⟨B2, 4, none⟩ = some (.slice Bp np dp) := HC3.out.2.2.cell 4; have c5 : w3.cell? ⟨B1, 5, none⟩ = some (.slice Ac nc cc) := HC3.out.2.1.cell 5; have d5 : w3.cell? ⟨B2, 5, none⟩ = some (.slice Bc mc dc) := HC3.out.2.2.cell 5; have c6 : w3.cell? ⟨B1, 6, none⟩ = some (.int .i64 o.n) := HC3.out.2.1.cell 6; have d6 : w3.cell? ⟨B2, 6, none⟩ = some (.int .i64 p.n) := HC3.out.2.2.cell 6; have cvo := (HCV.out _ HC3.out.1).1; have cvp := (HCV.out _ HC3.out.1).2; clear hb))
 go_ret
 exact ⟨rfl, HC3.out.1⟩
set_option maxHeartbeats 4000000 in
theorem rsame7 (o p : Opn) (va vp vc xa xp xc : Value) (w : World) (ho : OpAt w o va vp vc) (hp : OpAt w p xa xp xc) (hl : Lim o) (hl2 : Lim p) (h0 : o.k = p.k) (h1 : o.name = p.name) (h2 : o.dst = p.dst) (h3 : o.attrs = p.attrs) (h4 : o.parts.length = p.parts.length) (h5 : o.cur = p.cur) (h6 : o.n = p.n) : Calls Tryz.prog 42 #[opVal o va vp vc, opVal p xa xp xc] w fun e w' => e = .returned (.bool (decide (o.parts = p.parts))) ∧ Below w.heap.size w w' := by
 have HL := Lib.hid (And.intro hl hl2)
 have HA := Lib.hid fun (W : World) (hb : Below w.heap.size w W) => And.intro (ho.on hb) (hp.on hb)
 obtain ⟨Aa, ca, na, rfl, _, _⟩ := rdv_len ho.a
 obtain ⟨Ap, cp, np, rfl, HNo, HRo⟩ := ho.p.full
 obtain ⟨Ac, cc, nc, rfl, HCo, HRCo⟩ := ho.c.full
 obtain ⟨Ba, da, ma, rfl, _, _⟩ := rdv_len hp.a
 obtain ⟨Bp, dp, mp, rfl, HNp, HRp⟩ := hp.p.full
 obtain ⟨Bc, dc, mc, rfl, HCp, HRCp⟩ := hp.c.full
 have t0 : (o.k == p.k) = true := by simp [h0]
 have q0 : o.k = p.k := h0
 have t1 : ((sx o.name).toList == (sx p.name).toList) = true := by rw [YtniaijgejljjbaaGreat.sx_beq]; simp [h1]
 have q1 : (sx o.name).toList = (sx p.name).toList := by rw [h1]
 have t2 : ((sx o.dst).toList == (sx p.dst).toList) = true := by rw [YtniaijgejljjbaaGreat.sx_beq]; simp [h2]
 have q2 : (sx o.dst).toList = (sx p.dst).toList := by rw [h2]
 have HE3 : Hid (decide (o.attrs = p.attrs) = true) := Lib.hid (by simp [h3])
 have HE4 : Hid ((o.parts.length == p.parts.length) = true) := Lib.hid (by simp [h4])
 have t5 : ((sx (cx o.cur)).toList == (sx (cx p.cur)).toList) = true := by rw [cx_beq hl.byt hl2.byt]; simp [h5]
 have q5 : (sx (cx o.cur)).toList = (sx (cx p.cur)).toList := by simpa using t5
 have t6 : (o.n == p.n) = true := by simp [h6]
 have q6 : o.n = p.n := h6
 have lq : np = mp := by rw [HNo.out, HNp.out]; exact h4
 subst lq
 have HCV : Hid (∀ W, Below w.heap.size w W → (convert 42 9 (.slice Ac nc cc)).run Tryz.prog W = .ok (.string (sx (cx o.cur))) W ∧ (convert 42 9 (.slice Bc mc dc)).run Tryz.prog W = .ok (.string (sx (cx p.cur))) W) := Lib.hid fun W hb => ⟨conv_bytes ((HRCo.out.1.below hb).more hb.size) HCo.out, conv_bytes ((HRCp.out.1.below hb).more hb.size) HCp.out⟩
 have hb : Below w.heap.size w ((w.alloc (.cells (opCs o (.slice Aa na ca) (.slice Ap np cp) (.slice Ac nc cc)) 44)).alloc (.cells (opCs p (.slice Ba ma da) (.slice Bp np dp) (.slice Bc mc dc)) 44)) := ((Below.refl _ _).alloc (Nat.le_refl _) _).alloc (by simp) _
 have k1 := (Blk.new w 44 (opCs o (.slice Aa na ca) (.slice Ap np cp) (.slice Ac nc cc))).alloc (.cells (opCs p (.slice Ba ma da) (.slice Bp np dp) (.slice Bc mc dc)) 44)
 have k2 := Blk.new (w.alloc (.cells (opCs o (.slice Aa na ca) (.slice Ap np cp) (.slice Ac nc cc)) 44)) 44 (opCs p (.slice Ba ma da) (.slice Bp np dp) (.slice Bc mc dc))
 rw [show (w.alloc (.cells (opCs o (.slice Aa na ca) (.slice Ap np cp) (.slice Ac nc cc)) 44)).heap.size = w.heap.size + 1 from by simp] at k2
 obtain ⟨B1, hB1⟩ : ∃ b, b = w.heap.size := ⟨_, rfl⟩
 obtain ⟨B2, hB2⟩ : ∃ b, b = w.heap.size + 1 := ⟨_, rfl⟩
 have HBB := Lib.hid (And.intro hB1 hB2)
 rw [← hB2] at k2
 have HB0 := Lib.hid (And.intro hb (And.intro (show Blk _ B1 44 _ from hB1 ▸ k1) k2))
 clear hb k1 k2 ho hp hl hl2 h0 h1 h2 h3 h4 h5 h6
 go_enter Tryz.func42, Tryz.ntmps42
 go_upto_region 1 with fail
 rw [← hB2, ← hB1]
 generalize (w.alloc (.cells (opCs o (.slice Aa na ca) (.slice Ap np cp) (.slice Ac nc cc)) 44)).alloc (.cells (opCs p (.slice Ba ma da) (.slice Bp np dp) (.slice Bc mc dc)) 44) = W at HB0 ⊢
 clear hB1 hB2
 have HB1 := Lib.hid HB0.out
 have c0 : W.cell? ⟨B1, 0, none⟩ = some (.int .i64 o.k) := HB0.out.2.1.cell 0
 have d0 : W.cell? ⟨B2, 0, none⟩ = some (.int .i64 p.k) := HB0.out.2.2.cell 0
 have c1 : W.cell? ⟨B1, 1, none⟩ = some (.string (sx o.name)) := HB0.out.2.1.cell 1
 have d1 : W.cell? ⟨B2, 1, none⟩ = some (.string (sx p.name)) := HB0.out.2.2.cell 1
 have c2 : W.cell? ⟨B1, 2, none⟩ = some (.string (sx o.dst)) := HB0.out.2.1.cell 2
 have d2 : W.cell? ⟨B2, 2, none⟩ = some (.string (sx p.dst)) := HB0.out.2.2.cell 2
 have c3 : W.cell? ⟨B1, 3, none⟩ = some (.slice Aa na ca) := HB0.out.2.1.cell 3
 have d3 : W.cell? ⟨B2, 3, none⟩ = some (.slice Ba ma da) := HB0.out.2.2.cell 3
 have c4 : W.cell? ⟨B1, 4, none⟩ = some (.slice Ap np cp) := HB0.out.2.1.cell 4
 have d4 : W.cell? ⟨B2, 4, none⟩ = some (.slice Bp np dp) := HB0.out.2.2.cell 4
 have c5 : W.cell? ⟨B1, 5, none⟩ = some (.slice Ac nc cc) := HB0.out.2.1.cell 5
 have d5 : W.cell? ⟨B2, 5, none⟩ = some (.slice Bc mc dc) := HB0.out.2.2.cell 5
 have c6 : W.cell? ⟨B1, 6, none⟩ = some (.int .i64 o.n) := HB0.out.2.1.cell 6
 have d6 : W.cell? ⟨B2, 6, none⟩ = some (.int .i64 p.n) := HB0.out.2.2.cell 6
 go_wp2_with (first
   | (go_at_call 58; (with_reducible refine (YtniaijgejljjbaaGreat.refSame_any o.attrs p.attrs _ _ W (HA.out _ HB0.out.1).1.a (HA.out _ HB0.out.1).2.a (Nat.le_trans HL.out.1.la (by decide)) (Nat.le_trans HL.out.2.la (by decide))).mono ?_); clear c0 d0 c1 d1 c2 d2 c3 d3 c4 d4 c5 d5 c6 d6; rintro e w3 ⟨rfl, hb⟩; dsimp only; rw [HE3.out]; have HC3 := Lib.hid (And.intro (HB0.out.1.trans (hb.mono HB0.out.1.size)) (And.intro (HB0.out.2.1.on hb) (HB0.out.2.2.on hb))); have c0 : w3.cell? ⟨B1, 0, none⟩ = some (.int .i64 o.k) := HC3.out.2.1.cell 0; have d0 : w3.cell? ⟨B2, 0, none⟩ = some (.int .i64 p.k) := HC3.out.2.2.cell 0; have c1 : w3.cell? ⟨B1, 1, none⟩ = some (.string (sx o.name)) := HC3.out.2.1.cell 1; have d1 : w3.cell? ⟨B2, 1, none⟩ = some (.string (sx p.name)) := HC3.out.2.2.cell 1; have c2 : w3.cell? ⟨B1, 2, none⟩ = some (.string (sx o.dst)) := HC3.out.2.1.cell 2; have d2 : w3.cell? ⟨B2, 2, none⟩ = some (.string (sx p.dst)) := HC3.out.2.2.cell 2; have c3 : w3.cell? ⟨B1, 3, none⟩ = some (.slice Aa na ca) := HC3.out.2.1.cell 3; have d3 : w3.cell? ⟨B2, 3, none⟩ = some (.slice Ba ma da) := HC3.out.2.2.cell 3; have c4 : w3.cell? ⟨B1, 4, none⟩ = some (.slice Ap np cp) := HC3.out.2.1.cell 4; have d4 : w3.cell? ⟨B2, 4, none⟩ = some (.slice Bp np dp) := HC3.out.2.2.cell 4; have c5 : w3.cell? ⟨B1, 5, none⟩ = some (.slice Ac nc cc) := HC3.out.2.1.cell 5; have d5 : w3.cell? ⟨B2, 5, none⟩ = some (.slice Bc mc dc) := HC3.out.2.2.cell 5; have c6 : w3.cell? ⟨B1, 6, none⟩ = some (.int .i64 o.n) := HC3.out.2.1.cell 6; have d6 : w3.cell? ⟨B2, 6, none⟩ = some (.int .i64 p.n) := HC3.out.2.2.cell 6; have cvo := (HCV.out _ HC3.out.1).1; have cvp := (HCV.out _ HC3.out.1).2; clear hb))
 clear cvo cvp t0 t1 t2 t5 t6 q0 q1 q2 q5 q6 c0 d0 c1 d1 c2 d2 c3 d3 c4 d4 c5 d5 c6 d6
 have hnp : np ≤ 1000000 := by rw [HNo.out]; exact HL.out.1.lp
 go_loopw [5] (fun i wr => ∃ k : Nat, i = .int .i64 k ∧ k ≤ np ∧ Hid (Below w.heap.size w wr ∧ Blk wr B1 44 (opCs o (.slice Aa na ca) (.slice Ap np cp) (.slice Ac nc cc)) ∧ Blk wr B2 44 (opCs p (.slice Ba ma da) (.slice Bp np dp) (.slice Bc mc dc))) ∧ Hid (∀ j, j < k → o.parts.getD j default = p.parts.getD j default)) (fun i _ => np - (intOf i).toNat)
 case atStart => exact ⟨0, rfl, Nat.zero_le _, Lib.hid HC3.out, Lib.hid fun j hj => absurd hj (Nat.not_lt_zero _)⟩
 case round =>
   obtain ⟨k, rfl, hk, HB, HJ⟩ := hrel
   have c4 : wr.cell? ⟨B1, 4, none⟩ = some (.slice Ap np cp) := HB.out.2.1.cell 4
   have d4 : wr.cell? ⟨B2, 4, none⟩ = some (.slice Bp np dp) := HB.out.2.2.cell 4
   by_cases hlt : k < np
   · obtain ⟨b1, o1, rfl, _, c0⟩ := str_cell HRo.out HB.out.1 (show k < o.parts.length by have := HNo.out; omega)
     obtain ⟨b2, o2, rfl, _, d0⟩ := str_cell HRp.out HB.out.1 (show k < p.parts.length by have := HNp.out; omega)
     have g1 := YtniaijgejljjbaaGreat.sx_beq (o.parts.getD k default) (p.parts.getD k default)
     generalize hx : o.parts.getD k default = x at c0 g1
     generalize hy : p.parts.getD k default = y at d0 g1
     have HXY := Lib.hid (And.intro hx hy)
     clear hx hy
     generalize hxy : decide (x = y) = bb at g1
     cases bb with
     | true =>
       have HE := Lib.hid (of_decide_eq_true hxy)
       clear hxy
       go_wp2_with fail
       go_region
       go_wp2
       go_roundw
       case rel => exact ⟨k + 1, by go_num, by omega, Lib.hid ⟨below_drew HB.out.1, HB.out.2.1.drew, HB.out.2.2.drew⟩, Lib.hid fun j hj => by
         by_cases e : j = k
         · subst e; rw [HXY.out.1, HXY.out.2]; exact HE.out
         · exact HJ.out j (by omega)⟩
       case measure => simp [intOf]; omega
     | false =>
       have HF : Hid (decide (o.parts = p.parts) = false) := Lib.hid (decide_eq_false (ne_getS (k := k) (by rw [HXY.out.1, HXY.out.2]; exact of_decide_eq_false hxy)))
       clear hxy
       go_wp2_with fail
       go_region
       go_wp2
       go_ret
       exact ⟨by rw [HF.out]; rfl, below_drew HB.out.1⟩
   · have hkn : k = np := by omega
     have HF : Hid (decide (o.parts = p.parts) = true) := Lib.hid (decide_eq_true (ext_getS (by rw [← HNo.out, ← HNp.out]) (by rw [← HNo.out, ← hkn]; exact HJ.out)))
     go_wp2
     go_ret
     exact ⟨by rw [HF.out]; rfl, HB.out.1⟩
theorem refSameOp_any (o p : Opn) (va vp vc xa xp xc : Value) (w : World) (ho : OpAt w o va vp vc) (hp : OpAt w p xa xp xc) (hl : Lim o) (hl2 : Lim p) : Calls Tryz.prog 42 #[opVal o va vp vc, opVal p xa xp xc] w fun e w' => e = .returned (.bool (sameO o p)) ∧ Below w.heap.size w w' := by
 by_cases h0 : o.k = p.k
 rotate_left
 · have e : sameO o p = false := by simp [sameO, h0]
   rw [e]
   exact rsame0 o p va vp vc xa xp xc w ho hp hl hl2 h0
 by_cases h1 : o.name = p.name
 rotate_left
 · have e : sameO o p = false := by simp [sameO, h1]
   rw [e]
   exact rsame1 o p va vp vc xa xp xc w ho hp hl hl2 h0 h1
 by_cases h2 : o.dst = p.dst
 rotate_left
 · have e : sameO o p = false := by simp [sameO, h2]
   rw [e]
   exact rsame2 o p va vp vc xa xp xc w ho hp hl hl2 h0 h1 h2
 by_cases h3 : o.attrs = p.attrs
 rotate_left
 · have e : sameO o p = false := by simp [sameO, h3]
   rw [e]
   exact rsame3 o p va vp vc xa xp xc w ho hp hl hl2 h0 h1 h2 h3
 by_cases h4 : o.parts.length = p.parts.length
 rotate_left
 · have e : sameO o p = false := by simp [sameO, show o.parts ≠ p.parts from fun e => h4 (by rw [e])]
   rw [e]
   exact rsame4 o p va vp vc xa xp xc w ho hp hl hl2 h0 h1 h2 h3 h4
 by_cases h5 : o.cur = p.cur
 rotate_left
 · have e : sameO o p = false := by simp [sameO, h5]
   rw [e]
   exact rsame5 o p va vp vc xa xp xc w ho hp hl hl2 h0 h1 h2 h3 h4 h5
 by_cases h6 : o.n = p.n
 rotate_left
 · have e : sameO o p = false := by simp [sameO, h6]
   rw [e]
   exact rsame6 o p va vp vc xa xp xc w ho hp hl hl2 h0 h1 h2 h3 h4 h5 h6
 have e : sameO o p = decide (o.parts = p.parts) := by simp [sameO, h0, h1, h2, h3, h5, h6]
 rw [e]
 exact rsame7 o p va vp vc xa xp xc w ho hp hl hl2 h0 h1 h2 h3 h4 h5 h6
end Go.Proofs.YtniaijgejljjbaaGreat.Tlv
