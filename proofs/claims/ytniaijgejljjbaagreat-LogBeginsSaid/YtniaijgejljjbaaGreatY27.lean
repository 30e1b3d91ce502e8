/- A request: its value, may it be, and are two the same; by the program and by the document. Where the operations are such as the chapter's laws hand. -/
import Derived.Test.YtniaijgejljjbaaGreatY21
import Derived.Test.YtniaijgejljjbaaGreatY26
namespace Go.Proofs.YtniaijgejljjbaaGreat.Tlv
open Go.RowKit
set_option maxRecDepth 100000
set_option linter.unusedVariables false
set_option linter.unusedSimpArgs false
abbrev rqCs (c n : Int) (o : Opn) (va vp vc : Value) : Array Value := #[.int .u64 c, .int .u64 n, .int .i64 o.k, .string (sx o.name), .string (sx o.dst), va, vp, vc, .int .i64 o.n]
abbrev rqVal (c n : Int) (o : Opn) (va vp vc : Value) : Value := .agg (rqCs c n o va vp vc)
theorem rq_cells {W : World} {B : Nat} {c n : Int} {o : Opn} {va vp vc : Value} (h : Blk W B 46 (rqCs c n o va vp vc)) : W.cell? ⟨B, 0, none⟩ = some (.int .u64 c) ∧ W.cell? ⟨B, 1, none⟩ = some (.int .u64 n) ∧ W.cell? ⟨B, 2, none⟩ = some (.int .i64 o.k) ∧ W.cell? ⟨B, 3, none⟩ = some (.string (sx o.name)) ∧ W.cell? ⟨B, 4, none⟩ = some (.string (sx o.dst)) ∧ W.cell? ⟨B, 5, none⟩ = some va ∧ W.cell? ⟨B, 6, none⟩ = some vp ∧ W.cell? ⟨B, 7, none⟩ = some vc ∧ W.cell? ⟨B, 8, none⟩ = some (.int .i64 o.n) :=
 ⟨h.cell 0, h.cell 1, h.cell 2, h.cell 3, h.cell 4, h.cell 5, h.cell 6, h.cell 7, h.cell 8⟩
def sameRq (c n : Int) (o : Opn) (c2 n2 : Int) (p : Opn) : Bool := decide (c = c2) && decide (n = n2) && sameO o p
set_option maxHeartbeats 8000000 in
theorem sameRqP0 (c n c2 n2 : Int) (o p : Opn) (va vp vc xa xp xc : Value) (w : World) (ho : OpAt w o va vp vc) (hp : OpAt w p xa xp xc) (hl : Lim o) (hl2 : Lim p) (h : c ≠ c2) : Calls Tryz.prog 24 #[rqVal c n o va vp vc, rqVal c2 n2 p xa xp xc] w fun e w' => e = .returned (.bool (false)) ∧ Below w.heap.size w w' := by
 obtain ⟨Aa, ca, na, rfl, _, _⟩ := rdv_len ho.a
 obtain ⟨Ap, cp, np, rfl⟩ := ho.p.len
 obtain ⟨Ac, cc, nc, rfl, _⟩ := ho.c.len
 obtain ⟨Ba, da, ma, rfl, _, _⟩ := rdv_len hp.a
 obtain ⟨Bp, dp, mp, rfl⟩ := hp.p.len
 obtain ⟨Bc, dc, mc, rfl, _⟩ := hp.c.len
 have hb1 := ((Below.refl w.heap.size w).alloc (Nat.le_refl _) (.cells (rqCs c n o (.slice Aa na ca) (.slice Ap np cp) (.slice Ac nc cc)) 46)).alloc (by simp) (.cells (rqCs c2 n2 p (.slice Ba ma da) (.slice Bp mp dp) (.slice Bc mc dc)) 46)
 have kA := (Blk.new w 46 (rqCs c n o (.slice Aa na ca) (.slice Ap np cp) (.slice Ac nc cc))).alloc (.cells (rqCs c2 n2 p (.slice Ba ma da) (.slice Bp mp dp) (.slice Bc mc dc)) 46)
 have kB := Blk.new (w.alloc (.cells (rqCs c n o (.slice Aa na ca) (.slice Ap np cp) (.slice Ac nc cc)) 46)) 46 (rqCs c2 n2 p (.slice Ba ma da) (.slice Bp mp dp) (.slice Bc mc dc))
 rw [World.size_alloc] at kB
 have HM := Lib.hid (sameOp_any o p _ _ _ _ _ _ _ (ho.on hb1) (hp.on hb1) hl hl2)
 have HB := Lib.hid hb1
 obtain ⟨a0, a1, a2, a3, a4, a5, a6, a7, a8⟩ := rq_cells kA
 obtain ⟨b0, b1, b2, b3, b4, b5, b6, b7, b8⟩ := rq_cells kB
 clear hb1 kA kB
 have e1 : ¬ (c = c2) := h
 go_enter Tryz.func24, Tryz.ntmps24
 go_wp2
 go_ret
 exact ⟨by simp [e1], HB.out⟩
set_option maxHeartbeats 8000000 in
theorem sameRqP1 (c n c2 n2 : Int) (o p : Opn) (va vp vc xa xp xc : Value) (w : World) (ho : OpAt w o va vp vc) (hp : OpAt w p xa xp xc) (hl : Lim o) (hl2 : Lim p) (h0 : c = c2) (h : n ≠ n2) : Calls Tryz.prog 24 #[rqVal c n o va vp vc, rqVal c2 n2 p xa xp xc] w fun e w' => e = .returned (.bool (false)) ∧ Below w.heap.size w w' := by
 obtain ⟨Aa, ca, na, rfl, _, _⟩ := rdv_len ho.a
 obtain ⟨Ap, cp, np, rfl⟩ := ho.p.len
 obtain ⟨Ac, cc, nc, rfl, _⟩ := ho.c.len
 obtain ⟨Ba, da, ma, rfl, _, _⟩ := rdv_len hp.a
 obtain ⟨Bp, dp, mp, rfl⟩ := hp.p.len
 obtain ⟨Bc, dc, mc, rfl, _⟩ := hp.c.len
 have hb1 := ((Below.refl w.heap.size w).alloc (Nat.le_refl _) (.cells (rqCs c n o (.slice Aa na ca) (.slice Ap np cp) (.slice Ac nc cc)) 46)).alloc (by simp) (.cells (rqCs c2 n2 p (.slice Ba ma da) (.slice Bp mp dp) (.slice Bc mc dc)) 46)
 have kA := (Blk.new w 46 (rqCs c n o (.slice Aa na ca) (.slice Ap np cp) (.slice Ac nc cc))).alloc (.cells (rqCs c2 n2 p (.slice Ba ma da) (.slice Bp mp dp) (.slice Bc mc dc)) 46)
 have kB := Blk.new (w.alloc (.cells (rqCs c n o (.slice Aa na ca) (.slice Ap np cp) (.slice Ac nc cc)) 46)) 46 (rqCs c2 n2 p (.slice Ba ma da) (.slice Bp mp dp) (.slice Bc mc dc))
 rw [World.size_alloc] at kB
 have HM := Lib.hid (sameOp_any o p _ _ _ _ _ _ _ (ho.on hb1) (hp.on hb1) hl hl2)
 have HB := Lib.hid hb1
 obtain ⟨a0, a1, a2, a3, a4, a5, a6, a7, a8⟩ := rq_cells kA
 obtain ⟨b0, b1, b2, b3, b4, b5, b6, b7, b8⟩ := rq_cells kB
 clear hb1 kA kB
 subst h0
 have e1 : ¬ (n = n2) := h
 go_enter Tryz.func24, Tryz.ntmps24
 go_wp2
 go_ret
 exact ⟨by simp [e1], HB.out⟩
set_option maxHeartbeats 8000000 in
theorem sameRqP2 (c n c2 n2 : Int) (o p : Opn) (va vp vc xa xp xc : Value) (w : World) (ho : OpAt w o va vp vc) (hp : OpAt w p xa xp xc) (hl : Lim o) (hl2 : Lim p) (h0 : c = c2) (h : n = n2) : Calls Tryz.prog 24 #[rqVal c n o va vp vc, rqVal c2 n2 p xa xp xc] w fun e w' => e = .returned (.bool (sameO o p)) ∧ Below w.heap.size w w' := by
 obtain ⟨Aa, ca, na, rfl, _, _⟩ := rdv_len ho.a
 obtain ⟨Ap, cp, np, rfl⟩ := ho.p.len
 obtain ⟨Ac, cc, nc, rfl, _⟩ := ho.c.len
 obtain ⟨Ba, da, ma, rfl, _, _⟩ := rdv_len hp.a
 obtain ⟨Bp, dp, mp, rfl⟩ := hp.p.len
 obtain ⟨Bc, dc, mc, rfl, _⟩ := hp.c.len
 have hb1 := ((Below.refl w.heap.size w).alloc (Nat.le_refl _) (.cells (rqCs c n o (.slice Aa na ca) (.slice Ap np cp) (.slice Ac nc cc)) 46)).alloc (by simp) (.cells (rqCs c2 n2 p (.slice Ba ma da) (.slice Bp mp dp) (.slice Bc mc dc)) 46)
 have kA := (Blk.new w 46 (rqCs c n o (.slice Aa na ca) (.slice Ap np cp) (.slice Ac nc cc))).alloc (.cells (rqCs c2 n2 p (.slice Ba ma da) (.slice Bp mp dp) (.slice Bc mc dc)) 46)
 have kB := Blk.new (w.alloc (.cells (rqCs c n o (.slice Aa na ca) (.slice Ap np cp) (.slice Ac nc cc)) 46)) 46 (rqCs c2 n2 p (.slice Ba ma da) (.slice Bp mp dp) (.slice Bc mc dc))
 rw [World.size_alloc] at kB
 have HM := Lib.hid (sameOp_any o p _ _ _ _ _ _ _ (ho.on hb1) (hp.on hb1) hl hl2)
 have HB := Lib.hid hb1
 obtain ⟨a0, a1, a2, a3, a4, a5, a6, a7, a8⟩ := rq_cells kA
 obtain ⟨b0, b1, b2, b3, b4, b5, b6, b7, b8⟩ := rq_cells kB
 clear hb1 kA kB
 subst h0
 subst h
 go_enter Tryz.func24, Tryz.ntmps24
 go_wp2_with (go_at_call 41; (with_reducible refine HM.out.mono ?_); rintro e wx ⟨rfl, hbx⟩)
 go_ret
 exact ⟨by simp, HB.out.trans (hbx.mono HB.out.size)⟩
theorem sameRqP_any (c n c2 n2 : Int) (o p : Opn) (va vp vc xa xp xc : Value) (w : World) (ho : OpAt w o va vp vc) (hp : OpAt w p xa xp xc) (hl : Lim o) (hl2 : Lim p) : Calls Tryz.prog 24 #[rqVal c n o va vp vc, rqVal c2 n2 p xa xp xc] w fun e w' => e = .returned (.bool (sameRq c n o c2 n2 p)) ∧ Below w.heap.size w w' := by
 by_cases h0 : c = c2
 · by_cases h1 : n = n2
   · have e : sameRq c n o c2 n2 p = sameO o p := by simp [sameRq, h0, h1]
     rw [e]; exact sameRqP2 c n c2 n2 o p va vp vc xa xp xc w ho hp hl hl2 h0 h1
   · have e : sameRq c n o c2 n2 p = false := by simp [sameRq, h1]
     rw [e]; exact sameRqP1 c n c2 n2 o p va vp vc xa xp xc w ho hp hl hl2 h0 h1
 · have e : sameRq c n o c2 n2 p = false := by simp [sameRq, h0]
   rw [e]; exact sameRqP0 c n c2 n2 o p va vp vc xa xp xc w ho hp hl hl2 h0
set_option maxHeartbeats 8000000 in
theorem sameRqR0 (c n c2 n2 : Int) (o p : Opn) (va vp vc xa xp xc : Value) (w : World) (ho : OpAt w o va vp vc) (hp : OpAt w p xa xp xc) (hl : Lim o) (hl2 : Lim p) (h : c ≠ c2) : Calls Tryz.prog 29 #[rqVal c n o va vp vc, rqVal c2 n2 p xa xp xc] w fun e w' => e = .returned (.bool (false)) ∧ Below w.heap.size w w' := by
 obtain ⟨Aa, ca, na, rfl, _, _⟩ := rdv_len ho.a
 obtain ⟨Ap, cp, np, rfl⟩ := ho.p.len
 obtain ⟨Ac, cc, nc, rfl, _⟩ := ho.c.len
 obtain ⟨Ba, da, ma, rfl, _, _⟩ := rdv_len hp.a
 obtain ⟨Bp, dp, mp, rfl⟩ := hp.p.len
 obtain ⟨Bc, dc, mc, rfl, _⟩ := hp.c.len
 have hb1 := ((Below.refl w.heap.size w).alloc (Nat.le_refl _) (.cells (rqCs c n o (.slice Aa na ca) (.slice Ap np cp) (.slice Ac nc cc)) 46)).alloc (by simp) (.cells (rqCs c2 n2 p (.slice Ba ma da) (.slice Bp mp dp) (.slice Bc mc dc)) 46)
 have kA := (Blk.new w 46 (rqCs c n o (.slice Aa na ca) (.slice Ap np cp) (.slice Ac nc cc))).alloc (.cells (rqCs c2 n2 p (.slice Ba ma da) (.slice Bp mp dp) (.slice Bc mc dc)) 46)
 have kB := Blk.new (w.alloc (.cells (rqCs c n o (.slice Aa na ca) (.slice Ap np cp) (.slice Ac nc cc)) 46)) 46 (rqCs c2 n2 p (.slice Ba ma da) (.slice Bp mp dp) (.slice Bc mc dc))
 rw [World.size_alloc] at kB
 have HM := Lib.hid (refSameOp_any o p _ _ _ _ _ _ _ (ho.on hb1) (hp.on hb1) hl hl2)
 have HB := Lib.hid hb1
 obtain ⟨a0, a1, a2, a3, a4, a5, a6, a7, a8⟩ := rq_cells kA
 obtain ⟨b0, b1, b2, b3, b4, b5, b6, b7, b8⟩ := rq_cells kB
 clear hb1 kA kB
 have e1 : ¬ (c = c2) := h
 go_enter Tryz.func29, Tryz.ntmps29
 go_wp2
 go_ret
 exact ⟨by simp [e1], HB.out⟩
set_option maxHeartbeats 8000000 in
theorem sameRqR1 (c n c2 n2 : Int) (o p : Opn) (va vp vc xa xp xc : Value) (w : World) (ho : OpAt w o va vp vc) (hp : OpAt w p xa xp xc) (hl : Lim o) (hl2 : Lim p) (h0 : c = c2) (h : n ≠ n2) : Calls Tryz.prog 29 #[rqVal c n o va vp vc, rqVal c2 n2 p xa xp xc] w fun e w' => e = .returned (.bool (false)) ∧ Below w.heap.size w w' := by
 obtain ⟨Aa, ca, na, rfl, _, _⟩ := rdv_len ho.a
 obtain ⟨Ap, cp, np, rfl⟩ := ho.p.len
 obtain ⟨Ac, cc, nc, rfl, _⟩ := ho.c.len
 obtain ⟨Ba, da, ma, rfl, _, _⟩ := rdv_len hp.a
 obtain ⟨Bp, dp, mp, rfl⟩ := hp.p.len
 obtain ⟨Bc, dc, mc, rfl, _⟩ := hp.c.len
 have hb1 := ((Below.refl w.heap.size w).alloc (Nat.le_refl _) (.cells (rqCs c n o (.slice Aa na ca) (.slice Ap np cp) (.slice Ac nc cc)) 46)).alloc (by simp) (.cells (rqCs c2 n2 p (.slice Ba ma da) (.slice Bp mp dp) (.slice Bc mc dc)) 46)
 have kA := (Blk.new w 46 (rqCs c n o (.slice Aa na ca) (.slice Ap np cp) (.slice Ac nc cc))).alloc (.cells (rqCs c2 n2 p (.slice Ba ma da) (.slice Bp mp dp) (.slice Bc mc dc)) 46)
 have kB := Blk.new (w.alloc (.cells (rqCs c n o (.slice Aa na ca) (.slice Ap np cp) (.slice Ac nc cc)) 46)) 46 (rqCs c2 n2 p (.slice Ba ma da) (.slice Bp mp dp) (.slice Bc mc dc))
 rw [World.size_alloc] at kB
 have HM := Lib.hid (refSameOp_any o p _ _ _ _ _ _ _ (ho.on hb1) (hp.on hb1) hl hl2)
 have HB := Lib.hid hb1
 obtain ⟨a0, a1, a2, a3, a4, a5, a6, a7, a8⟩ := rq_cells kA
 obtain ⟨b0, b1, b2, b3, b4, b5, b6, b7, b8⟩ := rq_cells kB
 clear hb1 kA kB
 subst h0
 have e1 : ¬ (n = n2) := h
 go_enter Tryz.func29, Tryz.ntmps29
 go_wp2
 go_ret
 exact ⟨by simp [e1], HB.out⟩
set_option maxHeartbeats 8000000 in
theorem sameRqR2 (c n c2 n2 : Int) (o p : Opn) (va vp vc xa xp xc : Value) (w : World) (ho : OpAt w o va vp vc) (hp : OpAt w p xa xp xc) (hl : Lim o) (hl2 : Lim p) (h0 : c = c2) (h : n = n2) : Calls Tryz.prog 29 #[rqVal c n o va vp vc, rqVal c2 n2 p xa xp xc] w fun e w' => e = .returned (.bool (sameO o p)) ∧ Below w.heap.size w w' := by
 obtain ⟨Aa, ca, na, rfl, _, _⟩ := rdv_len ho.a
 obtain ⟨Ap, cp, np, rfl⟩ := ho.p.len
 obtain ⟨Ac, cc, nc, rfl, _⟩ := ho.c.len
 obtain ⟨Ba, da, ma, rfl, _, _⟩ := rdv_len hp.a
 obtain ⟨Bp, dp, mp, rfl⟩ := hp.p.len
 obtain ⟨Bc, dc, mc, rfl, _⟩ := hp.c.len
 have hb1 := ((Below.refl w.heap.size w).alloc (Nat.le_refl _) (.cells (rqCs c n o (.slice Aa na ca) (.slice Ap np cp) (.slice Ac nc cc)) 46)).alloc (by simp) (.cells (rqCs c2 n2 p (.slice Ba ma da) (.slice Bp mp dp) (.slice Bc mc dc)) 46)
 have kA := (Blk.new w 46 (rqCs c n o (.slice Aa na ca) (.slice Ap np cp) (.slice Ac nc cc))).alloc (.cells (rqCs c2 n2 p (.slice Ba ma da) (.slice Bp mp dp) (.slice Bc mc dc)) 46)
 have kB := Blk.new (w.alloc (.cells (rqCs c n o (.slice Aa na ca) (.slice Ap np cp) (.slice Ac nc cc)) 46)) 46 (rqCs c2 n2 p (.slice Ba ma da) (.slice Bp mp dp) (.slice Bc mc dc))
 rw [World.size_alloc] at kB
 have HM := Lib.hid (refSameOp_any o p _ _ _ _ _ _ _ (ho.on hb1) (hp.on hb1) hl hl2)
 have HB := Lib.hid hb1
 obtain ⟨a0, a1, a2, a3, a4, a5, a6, a7, a8⟩ := rq_cells kA
 obtain ⟨b0, b1, b2, b3, b4, b5, b6, b7, b8⟩ := rq_cells kB
 clear hb1 kA kB
 subst h0
 subst h
 go_enter Tryz.func29, Tryz.ntmps29
 go_wp2_with (go_at_call 42; (with_reducible refine HM.out.mono ?_); rintro e wx ⟨rfl, hbx⟩)
 go_ret
 exact ⟨by simp, HB.out.trans (hbx.mono HB.out.size)⟩
theorem sameRqR_any (c n c2 n2 : Int) (o p : Opn) (va vp vc xa xp xc : Value) (w : World) (ho : OpAt w o va vp vc) (hp : OpAt w p xa xp xc) (hl : Lim o) (hl2 : Lim p) : Calls Tryz.prog 29 #[rqVal c n o va vp vc, rqVal c2 n2 p xa xp xc] w fun e w' => e = .returned (.bool (sameRq c n o c2 n2 p)) ∧ Below w.heap.size w w' := by
 by_cases h0 : c = c2
 · by_cases h1 : n = n2
   · have e : sameRq c n o c2 n2 p = sameO o p := by simp [sameRq, h0, h1]
     rw [e]; exact sameRqR2 c n c2 n2 o p va vp vc xa xp xc w ho hp hl hl2 h0 h1
   · have e : sameRq c n o c2 n2 p = false := by simp [sameRq, h1]
     rw [e]; exact sameRqR1 c n c2 n2 o p va vp vc xa xp xc w ho hp hl hl2 h0 h1
 · have e : sameRq c n o c2 n2 p = false := by simp [sameRq, h0]
   rw [e]; exact sameRqR0 c n c2 n2 o p va vp vc xa xp xc w ho hp hl hl2 h0
end Go.Proofs.YtniaijgejljjbaaGreat.Tlv
