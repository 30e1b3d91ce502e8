/- Are two results the same, by the program. -/
import Derived.Test.YtidkpdoiblomjaaZ28
namespace Go.Proofs.Ytidkpdoiblomjaa.Tlv
open Go.RowKit
set_option maxRecDepth 100000
set_option linter.unusedVariables false
set_option linter.unusedSimpArgs false
structure Res where
 k : Int
 y : Bool
 es : List Eny
 cur : List Int
deriving Inhabited
structure ResAt (w : World) (r : Res) (ve vc : Value) : Prop where
 e : RdE w ve r.es
 c : RdC w vc r.cur
theorem ResAt.on {w w' : World} {r : Res} {ve vc : Value} (h : ResAt w r ve vc) (hb : Below w.heap.size w w') : ResAt w' r ve vc := ⟨h.e.on hb, h.c.on hb⟩
structure LimR (r : Res) : Prop where
 e : LimE r.es
 lc : r.cur.length ≤ 9223372036854775807
 byt : Byt r.cur
def sameR (a b : Res) : Bool := decide (a.k = b.k) && (decide (a.y = b.y) && (decide (a.es = b.es) && decide (a.cur = b.cur)))
set_option maxHeartbeats 8000000 in
theorem sameResP0 (a b : Res) (va vc xa xc : Value) (w : World) (ha : ResAt w a va vc) (hb : ResAt w b xa xc) (hl : LimR a) (hl2 : LimR b) (h0 : a.k ≠ b.k) : Calls Try.prog 29 #[rsVal a.k a.y va vc, rsVal b.k b.y xa xc] w fun e w' => e = .returned (.bool false) ∧ Below w.heap.size w w' := by
 obtain ⟨Aa, ca, na, rfl, _⟩ := ha.e.len
 obtain ⟨Ac, cc, nc, rfl, _⟩ := ha.c.len
 obtain ⟨Ba, da, ma, rfl, _⟩ := hb.e.len
 obtain ⟨Bc, dc, mc, rfl, _⟩ := hb.c.len
 have hb1 := ((Below.refl w.heap.size w).alloc (Nat.le_refl _) (.cells (rsCs a.k a.y (.slice Aa na ca) (.slice Ac nc cc)) 39)).alloc (by simp) (.cells (rsCs b.k b.y (.slice Ba ma da) (.slice Bc mc dc)) 39)
 have kA := (Blk.new w 39 (rsCs a.k a.y (.slice Aa na ca) (.slice Ac nc cc))).alloc (.cells (rsCs b.k b.y (.slice Ba ma da) (.slice Bc mc dc)) 39)
 have kB := Blk.new (w.alloc (.cells (rsCs a.k a.y (.slice Aa na ca) (.slice Ac nc cc)) 39)) 39 (rsCs b.k b.y (.slice Ba ma da) (.slice Bc mc dc))
 rw [World.size_alloc] at kB
 have HA := Lib.hid fun (W : World) (h : Below w.heap.size w W) => And.intro (ha.on h) (hb.on h)
 have HL := Lib.hid (And.intro hl hl2)
 generalize hW : (w.alloc (.cells (rsCs a.k a.y (.slice Aa na ca) (.slice Ac nc cc)) 39)).alloc (.cells (rsCs b.k b.y (.slice Ba ma da) (.slice Bc mc dc)) 39) = W at hb1 kA kB
 obtain ⟨a0, a1, a2, a3⟩ := rs_cells kA
 obtain ⟨b0, b1, b2, b3⟩ := rs_cells kB
 have HB := Lib.hid (And.intro hb1 (And.intro kA kB))
 clear hb1 kA kB ha hb hl hl2
 have e1 : (a.k == b.k) = false := by simpa using h0
 subst hW
 go_enter Try.func29, Try.ntmps29
 go_wp2
 go_ret
 exact ⟨rfl, HB.out.1⟩
set_option maxHeartbeats 8000000 in
theorem sameResP1 (a b : Res) (va vc xa xc : Value) (w : World) (ha : ResAt w a va vc) (hb : ResAt w b xa xc) (hl : LimR a) (hl2 : LimR b) (h0 : a.k = b.k) (h1 : a.y ≠ b.y) : Calls Try.prog 29 #[rsVal a.k a.y va vc, rsVal b.k b.y xa xc] w fun e w' => e = .returned (.bool false) ∧ Below w.heap.size w w' := by
 obtain ⟨Aa, ca, na, rfl, _⟩ := ha.e.len
 obtain ⟨Ac, cc, nc, rfl, _⟩ := ha.c.len
 obtain ⟨Ba, da, ma, rfl, _⟩ := hb.e.len
 obtain ⟨Bc, dc, mc, rfl, _⟩ := hb.c.len
 have hb1 := ((Below.refl w.heap.size w).alloc (Nat.le_refl _) (.cells (rsCs a.k a.y (.slice Aa na ca) (.slice Ac nc cc)) 39)).alloc (by simp) (.cells (rsCs b.k b.y (.slice Ba ma da) (.slice Bc mc dc)) 39)
 have kA := (Blk.new w 39 (rsCs a.k a.y (.slice Aa na ca) (.slice Ac nc cc))).alloc (.cells (rsCs b.k b.y (.slice Ba ma da) (.slice Bc mc dc)) 39)
 have kB := Blk.new (w.alloc (.cells (rsCs a.k a.y (.slice Aa na ca) (.slice Ac nc cc)) 39)) 39 (rsCs b.k b.y (.slice Ba ma da) (.slice Bc mc dc))
 rw [World.size_alloc] at kB
 have HA := Lib.hid fun (W : World) (h : Below w.heap.size w W) => And.intro (ha.on h) (hb.on h)
 have HL := Lib.hid (And.intro hl hl2)
 generalize hW : (w.alloc (.cells (rsCs a.k a.y (.slice Aa na ca) (.slice Ac nc cc)) 39)).alloc (.cells (rsCs b.k b.y (.slice Ba ma da) (.slice Bc mc dc)) 39) = W at hb1 kA kB
 obtain ⟨a0, a1, a2, a3⟩ := rs_cells kA
 obtain ⟨b0, b1, b2, b3⟩ := rs_cells kB
 have HB := Lib.hid (And.intro hb1 (And.intro kA kB))
 clear hb1 kA kB ha hb hl hl2
 have e1 : (a.k == b.k) = true := by simpa using h0
 have e2 : (a.y == b.y) = false := by simpa using h1
 clear h0 h1
 subst hW
 go_enter Try.func29, Try.ntmps29
 go_wp2
 go_ret
 exact ⟨rfl, HB.out.1⟩
set_option maxHeartbeats 8000000 in
theorem sameResP2 (a b : Res) (va vc xa xc : Value) (w : World) (ha : ResAt w a va vc) (hb : ResAt w b xa xc) (hl : LimR a) (hl2 : LimR b) (h0 : a.k = b.k) (h1 : a.y = b.y) (h2 : a.es ≠ b.es) : Calls Try.prog 29 #[rsVal a.k a.y va vc, rsVal b.k b.y xa xc] w fun e w' => e = .returned (.bool false) ∧ Below w.heap.size w w' := by
 obtain ⟨Aa, ca, na, rfl, _⟩ := ha.e.len
 obtain ⟨Ac, cc, nc, rfl, _⟩ := ha.c.len
 obtain ⟨Ba, da, ma, rfl, _⟩ := hb.e.len
 obtain ⟨Bc, dc, mc, rfl, _⟩ := hb.c.len
 have hb1 := ((Below.refl w.heap.size w).alloc (Nat.le_refl _) (.cells (rsCs a.k a.y (.slice Aa na ca) (.slice Ac nc cc)) 39)).alloc (by simp) (.cells (rsCs b.k b.y (.slice Ba ma da) (.slice Bc mc dc)) 39)
 have kA := (Blk.new w 39 (rsCs a.k a.y (.slice Aa na ca) (.slice Ac nc cc))).alloc (.cells (rsCs b.k b.y (.slice Ba ma da) (.slice Bc mc dc)) 39)
 have kB := Blk.new (w.alloc (.cells (rsCs a.k a.y (.slice Aa na ca) (.slice Ac nc cc)) 39)) 39 (rsCs b.k b.y (.slice Ba ma da) (.slice Bc mc dc))
 rw [World.size_alloc] at kB
 have HA := Lib.hid fun (W : World) (h : Below w.heap.size w W) => And.intro (ha.on h) (hb.on h)
 have HL := Lib.hid (And.intro hl hl2)
 generalize hW : (w.alloc (.cells (rsCs a.k a.y (.slice Aa na ca) (.slice Ac nc cc)) 39)).alloc (.cells (rsCs b.k b.y (.slice Ba ma da) (.slice Bc mc dc)) 39) = W at hb1 kA kB
 obtain ⟨a0, a1, a2, a3⟩ := rs_cells kA
 obtain ⟨b0, b1, b2, b3⟩ := rs_cells kB
 have HB := Lib.hid (And.intro hb1 (And.intro kA kB))
 clear hb1 kA kB ha hb hl hl2
 have e1 : (a.k == b.k) = true := by simpa using h0
 have e2 : (a.y == b.y) = true := by simpa using h1
 clear h0 h1
 subst hW
 go_enter Try.func29, Try.ntmps29
 go_upto_region 1 with fail
 generalize hW : (w.alloc (.cells (rsCs a.k a.y (.slice Aa na ca) (.slice Ac nc cc)) 39)).alloc (.cells (rsCs b.k b.y (.slice Ba ma da) (.slice Bc mc dc)) 39) = W at HB a0 a1 a2 a3 b0 b1 b2 b3 ⊢
 clear hW
 have HE := eqf_any a.es b.es _ _ W (HA.out _ HB.out.1).1.e (HA.out _ HB.out.1).2.e HL.out.1.e HL.out.2.e
 rw [decide_eq_false h2] at HE
 have HE := Lib.hid HE
 go_wp2_with (go_at_call 43; (with_reducible refine HE.out.mono ?_); clear HE; rintro e w1 ⟨rfl, hb1⟩; dsimp only; have H1 := Lib.hid (And.intro (HB.out.1.trans (hb1.mono HB.out.1.size)) (And.intro (HB.out.2.1.on hb1) (HB.out.2.2.on hb1))); clear hb1 a0 a1 a2 a3 b0 b1 b2 b3; obtain ⟨a0, a1, a2, a3⟩ := rs_cells H1.out.2.1; obtain ⟨b0, b1, b2, b3⟩ := rs_cells H1.out.2.2; have HC := Lib.hid (equal_byt a.cur b.cur _ _ w1 (HA.out _ H1.out.1).1.c (HA.out _ H1.out.1).2.c HL.out.1.byt HL.out.2.byt))
 go_ret
 exact ⟨rfl, H1.out.1⟩
set_option maxHeartbeats 8000000 in
theorem sameResP3 (a b : Res) (va vc xa xc : Value) (w : World) (ha : ResAt w a va vc) (hb : ResAt w b xa xc) (hl : LimR a) (hl2 : LimR b) (h0 : a.k = b.k) (h1 : a.y = b.y) (h2 : a.es = b.es) : Calls Try.prog 29 #[rsVal a.k a.y va vc, rsVal b.k b.y xa xc] w fun e w' => e = .returned (.bool (decide (a.cur = b.cur))) ∧ Below w.heap.size w w' := by
 obtain ⟨Aa, ca, na, rfl, _⟩ := ha.e.len
 obtain ⟨Ac, cc, nc, rfl, _⟩ := ha.c.len
 obtain ⟨Ba, da, ma, rfl, _⟩ := hb.e.len
 obtain ⟨Bc, dc, mc, rfl, _⟩ := hb.c.len
 have hb1 := ((Below.refl w.heap.size w).alloc (Nat.le_refl _) (.cells (rsCs a.k a.y (.slice Aa na ca) (.slice Ac nc cc)) 39)).alloc (by simp) (.cells (rsCs b.k b.y (.slice Ba ma da) (.slice Bc mc dc)) 39)
 have kA := (Blk.new w 39 (rsCs a.k a.y (.slice Aa na ca) (.slice Ac nc cc))).alloc (.cells (rsCs b.k b.y (.slice Ba ma da) (.slice Bc mc dc)) 39)
 have kB := Blk.new (w.alloc (.cells (rsCs a.k a.y (.slice Aa na ca) (.slice Ac nc cc)) 39)) 39 (rsCs b.k b.y (.slice Ba ma da) (.slice Bc mc dc))
 rw [World.size_alloc] at kB
 have HA := Lib.hid fun (W : World) (h : Below w.heap.size w W) => And.intro (ha.on h) (hb.on h)
 have HL := Lib.hid (And.intro hl hl2)
 generalize hW : (w.alloc (.cells (rsCs a.k a.y (.slice Aa na ca) (.slice Ac nc cc)) 39)).alloc (.cells (rsCs b.k b.y (.slice Ba ma da) (.slice Bc mc dc)) 39) = W at hb1 kA kB
 obtain ⟨a0, a1, a2, a3⟩ := rs_cells kA
 obtain ⟨b0, b1, b2, b3⟩ := rs_cells kB
 have HB := Lib.hid (And.intro hb1 (And.intro kA kB))
 clear hb1 kA kB ha hb hl hl2
 have e1 : (a.k == b.k) = true := by simpa using h0
 have e2 : (a.y == b.y) = true := by simpa using h1
 clear h0 h1
 subst hW
 go_enter Try.func29, Try.ntmps29
 go_upto_region 1 with fail
 generalize hW : (w.alloc (.cells (rsCs a.k a.y (.slice Aa na ca) (.slice Ac nc cc)) 39)).alloc (.cells (rsCs b.k b.y (.slice Ba ma da) (.slice Bc mc dc)) 39) = W at HB a0 a1 a2 a3 b0 b1 b2 b3 ⊢
 clear hW
 have HE := eqf_any a.es b.es _ _ W (HA.out _ HB.out.1).1.e (HA.out _ HB.out.1).2.e HL.out.1.e HL.out.2.e
 rw [decide_eq_true h2] at HE
 have HE := Lib.hid HE
 go_wp2_with (first
   | (go_at_call 43; (with_reducible refine HE.out.mono ?_); clear HE; rintro e w1 ⟨rfl, hb1⟩; dsimp only; have H1 := Lib.hid (And.intro (HB.out.1.trans (hb1.mono HB.out.1.size)) (And.intro (HB.out.2.1.on hb1) (HB.out.2.2.on hb1))); clear hb1 a0 a1 a2 a3 b0 b1 b2 b3; obtain ⟨a0, a1, a2, a3⟩ := rs_cells H1.out.2.1; obtain ⟨b0, b1, b2, b3⟩ := rs_cells H1.out.2.2; have HC := Lib.hid (equal_byt a.cur b.cur _ _ w1 (HA.out _ H1.out.1).1.c (HA.out _ H1.out.1).2.c HL.out.1.byt HL.out.2.byt))
   | (go_at_call 45; (with_reducible refine HC.out.mono ?_); clear HC; rintro e w2 ⟨rfl, hb2⟩; dsimp only; have H2 := Lib.hid (H1.out.1.trans (hb2.mono H1.out.1.size)); clear hb2))
 go_ret
 exact ⟨rfl, H2.out⟩
theorem sameResP_any (a b : Res) (va vc xa xc : Value) (w : World) (ha : ResAt w a va vc) (hb : ResAt w b xa xc) (hl : LimR a) (hl2 : LimR b) : Calls Try.prog 29 #[rsVal a.k a.y va vc, rsVal b.k b.y xa xc] w fun e w' => e = .returned (.bool (sameR a b)) ∧ Below w.heap.size w w' := by
 by_cases h0 : a.k = b.k
 · by_cases h1 : a.y = b.y
   · by_cases h2 : a.es = b.es
     · have e : sameR a b = decide (a.cur = b.cur) := by simp [sameR, h0, h1, h2]
       rw [e]; exact sameResP3 a b va vc xa xc w ha hb hl hl2 h0 h1 h2
     · have e : sameR a b = false := by simp [sameR, h2]
       rw [e]; exact sameResP2 a b va vc xa xc w ha hb hl hl2 h0 h1 h2
   · have e : sameR a b = false := by simp [sameR, h1]
     rw [e]; exact sameResP1 a b va vc xa xc w ha hb hl hl2 h0 h1
 · have e : sameR a b = false := by simp [sameR, h0]
   rw [e]; exact sameResP0 a b va vc xa xc w ha hb hl hl2 h0
end Go.Proofs.Ytidkpdoiblomjaa.Tlv
