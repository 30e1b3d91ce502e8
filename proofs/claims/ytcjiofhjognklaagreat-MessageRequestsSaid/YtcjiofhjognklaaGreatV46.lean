/- Operations of any lengths: are they big? -/
import Derived.Test.YtcjiofhjognklaaGreatV26
namespace Go.Proofs.YtcjiofhjognklaaGreat.Tlv
open Go.RowKit
set_option maxRecDepth 100000
set_option linter.unusedVariables false
set_option linter.unusedSimpArgs false
structure Lim0 (o : Opn) : Prop where
 ln : o.name.length ≤ 9223372036854775807
 lt : o.dst.length ≤ 9223372036854775807
 sa : YtcjiofhjognklaaGreat.Sm o.attrs
 la : o.attrs.length ≤ 9223372036854775807
 lp : o.parts.length ≤ 9223372036854775807
 sp : ∀ s ∈ o.parts, s.length ≤ 9223372036854775807
 lc : o.cur.length ≤ 9223372036854775807
 byt : Byt o.cur
set_option maxHeartbeats 4000000 in
theorem zbig0 (o : Opn) (va vp vc : Value) (w : World) (ho : OpAt w o va vp vc) (hl : Lim0 o) (h0 : 3000 < o.name.length) : Calls Tryz.prog 7 #[opVal o va vp vc] w fun e w' => e = .returned (.bool true) ∧ Below w.heap.size w w' := by
 have HL := Lib.hid hl
 have HA := Lib.hid fun (W : World) (hb : Below w.heap.size w W) => ho.on hb
 obtain ⟨Aa, ca, na, rfl, _, _⟩ := rdv_len ho.a
 obtain ⟨Ap, cp, np, rfl, HNo, _⟩ := ho.p.full
 obtain ⟨Ac, cc, nc, rfl, HCo, _⟩ := ho.c.full
 have s1 : (sx o.name).size = o.name.length := sx_size _
 have s2 : (sx o.dst).size = o.dst.length := sx_size _
 have n0 : (3000 : Int) < ((sx o.name).size : Int) := by rw [s1]; omega
 have l1 := hl.ln
 have l2 := hl.lt
 rw [← s1] at l1
 rw [← s2] at l2
 have hb : Below w.heap.size w (w.alloc (.cells (opCs o (.slice Aa na ca) (.slice Ap np cp) (.slice Ac nc cc)) 27)) := (Below.refl _ _).alloc (Nat.le_refl _) _
 have k1 := Blk.new w 27 (opCs o (.slice Aa na ca) (.slice Ap np cp) (.slice Ac nc cc))
 obtain ⟨B1, hB1⟩ : ∃ b, b = w.heap.size := ⟨_, rfl⟩
 have HBB := Lib.hid hB1
 have HB0 := Lib.hid (And.intro hb (show Blk _ B1 27 _ from hB1 ▸ k1))
 clear hb k1 ho hl h0 s1 s2
 go_enter Tryz.func7, Tryz.ntmps7
 go_upto_region 1 with fail
 rw [← hB1]
 generalize w.alloc (.cells (opCs o (.slice Aa na ca) (.slice Ap np cp) (.slice Ac nc cc)) 27) = W at HB0 ⊢
 clear hB1
 have c1 : W.cell? ⟨B1, 1, none⟩ = some (.string (sx o.name)) := HB0.out.2.cell 1
 have c2 : W.cell? ⟨B1, 2, none⟩ = some (.string (sx o.dst)) := HB0.out.2.cell 2
 have c3 : W.cell? ⟨B1, 3, none⟩ = some (.slice Aa na ca) := HB0.out.2.cell 3
 have c4 : W.cell? ⟨B1, 4, none⟩ = some (.slice Ap np cp) := HB0.out.2.cell 4
 have c5 : W.cell? ⟨B1, 5, none⟩ = some (.slice Ac nc cc) := HB0.out.2.cell 5
 go_wp2
 go_ret
 exact ⟨rfl, HB0.out.1⟩
set_option maxHeartbeats 4000000 in
theorem zbig1 (o : Opn) (va vp vc : Value) (w : World) (ho : OpAt w o va vp vc) (hl : Lim0 o) (h0 : ¬ 3000 < o.name.length) (h1 : 3000 < o.dst.length) : Calls Tryz.prog 7 #[opVal o va vp vc] w fun e w' => e = .returned (.bool true) ∧ Below w.heap.size w w' := by
 have HL := Lib.hid hl
 have HA := Lib.hid fun (W : World) (hb : Below w.heap.size w W) => ho.on hb
 obtain ⟨Aa, ca, na, rfl, _, _⟩ := rdv_len ho.a
 obtain ⟨Ap, cp, np, rfl, HNo, _⟩ := ho.p.full
 obtain ⟨Ac, cc, nc, rfl, HCo, _⟩ := ho.c.full
 have s1 : (sx o.name).size = o.name.length := sx_size _
 have s2 : (sx o.dst).size = o.dst.length := sx_size _
 have n0 : ¬ (3000 : Int) < ((sx o.name).size : Int) := by rw [s1]; omega
 have n1 : (3000 : Int) < ((sx o.dst).size : Int) := by rw [s2]; omega
 have l1 := hl.ln
 have l2 := hl.lt
 rw [← s1] at l1
 rw [← s2] at l2
 have hb : Below w.heap.size w (w.alloc (.cells (opCs o (.slice Aa na ca) (.slice Ap np cp) (.slice Ac nc cc)) 27)) := (Below.refl _ _).alloc (Nat.le_refl _) _
 have k1 := Blk.new w 27 (opCs o (.slice Aa na ca) (.slice Ap np cp) (.slice Ac nc cc))
 obtain ⟨B1, hB1⟩ : ∃ b, b = w.heap.size := ⟨_, rfl⟩
 have HBB := Lib.hid hB1
 have HB0 := Lib.hid (And.intro hb (show Blk _ B1 27 _ from hB1 ▸ k1))
 clear hb k1 ho hl h0 h1 s1 s2
 go_enter Tryz.func7, Tryz.ntmps7
 go_upto_region 1 with fail
 rw [← hB1]
 generalize w.alloc (.cells (opCs o (.slice Aa na ca) (.slice Ap np cp) (.slice Ac nc cc)) 27) = W at HB0 ⊢
 clear hB1
 have c1 : W.cell? ⟨B1, 1, none⟩ = some (.string (sx o.name)) := HB0.out.2.cell 1
 have c2 : W.cell? ⟨B1, 2, none⟩ = some (.string (sx o.dst)) := HB0.out.2.cell 2
 have c3 : W.cell? ⟨B1, 3, none⟩ = some (.slice Aa na ca) := HB0.out.2.cell 3
 have c4 : W.cell? ⟨B1, 4, none⟩ = some (.slice Ap np cp) := HB0.out.2.cell 4
 have c5 : W.cell? ⟨B1, 5, none⟩ = some (.slice Ac nc cc) := HB0.out.2.cell 5
 go_wp2
 go_ret
 exact ⟨rfl, HB0.out.1⟩
set_option maxHeartbeats 4000000 in
theorem zbig2 (o : Opn) (va vp vc : Value) (w : World) (ho : OpAt w o va vp vc) (hl : Lim0 o) (h0 : ¬ 3000 < o.name.length) (h1 : ¬ 3000 < o.dst.length) (h2 : YtcjiofhjognklaaGreat.muchV o.attrs = true) : Calls Tryz.prog 7 #[opVal o va vp vc] w fun e w' => e = .returned (.bool true) ∧ Below w.heap.size w w' := by
 have HL := Lib.hid hl
 have HA := Lib.hid fun (W : World) (hb : Below w.heap.size w W) => ho.on hb
 obtain ⟨Aa, ca, na, rfl, _, _⟩ := rdv_len ho.a
 obtain ⟨Ap, cp, np, rfl, HNo, _⟩ := ho.p.full
 obtain ⟨Ac, cc, nc, rfl, HCo, _⟩ := ho.c.full
 have s1 : (sx o.name).size = o.name.length := sx_size _
 have s2 : (sx o.dst).size = o.dst.length := sx_size _
 have n0 : ¬ (3000 : Int) < ((sx o.name).size : Int) := by rw [s1]; omega
 have n1 : ¬ (3000 : Int) < ((sx o.dst).size : Int) := by rw [s2]; omega
 have HM : Hid (YtcjiofhjognklaaGreat.muchV o.attrs = true) := Lib.hid (by exact h2)
 have l1 := hl.ln
 have l2 := hl.lt
 rw [← s1] at l1
 rw [← s2] at l2
 have hb : Below w.heap.size w (w.alloc (.cells (opCs o (.slice Aa na ca) (.slice Ap np cp) (.slice Ac nc cc)) 27)) := (Below.refl _ _).alloc (Nat.le_refl _) _
 have k1 := Blk.new w 27 (opCs o (.slice Aa na ca) (.slice Ap np cp) (.slice Ac nc cc))
 obtain ⟨B1, hB1⟩ : ∃ b, b = w.heap.size := ⟨_, rfl⟩
 have HBB := Lib.hid hB1
 have HB0 := Lib.hid (And.intro hb (show Blk _ B1 27 _ from hB1 ▸ k1))
 clear hb k1 ho hl h0 h1 h2 s1 s2
 go_enter Tryz.func7, Tryz.ntmps7
 go_upto_region 1 with fail
 rw [← hB1]
 generalize w.alloc (.cells (opCs o (.slice Aa na ca) (.slice Ap np cp) (.slice Ac nc cc)) 27) = W at HB0 ⊢
 clear hB1
 have c1 : W.cell? ⟨B1, 1, none⟩ = some (.string (sx o.name)) := HB0.out.2.cell 1
 have c2 : W.cell? ⟨B1, 2, none⟩ = some (.string (sx o.dst)) := HB0.out.2.cell 2
 have c3 : W.cell? ⟨B1, 3, none⟩ = some (.slice Aa na ca) := HB0.out.2.cell 3
 have c4 : W.cell? ⟨B1, 4, none⟩ = some (.slice Ap np cp) := HB0.out.2.cell 4
 have c5 : W.cell? ⟨B1, 5, none⟩ = some (.slice Ac nc cc) := HB0.out.2.cell 5
 go_wp2_with (first
   | (go_at_call 42; (with_reducible refine (YtcjiofhjognklaaGreat.much_any o.attrs _ W (HA.out _ HB0.out.1).a HL.out.sa (Nat.le_trans HL.out.la (by decide))).mono ?_); clear c1 c2 c3 c4 c5; rintro e w3 ⟨rfl, hb⟩; dsimp only; rw [HM.out]; have HC3 := Lib.hid (And.intro (HB0.out.1.trans (hb.mono HB0.out.1.size)) (HB0.out.2.on hb)); have c1 : w3.cell? ⟨B1, 1, none⟩ = some (.string (sx o.name)) := HC3.out.2.cell 1; have c2 : w3.cell? ⟨B1, 2, none⟩ = some (.string (sx o.dst)) := HC3.out.2.cell 2; have c3 : w3.cell? ⟨B1, 3, none⟩ = some (.slice Aa na ca) := HC3.out.2.cell 3; have c4 : w3.cell? ⟨B1, 4, none⟩ = some (.slice Ap np cp) := HC3.out.2.cell 4; have c5 : w3.cell? ⟨B1, 5, none⟩ = some (.slice Ac nc cc) := HC3.out.2.cell 5; clear hb))
 go_ret
 exact ⟨rfl, HC3.out.1⟩
set_option maxHeartbeats 4000000 in
theorem zbig3 (o : Opn) (va vp vc : Value) (w : World) (ho : OpAt w o va vp vc) (hl : Lim0 o) (h0 : ¬ 3000 < o.name.length) (h1 : ¬ 3000 < o.dst.length) (h2 : ¬ YtcjiofhjognklaaGreat.muchV o.attrs = true) (h3 : 12 < o.parts.length) : Calls Tryz.prog 7 #[opVal o va vp vc] w fun e w' => e = .returned (.bool true) ∧ Below w.heap.size w w' := by
 have HL := Lib.hid hl
 have HA := Lib.hid fun (W : World) (hb : Below w.heap.size w W) => ho.on hb
 obtain ⟨Aa, ca, na, rfl, _, _⟩ := rdv_len ho.a
 obtain ⟨Ap, cp, np, rfl, HNo, _⟩ := ho.p.full
 obtain ⟨Ac, cc, nc, rfl, HCo, _⟩ := ho.c.full
 have s1 : (sx o.name).size = o.name.length := sx_size _
 have s2 : (sx o.dst).size = o.dst.length := sx_size _
 have n0 : ¬ (3000 : Int) < ((sx o.name).size : Int) := by rw [s1]; omega
 have n1 : ¬ (3000 : Int) < ((sx o.dst).size : Int) := by rw [s2]; omega
 have HM : Hid (YtcjiofhjognklaaGreat.muchV o.attrs = false) := Lib.hid (by simpa using h2)
 have n3 : (12 : Int) < (np : Int) := by rw [HNo.out]; omega
 have l1 := hl.ln
 have l2 := hl.lt
 rw [← s1] at l1
 rw [← s2] at l2
 have hb : Below w.heap.size w (w.alloc (.cells (opCs o (.slice Aa na ca) (.slice Ap np cp) (.slice Ac nc cc)) 27)) := (Below.refl _ _).alloc (Nat.le_refl _) _
 have k1 := Blk.new w 27 (opCs o (.slice Aa na ca) (.slice Ap np cp) (.slice Ac nc cc))
 obtain ⟨B1, hB1⟩ : ∃ b, b = w.heap.size := ⟨_, rfl⟩
 have HBB := Lib.hid hB1
 have HB0 := Lib.hid (And.intro hb (show Blk _ B1 27 _ from hB1 ▸ k1))
 clear hb k1 ho hl h0 h1 h2 h3 s1 s2
 go_enter Tryz.func7, Tryz.ntmps7
 go_upto_region 1 with fail
 rw [← hB1]
 generalize w.alloc (.cells (opCs o (.slice Aa na ca) (.slice Ap np cp) (.slice Ac nc cc)) 27) = W at HB0 ⊢
 clear hB1
 have c1 : W.cell? ⟨B1, 1, none⟩ = some (.string (sx o.name)) := HB0.out.2.cell 1
 have c2 : W.cell? ⟨B1, 2, none⟩ = some (.string (sx o.dst)) := HB0.out.2.cell 2
 have c3 : W.cell? ⟨B1, 3, none⟩ = some (.slice Aa na ca) := HB0.out.2.cell 3
 have c4 : W.cell? ⟨B1, 4, none⟩ = some (.slice Ap np cp) := HB0.out.2.cell 4
 have c5 : W.cell? ⟨B1, 5, none⟩ = some (.slice Ac nc cc) := HB0.out.2.cell 5
 go_wp2_with (first
   | (go_at_call 42; (with_reducible refine (YtcjiofhjognklaaGreat.much_any o.attrs _ W (HA.out _ HB0.out.1).a HL.out.sa (Nat.le_trans HL.out.la (by decide))).mono ?_); clear c1 c2 c3 c4 c5; rintro e w3 ⟨rfl, hb⟩; dsimp only; rw [HM.out]; have HC3 := Lib.hid (And.intro (HB0.out.1.trans (hb.mono HB0.out.1.size)) (HB0.out.2.on hb)); have c1 : w3.cell? ⟨B1, 1, none⟩ = some (.string (sx o.name)) := HC3.out.2.cell 1; have c2 : w3.cell? ⟨B1, 2, none⟩ = some (.string (sx o.dst)) := HC3.out.2.cell 2; have c3 : w3.cell? ⟨B1, 3, none⟩ = some (.slice Aa na ca) := HC3.out.2.cell 3; have c4 : w3.cell? ⟨B1, 4, none⟩ = some (.slice Ap np cp) := HC3.out.2.cell 4; have c5 : w3.cell? ⟨B1, 5, none⟩ = some (.slice Ac nc cc) := HC3.out.2.cell 5; clear hb))
 go_ret
 exact ⟨rfl, HC3.out.1⟩
set_option maxHeartbeats 4000000 in
theorem zbig4 (o : Opn) (va vp vc : Value) (w : World) (ho : OpAt w o va vp vc) (hl : Lim0 o) (h0 : ¬ 3000 < o.name.length) (h1 : ¬ 3000 < o.dst.length) (h2 : ¬ YtcjiofhjognklaaGreat.muchV o.attrs = true) (h3 : ¬ 12 < o.parts.length) (h4 : 9000 < totS o.parts) : Calls Tryz.prog 7 #[opVal o va vp vc] w fun e w' => e = .returned (.bool true) ∧ Below w.heap.size w w' := by
 have HL := Lib.hid hl
 have HA := Lib.hid fun (W : World) (hb : Below w.heap.size w W) => ho.on hb
 obtain ⟨Aa, ca, na, rfl, _, _⟩ := rdv_len ho.a
 obtain ⟨Ap, cp, np, rfl, HNo, _⟩ := ho.p.full
 obtain ⟨Ac, cc, nc, rfl, HCo, _⟩ := ho.c.full
 have s1 : (sx o.name).size = o.name.length := sx_size _
 have s2 : (sx o.dst).size = o.dst.length := sx_size _
 have n0 : ¬ (3000 : Int) < ((sx o.name).size : Int) := by rw [s1]; omega
 have n1 : ¬ (3000 : Int) < ((sx o.dst).size : Int) := by rw [s2]; omega
 have HM : Hid (YtcjiofhjognklaaGreat.muchV o.attrs = false) := Lib.hid (by simpa using h2)
 have n3 : ¬ (12 : Int) < (np : Int) := by rw [HNo.out]; omega
 have n4 : (9000 : Int) < ((totS o.parts : Nat) : Int) := by omega
 have HP12 := Lib.hid h3
 have l1 := hl.ln
 have l2 := hl.lt
 rw [← s1] at l1
 rw [← s2] at l2
 have hb : Below w.heap.size w (w.alloc (.cells (opCs o (.slice Aa na ca) (.slice Ap np cp) (.slice Ac nc cc)) 27)) := (Below.refl _ _).alloc (Nat.le_refl _) _
 have k1 := Blk.new w 27 (opCs o (.slice Aa na ca) (.slice Ap np cp) (.slice Ac nc cc))
 obtain ⟨B1, hB1⟩ : ∃ b, b = w.heap.size := ⟨_, rfl⟩
 have HBB := Lib.hid hB1
 have HB0 := Lib.hid (And.intro hb (show Blk _ B1 27 _ from hB1 ▸ k1))
 clear hb k1 ho hl h0 h1 h2 h3 h4 s1 s2
 go_enter Tryz.func7, Tryz.ntmps7
 go_upto_region 1 with fail
 rw [← hB1]
 generalize w.alloc (.cells (opCs o (.slice Aa na ca) (.slice Ap np cp) (.slice Ac nc cc)) 27) = W at HB0 ⊢
 clear hB1
 have c1 : W.cell? ⟨B1, 1, none⟩ = some (.string (sx o.name)) := HB0.out.2.cell 1
 have c2 : W.cell? ⟨B1, 2, none⟩ = some (.string (sx o.dst)) := HB0.out.2.cell 2
 have c3 : W.cell? ⟨B1, 3, none⟩ = some (.slice Aa na ca) := HB0.out.2.cell 3
 have c4 : W.cell? ⟨B1, 4, none⟩ = some (.slice Ap np cp) := HB0.out.2.cell 4
 have c5 : W.cell? ⟨B1, 5, none⟩ = some (.slice Ac nc cc) := HB0.out.2.cell 5
 go_wp2_with (first
   | (go_at_call 42; (with_reducible refine (YtcjiofhjognklaaGreat.much_any o.attrs _ W (HA.out _ HB0.out.1).a HL.out.sa (Nat.le_trans HL.out.la (by decide))).mono ?_); clear c1 c2 c3 c4 c5; rintro e w3 ⟨rfl, hb⟩; dsimp only; rw [HM.out]; have HC3 := Lib.hid (And.intro (HB0.out.1.trans (hb.mono HB0.out.1.size)) (HB0.out.2.on hb)); have c1 : w3.cell? ⟨B1, 1, none⟩ = some (.string (sx o.name)) := HC3.out.2.cell 1; have c2 : w3.cell? ⟨B1, 2, none⟩ = some (.string (sx o.dst)) := HC3.out.2.cell 2; have c3 : w3.cell? ⟨B1, 3, none⟩ = some (.slice Aa na ca) := HC3.out.2.cell 3; have c4 : w3.cell? ⟨B1, 4, none⟩ = some (.slice Ap np cp) := HC3.out.2.cell 4; have c5 : w3.cell? ⟨B1, 5, none⟩ = some (.slice Ac nc cc) := HC3.out.2.cell 5; clear hb)
   | (go_at_call 43; (with_reducible refine (total_any o.parts _ w3 (HA.out _ HC3.out.1).p (by have := HP12.out; omega) HL.out.sp).mono ?_); rintro e w4 ⟨rfl, rfl⟩; dsimp only))
 go_ret
 exact ⟨rfl, HC3.out.1⟩
set_option maxHeartbeats 4000000 in
theorem zbig5 (o : Opn) (va vp vc : Value) (w : World) (ho : OpAt w o va vp vc) (hl : Lim0 o) (h0 : ¬ 3000 < o.name.length) (h1 : ¬ 3000 < o.dst.length) (h2 : ¬ YtcjiofhjognklaaGreat.muchV o.attrs = true) (h3 : ¬ 12 < o.parts.length) (h4 : ¬ 9000 < totS o.parts) (h5 : 9000 < o.cur.length) : Calls Tryz.prog 7 #[opVal o va vp vc] w fun e w' => e = .returned (.bool true) ∧ Below w.heap.size w w' := by
 have HL := Lib.hid hl
 have HA := Lib.hid fun (W : World) (hb : Below w.heap.size w W) => ho.on hb
 obtain ⟨Aa, ca, na, rfl, _, _⟩ := rdv_len ho.a
 obtain ⟨Ap, cp, np, rfl, HNo, _⟩ := ho.p.full
 obtain ⟨Ac, cc, nc, rfl, HCo, _⟩ := ho.c.full
 have s1 : (sx o.name).size = o.name.length := sx_size _
 have s2 : (sx o.dst).size = o.dst.length := sx_size _
 have n0 : ¬ (3000 : Int) < ((sx o.name).size : Int) := by rw [s1]; omega
 have n1 : ¬ (3000 : Int) < ((sx o.dst).size : Int) := by rw [s2]; omega
 have HM : Hid (YtcjiofhjognklaaGreat.muchV o.attrs = false) := Lib.hid (by simpa using h2)
 have n3 : ¬ (12 : Int) < (np : Int) := by rw [HNo.out]; omega
 have n4 : ¬ (9000 : Int) < ((totS o.parts : Nat) : Int) := by omega
 have HP12 := Lib.hid h3
 have n5 : (9000 : Int) < (nc : Int) := by rw [HCo.out]; omega
 have l1 := hl.ln
 have l2 := hl.lt
 rw [← s1] at l1
 rw [← s2] at l2
 have hb : Below w.heap.size w (w.alloc (.cells (opCs o (.slice Aa na ca) (.slice Ap np cp) (.slice Ac nc cc)) 27)) := (Below.refl _ _).alloc (Nat.le_refl _) _
 have k1 := Blk.new w 27 (opCs o (.slice Aa na ca) (.slice Ap np cp) (.slice Ac nc cc))
 obtain ⟨B1, hB1⟩ : ∃ b, b = w.heap.size := ⟨_, rfl⟩
 have HBB := Lib.hid hB1
 have HB0 := Lib.hid (And.intro hb (show Blk _ B1 27 _ from hB1 ▸ k1))
 clear hb k1 ho hl h0 h1 h2 h3 h4 h5 s1 s2
 go_enter Tryz.func7, Tryz.ntmps7
 go_upto_region 1 with fail
 rw [← hB1]
 generalize w.alloc (.cells (opCs o (.slice Aa na ca) (.slice Ap np cp) (.slice Ac nc cc)) 27) = W at HB0 ⊢
 clear hB1
 have c1 : W.cell? ⟨B1, 1, none⟩ = some (.string (sx o.name)) := HB0.out.2.cell 1
 have c2 : W.cell? ⟨B1, 2, none⟩ = some (.string (sx o.dst)) := HB0.out.2.cell 2
 have c3 : W.cell? ⟨B1, 3, none⟩ = some (.slice Aa na ca) := HB0.out.2.cell 3
 have c4 : W.cell? ⟨B1, 4, none⟩ = some (.slice Ap np cp) := HB0.out.2.cell 4
 have c5 : W.cell? ⟨B1, 5, none⟩ = some (.slice Ac nc cc) := HB0.out.2.cell 5
 go_wp2_with (first
   | (go_at_call 42; (with_reducible refine (YtcjiofhjognklaaGreat.much_any o.attrs _ W (HA.out _ HB0.out.1).a HL.out.sa (Nat.le_trans HL.out.la (by decide))).mono ?_); clear c1 c2 c3 c4 c5; rintro e w3 ⟨rfl, hb⟩; dsimp only; rw [HM.out]; have HC3 := Lib.hid (And.intro (HB0.out.1.trans (hb.mono HB0.out.1.size)) (HB0.out.2.on hb)); have c1 : w3.cell? ⟨B1, 1, none⟩ = some (.string (sx o.name)) := HC3.out.2.cell 1; have c2 : w3.cell? ⟨B1, 2, none⟩ = some (.string (sx o.dst)) := HC3.out.2.cell 2; have c3 : w3.cell? ⟨B1, 3, none⟩ = some (.slice Aa na ca) := HC3.out.2.cell 3; have c4 : w3.cell? ⟨B1, 4, none⟩ = some (.slice Ap np cp) := HC3.out.2.cell 4; have c5 : w3.cell? ⟨B1, 5, none⟩ = some (.slice Ac nc cc) := HC3.out.2.cell 5; clear hb)
   | (go_at_call 43; (with_reducible refine (total_any o.parts _ w3 (HA.out _ HC3.out.1).p (by have := HP12.out; omega) HL.out.sp).mono ?_); rintro e w4 ⟨rfl, rfl⟩; dsimp only))
 go_ret
 exact ⟨rfl, HC3.out.1⟩
set_option maxHeartbeats 4000000 in
theorem zbig6 (o : Opn) (va vp vc : Value) (w : World) (ho : OpAt w o va vp vc) (hl : Lim0 o) (h0 : ¬ 3000 < o.name.length) (h1 : ¬ 3000 < o.dst.length) (h2 : ¬ YtcjiofhjognklaaGreat.muchV o.attrs = true) (h3 : ¬ 12 < o.parts.length) (h4 : ¬ 9000 < totS o.parts) (h5 : ¬ 9000 < o.cur.length) : Calls Tryz.prog 7 #[opVal o va vp vc] w fun e w' => e = .returned (.bool false) ∧ Below w.heap.size w w' := by
 have HL := Lib.hid hl
 have HA := Lib.hid fun (W : World) (hb : Below w.heap.size w W) => ho.on hb
 obtain ⟨Aa, ca, na, rfl, _, _⟩ := rdv_len ho.a
 obtain ⟨Ap, cp, np, rfl, HNo, _⟩ := ho.p.full
 obtain ⟨Ac, cc, nc, rfl, HCo, _⟩ := ho.c.full
 have s1 : (sx o.name).size = o.name.length := sx_size _
 have s2 : (sx o.dst).size = o.dst.length := sx_size _
 have n0 : ¬ (3000 : Int) < ((sx o.name).size : Int) := by rw [s1]; omega
 have n1 : ¬ (3000 : Int) < ((sx o.dst).size : Int) := by rw [s2]; omega
 have HM : Hid (YtcjiofhjognklaaGreat.muchV o.attrs = false) := Lib.hid (by simpa using h2)
 have n3 : ¬ (12 : Int) < (np : Int) := by rw [HNo.out]; omega
 have n4 : ¬ (9000 : Int) < ((totS o.parts : Nat) : Int) := by omega
 have HP12 := Lib.hid h3
 have n5 : ¬ (9000 : Int) < (nc : Int) := by rw [HCo.out]; omega
 have l1 := hl.ln
 have l2 := hl.lt
 rw [← s1] at l1
 rw [← s2] at l2
 have hb : Below w.heap.size w (w.alloc (.cells (opCs o (.slice Aa na ca) (.slice Ap np cp) (.slice Ac nc cc)) 27)) := (Below.refl _ _).alloc (Nat.le_refl _) _
 have k1 := Blk.new w 27 (opCs o (.slice Aa na ca) (.slice Ap np cp) (.slice Ac nc cc))
 obtain ⟨B1, hB1⟩ : ∃ b, b = w.heap.size := ⟨_, rfl⟩
 have HBB := Lib.hid hB1
 have HB0 := Lib.hid (And.intro hb (show Blk _ B1 27 _ from hB1 ▸ k1))
 clear hb k1 ho hl h0 h1 h2 h3 h4 h5 s1 s2
 go_enter Tryz.func7, Tryz.ntmps7
 go_upto_region 1 with fail
 rw [← hB1]
 generalize w.alloc (.cells (opCs o (.slice Aa na ca) (.slice Ap np cp) (.slice Ac nc cc)) 27) = W at HB0 ⊢
 clear hB1
 have c1 : W.cell? ⟨B1, 1, none⟩ = some (.string (sx o.name)) := HB0.out.2.cell 1
 have c2 : W.cell? ⟨B1, 2, none⟩ = some (.string (sx o.dst)) := HB0.out.2.cell 2
 have c3 : W.cell? ⟨B1, 3, none⟩ = some (.slice Aa na ca) := HB0.out.2.cell 3
 have c4 : W.cell? ⟨B1, 4, none⟩ = some (.slice Ap np cp) := HB0.out.2.cell 4
 have c5 : W.cell? ⟨B1, 5, none⟩ = some (.slice Ac nc cc) := HB0.out.2.cell 5
 go_wp2_with (first
   | (go_at_call 42; (with_reducible refine (YtcjiofhjognklaaGreat.much_any o.attrs _ W (HA.out _ HB0.out.1).a HL.out.sa (Nat.le_trans HL.out.la (by decide))).mono ?_); clear c1 c2 c3 c4 c5; rintro e w3 ⟨rfl, hb⟩; dsimp only; rw [HM.out]; have HC3 := Lib.hid (And.intro (HB0.out.1.trans (hb.mono HB0.out.1.size)) (HB0.out.2.on hb)); have c1 : w3.cell? ⟨B1, 1, none⟩ = some (.string (sx o.name)) := HC3.out.2.cell 1; have c2 : w3.cell? ⟨B1, 2, none⟩ = some (.string (sx o.dst)) := HC3.out.2.cell 2; have c3 : w3.cell? ⟨B1, 3, none⟩ = some (.slice Aa na ca) := HC3.out.2.cell 3; have c4 : w3.cell? ⟨B1, 4, none⟩ = some (.slice Ap np cp) := HC3.out.2.cell 4; have c5 : w3.cell? ⟨B1, 5, none⟩ = some (.slice Ac nc cc) := HC3.out.2.cell 5; clear hb)
   | (go_at_call 43; (with_reducible refine (total_any o.parts _ w3 (HA.out _ HC3.out.1).p (by have := HP12.out; omega) HL.out.sp).mono ?_); rintro e w4 ⟨rfl, rfl⟩; dsimp only))
 go_ret
 exact ⟨rfl, HC3.out.1⟩
theorem zbig_any (o : Opn) (va vp vc : Value) (w : World) (ho : OpAt w o va vp vc) (hl : Lim0 o) : Calls Tryz.prog 7 #[opVal o va vp vc] w fun e w' => e = .returned (.bool (bigO o)) ∧ Below w.heap.size w w' := by
 by_cases h0 : 3000 < o.name.length
 · have e : bigO o = true := by simp [bigO, h0]
   rw [e]
   exact zbig0 o va vp vc w ho hl h0
 by_cases h1 : 3000 < o.dst.length
 · have e : bigO o = true := by simp [bigO, h1]
   rw [e]
   exact zbig1 o va vp vc w ho hl h0 h1
 by_cases h2 : YtcjiofhjognklaaGreat.muchV o.attrs = true
 · have e : bigO o = true := by simp [bigO, h2]
   rw [e]
   exact zbig2 o va vp vc w ho hl h0 h1 h2
 by_cases h3 : 12 < o.parts.length
 · have e : bigO o = true := by simp [bigO, h3]
   rw [e]
   exact zbig3 o va vp vc w ho hl h0 h1 h2 h3
 by_cases h4 : 9000 < totS o.parts
 · have e : bigO o = true := by simp [bigO, h4]
   rw [e]
   exact zbig4 o va vp vc w ho hl h0 h1 h2 h3 h4
 by_cases h5 : 9000 < o.cur.length
 · have e : bigO o = true := by simp [bigO, h5]
   rw [e]
   exact zbig5 o va vp vc w ho hl h0 h1 h2 h3 h4 h5
 have e : bigO o = false := by simp only [bigO, h0, h1, h2, h3, h4, h5]; simp
 rw [e]
 exact zbig6 o va vp vc w ho hl h0 h1 h2 h3 h4 h5
theorem Lim0.lim {o : Opn} (h : Lim0 o) (hb : bigO o = false) : Lim o := by
 unfold bigO at hb
 simp only [Bool.or_eq_false_iff, decide_eq_false_iff_not] at hb
 obtain ⟨_, _, h3, h4, _⟩ := hb
 have h5 : o.attrs.length ≤ 120 := by
   unfold YtcjiofhjognklaaGreat.muchV at h3
   rw [Bool.or_eq_false_iff] at h3
   have := of_decide_eq_false h3.1
   omega
 exact ⟨h.ln, h.lt, h.sa, by omega, by omega, h.sp, h.lc, h.byt⟩
end Go.Proofs.YtcjiofhjognklaaGreat.Tlv
