/- Are two results the same, by the document. -/
import Derived.Test.YtidkpdoiblomjaaZ29
import Derived.Deep.RegionLaw
namespace Go.Proofs.Ytidkpdoiblomjaa.Tlv
open Go.RowKit
set_option maxRecDepth 100000
set_option linter.unusedVariables false
set_option linter.unusedSimpArgs false
theorem RdE.full {w : World} {v : Value} {l : List Eny} (h : RdE w v l) : ∃ es A c n, v = .slice A n c ∧ Hid (n = es.length ∧ n = l.length) ∧ Hid (RdK kE w w.heap.size A es ∧ EnL w es l) := by
 obtain ⟨es, A, c, e, _, h1, h2⟩ := h
 exact ⟨es, A, c, _, e, Lib.hid ⟨rfl, h2.1⟩, Lib.hid ⟨h1, h2⟩⟩
set_option maxHeartbeats 8000000 in
theorem sameResR0 (a b : Res) (va vc xa xc : Value) (w : World) (ha : ResAt w a va vc) (hb : ResAt w b xa xc) (hl : LimR a) (hl2 : LimR b) (h0 : a.k ≠ b.k) : Calls Try.prog 21 #[rsVal a.k a.y va vc, rsVal b.k b.y xa xc] w fun e w' => e = .returned (.bool false) ∧ Below w.heap.size w w' := by
 have HA := Lib.hid fun (W : World) (h : Below w.heap.size w W) => And.intro (ha.on h) (hb.on h)
 have HL := Lib.hid (And.intro hl hl2)
 obtain ⟨es, Aa, ca, na, rfl, HNa, HRa⟩ := ha.e.full
 obtain ⟨Ac, cc, nc, rfl, HNc, HRc⟩ := ha.c.full
 obtain ⟨fs, Ba, da, ma, rfl, HNb, HRb⟩ := hb.e.full
 obtain ⟨Bc, dc, mc, rfl, HMc, HRd⟩ := hb.c.full
 have e1 : (a.k == b.k) = false := by simpa using h0
 have q1 : (a.k != b.k) = true := by simpa using h0
 clear h0
 have HCV : Hid (∀ W, Below w.heap.size w W → (convert 37 9 (.slice Ac nc cc)).run Try.prog W = .ok (.string (sx (cx a.cur))) W ∧ (convert 37 9 (.slice Bc mc dc)).run Try.prog W = .ok (.string (sx (cx b.cur))) W) := Lib.hid fun W hb => ⟨conv_bytes ((HRc.out.1.below hb).more hb.size) HNc.out, conv_bytes ((HRd.out.1.below hb).more hb.size) HMc.out⟩
 have hb1 := ((Below.refl w.heap.size w).alloc (Nat.le_refl _) (.cells (rsCs a.k a.y (.slice Aa na ca) (.slice Ac nc cc)) 39)).alloc (by simp) (.cells (rsCs b.k b.y (.slice Ba ma da) (.slice Bc mc dc)) 39)
 have kA := (Blk.new w 39 (rsCs a.k a.y (.slice Aa na ca) (.slice Ac nc cc))).alloc (.cells (rsCs b.k b.y (.slice Ba ma da) (.slice Bc mc dc)) 39)
 have kB := Blk.new (w.alloc (.cells (rsCs a.k a.y (.slice Aa na ca) (.slice Ac nc cc)) 39)) 39 (rsCs b.k b.y (.slice Ba ma da) (.slice Bc mc dc))
 rw [World.size_alloc] at kB
 obtain ⟨B1, hB1⟩ : ∃ b, b = w.heap.size := ⟨_, rfl⟩
 obtain ⟨B2, hB2⟩ : ∃ b, b = w.heap.size + 1 := ⟨_, rfl⟩
 have HB := Lib.hid (And.intro hb1 (And.intro (show Blk _ B1 39 _ from hB1 ▸ kA) (show Blk _ B2 39 _ from hB2 ▸ kB)))
 clear hb1 kA kB ha hb hl hl2
 go_enter Try.func21, Try.ntmps21
 go_upto_region 1 with fail
 rw [← hB2, ← hB1]
 generalize (w.alloc (.cells (rsCs a.k a.y (.slice Aa na ca) (.slice Ac nc cc)) 39)).alloc (.cells (rsCs b.k b.y (.slice Ba ma da) (.slice Bc mc dc)) 39) = W at HB ⊢
 clear hB1 hB2
 obtain ⟨a0, a1, a2, a3⟩ := rs_cells HB.out.2.1
 obtain ⟨b0, b1, b2, b3⟩ := rs_cells HB.out.2.2
 obtain ⟨hcv1, hcv2⟩ := HCV.out W HB.out.1
 go_wp2
 go_ret
 exact ⟨rfl, HB.out.1⟩
set_option maxHeartbeats 8000000 in
theorem sameResR1 (a b : Res) (va vc xa xc : Value) (w : World) (ha : ResAt w a va vc) (hb : ResAt w b xa xc) (hl : LimR a) (hl2 : LimR b) (h0 : a.k = b.k) (h1 : a.y ≠ b.y) : Calls Try.prog 21 #[rsVal a.k a.y va vc, rsVal b.k b.y xa xc] w fun e w' => e = .returned (.bool false) ∧ Below w.heap.size w w' := by
 have HA := Lib.hid fun (W : World) (h : Below w.heap.size w W) => And.intro (ha.on h) (hb.on h)
 have HL := Lib.hid (And.intro hl hl2)
 obtain ⟨es, Aa, ca, na, rfl, HNa, HRa⟩ := ha.e.full
 obtain ⟨Ac, cc, nc, rfl, HNc, HRc⟩ := ha.c.full
 obtain ⟨fs, Ba, da, ma, rfl, HNb, HRb⟩ := hb.e.full
 obtain ⟨Bc, dc, mc, rfl, HMc, HRd⟩ := hb.c.full
 have e1 : (a.k == b.k) = true := by simpa using h0
 have q1 : (a.k != b.k) = false := by simpa using h0
 have e2 : (a.y == b.y) = false := by simpa using h1
 have q2 : (a.y != b.y) = true := by simpa using h1
 clear h0 h1
 have HCV : Hid (∀ W, Below w.heap.size w W → (convert 37 9 (.slice Ac nc cc)).run Try.prog W = .ok (.string (sx (cx a.cur))) W ∧ (convert 37 9 (.slice Bc mc dc)).run Try.prog W = .ok (.string (sx (cx b.cur))) W) := Lib.hid fun W hb => ⟨conv_bytes ((HRc.out.1.below hb).more hb.size) HNc.out, conv_bytes ((HRd.out.1.below hb).more hb.size) HMc.out⟩
 have hb1 := ((Below.refl w.heap.size w).alloc (Nat.le_refl _) (.cells (rsCs a.k a.y (.slice Aa na ca) (.slice Ac nc cc)) 39)).alloc (by simp) (.cells (rsCs b.k b.y (.slice Ba ma da) (.slice Bc mc dc)) 39)
 have kA := (Blk.new w 39 (rsCs a.k a.y (.slice Aa na ca) (.slice Ac nc cc))).alloc (.cells (rsCs b.k b.y (.slice Ba ma da) (.slice Bc mc dc)) 39)
 have kB := Blk.new (w.alloc (.cells (rsCs a.k a.y (.slice Aa na ca) (.slice Ac nc cc)) 39)) 39 (rsCs b.k b.y (.slice Ba ma da) (.slice Bc mc dc))
 rw [World.size_alloc] at kB
 obtain ⟨B1, hB1⟩ : ∃ b, b = w.heap.size := ⟨_, rfl⟩
 obtain ⟨B2, hB2⟩ : ∃ b, b = w.heap.size + 1 := ⟨_, rfl⟩
 have HB := Lib.hid (And.intro hb1 (And.intro (show Blk _ B1 39 _ from hB1 ▸ kA) (show Blk _ B2 39 _ from hB2 ▸ kB)))
 clear hb1 kA kB ha hb hl hl2
 go_enter Try.func21, Try.ntmps21
 go_upto_region 1 with fail
 rw [← hB2, ← hB1]
 generalize (w.alloc (.cells (rsCs a.k a.y (.slice Aa na ca) (.slice Ac nc cc)) 39)).alloc (.cells (rsCs b.k b.y (.slice Ba ma da) (.slice Bc mc dc)) 39) = W at HB ⊢
 clear hB1 hB2
 obtain ⟨a0, a1, a2, a3⟩ := rs_cells HB.out.2.1
 obtain ⟨b0, b1, b2, b3⟩ := rs_cells HB.out.2.2
 obtain ⟨hcv1, hcv2⟩ := HCV.out W HB.out.1
 go_wp2
 go_ret
 exact ⟨rfl, HB.out.1⟩
set_option maxHeartbeats 8000000 in
theorem sameResR2 (a b : Res) (va vc xa xc : Value) (w : World) (ha : ResAt w a va vc) (hb : ResAt w b xa xc) (hl : LimR a) (hl2 : LimR b) (h0 : a.k = b.k) (h1 : a.y = b.y) (h2 : a.es.length ≠ b.es.length) : Calls Try.prog 21 #[rsVal a.k a.y va vc, rsVal b.k b.y xa xc] w fun e w' => e = .returned (.bool false) ∧ Below w.heap.size w w' := by
 have HA := Lib.hid fun (W : World) (h : Below w.heap.size w W) => And.intro (ha.on h) (hb.on h)
 have HL := Lib.hid (And.intro hl hl2)
 obtain ⟨es, Aa, ca, na, rfl, HNa, HRa⟩ := ha.e.full
 obtain ⟨Ac, cc, nc, rfl, HNc, HRc⟩ := ha.c.full
 obtain ⟨fs, Ba, da, ma, rfl, HNb, HRb⟩ := hb.e.full
 obtain ⟨Bc, dc, mc, rfl, HMc, HRd⟩ := hb.c.full
 have e1 : (a.k == b.k) = true := by simpa using h0
 have q1 : (a.k != b.k) = false := by simpa using h0
 have e2 : (a.y == b.y) = true := by simpa using h1
 have q2 : (a.y != b.y) = false := by simpa using h1
 have e3 : ((na : Int) == (ma : Int)) = false := by have h1 := HNa.out.2; have h2 := HNb.out.2; rw [beq_eq_false_iff_ne]; omega
 have q3 : ((na : Int) != (ma : Int)) = true := by rw [bne_iff_ne]; have h1 := HNa.out.2; have h2 := HNb.out.2; omega
 have q4 : ¬ na = ma := by have h1 := HNa.out.2; have h2 := HNb.out.2; omega
 clear h0 h1 h2
 have HCV : Hid (∀ W, Below w.heap.size w W → (convert 37 9 (.slice Ac nc cc)).run Try.prog W = .ok (.string (sx (cx a.cur))) W ∧ (convert 37 9 (.slice Bc mc dc)).run Try.prog W = .ok (.string (sx (cx b.cur))) W) := Lib.hid fun W hb => ⟨conv_bytes ((HRc.out.1.below hb).more hb.size) HNc.out, conv_bytes ((HRd.out.1.below hb).more hb.size) HMc.out⟩
 have hb1 := ((Below.refl w.heap.size w).alloc (Nat.le_refl _) (.cells (rsCs a.k a.y (.slice Aa na ca) (.slice Ac nc cc)) 39)).alloc (by simp) (.cells (rsCs b.k b.y (.slice Ba ma da) (.slice Bc mc dc)) 39)
 have kA := (Blk.new w 39 (rsCs a.k a.y (.slice Aa na ca) (.slice Ac nc cc))).alloc (.cells (rsCs b.k b.y (.slice Ba ma da) (.slice Bc mc dc)) 39)
 have kB := Blk.new (w.alloc (.cells (rsCs a.k a.y (.slice Aa na ca) (.slice Ac nc cc)) 39)) 39 (rsCs b.k b.y (.slice Ba ma da) (.slice Bc mc dc))
 rw [World.size_alloc] at kB
 obtain ⟨B1, hB1⟩ : ∃ b, b = w.heap.size := ⟨_, rfl⟩
 obtain ⟨B2, hB2⟩ : ∃ b, b = w.heap.size + 1 := ⟨_, rfl⟩
 have HB := Lib.hid (And.intro hb1 (And.intro (show Blk _ B1 39 _ from hB1 ▸ kA) (show Blk _ B2 39 _ from hB2 ▸ kB)))
 clear hb1 kA kB ha hb hl hl2
 go_enter Try.func21, Try.ntmps21
 go_upto_region 1 with fail
 rw [← hB2, ← hB1]
 generalize (w.alloc (.cells (rsCs a.k a.y (.slice Aa na ca) (.slice Ac nc cc)) 39)).alloc (.cells (rsCs b.k b.y (.slice Ba ma da) (.slice Bc mc dc)) 39) = W at HB ⊢
 clear hB1 hB2
 obtain ⟨a0, a1, a2, a3⟩ := rs_cells HB.out.2.1
 obtain ⟨b0, b1, b2, b3⟩ := rs_cells HB.out.2.2
 obtain ⟨hcv1, hcv2⟩ := HCV.out W HB.out.1
 go_wp2
 go_ret
 exact ⟨rfl, HB.out.1⟩
set_option maxHeartbeats 8000000 in
theorem sameResR3 (a b : Res) (va vc xa xc : Value) (w : World) (ha : ResAt w a va vc) (hb : ResAt w b xa xc) (hl : LimR a) (hl2 : LimR b) (h0 : a.k = b.k) (h1 : a.y = b.y) (h2 : a.es.length = b.es.length) (h3 : a.cur ≠ b.cur) : Calls Try.prog 21 #[rsVal a.k a.y va vc, rsVal b.k b.y xa xc] w fun e w' => e = .returned (.bool false) ∧ Below w.heap.size w w' := by
 have HA := Lib.hid fun (W : World) (h : Below w.heap.size w W) => And.intro (ha.on h) (hb.on h)
 have HL := Lib.hid (And.intro hl hl2)
 obtain ⟨es, Aa, ca, na, rfl, HNa, HRa⟩ := ha.e.full
 obtain ⟨Ac, cc, nc, rfl, HNc, HRc⟩ := ha.c.full
 obtain ⟨fs, Ba, da, ma, rfl, HNb, HRb⟩ := hb.e.full
 obtain ⟨Bc, dc, mc, rfl, HMc, HRd⟩ := hb.c.full
 have e1 : (a.k == b.k) = true := by simpa using h0
 have q1 : (a.k != b.k) = false := by simpa using h0
 have e2 : (a.y == b.y) = true := by simpa using h1
 have q2 : (a.y != b.y) = false := by simpa using h1
 have lq : na = ma := by rw [HNa.out.2, HNb.out.2]; exact h2
 subst lq
 have t5 : ((sx (cx a.cur)).toList == (sx (cx b.cur)).toList) = false := by rw [cx_beq hl.byt hl2.byt]; simp [h3]
 have q5 : ¬ (sx (cx a.cur)).toList = (sx (cx b.cur)).toList := by simpa using t5
 clear h0 h1 h2 h3
 have HCV : Hid (∀ W, Below w.heap.size w W → (convert 37 9 (.slice Ac nc cc)).run Try.prog W = .ok (.string (sx (cx a.cur))) W ∧ (convert 37 9 (.slice Bc mc dc)).run Try.prog W = .ok (.string (sx (cx b.cur))) W) := Lib.hid fun W hb => ⟨conv_bytes ((HRc.out.1.below hb).more hb.size) HNc.out, conv_bytes ((HRd.out.1.below hb).more hb.size) HMc.out⟩
 have hb1 := ((Below.refl w.heap.size w).alloc (Nat.le_refl _) (.cells (rsCs a.k a.y (.slice Aa na ca) (.slice Ac nc cc)) 39)).alloc (by simp) (.cells (rsCs b.k b.y (.slice Ba na da) (.slice Bc mc dc)) 39)
 have kA := (Blk.new w 39 (rsCs a.k a.y (.slice Aa na ca) (.slice Ac nc cc))).alloc (.cells (rsCs b.k b.y (.slice Ba na da) (.slice Bc mc dc)) 39)
 have kB := Blk.new (w.alloc (.cells (rsCs a.k a.y (.slice Aa na ca) (.slice Ac nc cc)) 39)) 39 (rsCs b.k b.y (.slice Ba na da) (.slice Bc mc dc))
 rw [World.size_alloc] at kB
 obtain ⟨B1, hB1⟩ : ∃ b, b = w.heap.size := ⟨_, rfl⟩
 obtain ⟨B2, hB2⟩ : ∃ b, b = w.heap.size + 1 := ⟨_, rfl⟩
 have HB := Lib.hid (And.intro hb1 (And.intro (show Blk _ B1 39 _ from hB1 ▸ kA) (show Blk _ B2 39 _ from hB2 ▸ kB)))
 clear hb1 kA kB ha hb hl hl2
 go_enter Try.func21, Try.ntmps21
 go_upto_region 1 with fail
 rw [← hB2, ← hB1]
 generalize (w.alloc (.cells (rsCs a.k a.y (.slice Aa na ca) (.slice Ac nc cc)) 39)).alloc (.cells (rsCs b.k b.y (.slice Ba na da) (.slice Bc mc dc)) 39) = W at HB ⊢
 clear hB1 hB2
 obtain ⟨a0, a1, a2, a3⟩ := rs_cells HB.out.2.1
 obtain ⟨b0, b1, b2, b3⟩ := rs_cells HB.out.2.2
 obtain ⟨hcv1, hcv2⟩ := HCV.out W HB.out.1
 go_wp2
 go_ret
 exact ⟨rfl, HB.out.1⟩
set_option maxHeartbeats 8000000 in
theorem sameResR4 (a b : Res) (va vc xa xc : Value) (w : World) (ha : ResAt w a va vc) (hb : ResAt w b xa xc) (hl : LimR a) (hl2 : LimR b) (h0 : a.k = b.k) (h1 : a.y = b.y) (h2 : a.es.length = b.es.length) (h3 : a.cur = b.cur) : Calls Try.prog 21 #[rsVal a.k a.y va vc, rsVal b.k b.y xa xc] w fun e w' => e = .returned (.bool (decide (a.es = b.es))) ∧ Below w.heap.size w w' := by
 have HA := Lib.hid fun (W : World) (h : Below w.heap.size w W) => And.intro (ha.on h) (hb.on h)
 have HL := Lib.hid (And.intro hl hl2)
 obtain ⟨es, Aa, ca, na, rfl, HNa, HRa⟩ := ha.e.full
 obtain ⟨Ac, cc, nc, rfl, HNc, HRc⟩ := ha.c.full
 obtain ⟨fs, Ba, da, ma, rfl, HNb, HRb⟩ := hb.e.full
 obtain ⟨Bc, dc, mc, rfl, HMc, HRd⟩ := hb.c.full
 have e1 : (a.k == b.k) = true := by simpa using h0
 have q1 : (a.k != b.k) = false := by simpa using h0
 have e2 : (a.y == b.y) = true := by simpa using h1
 have q2 : (a.y != b.y) = false := by simpa using h1
 have lq : na = ma := by rw [HNa.out.2, HNb.out.2]; exact h2
 subst lq
 have t5 : ((sx (cx a.cur)).toList == (sx (cx b.cur)).toList) = true := by rw [cx_beq hl.byt hl2.byt]; simp [h3]
 have q5 : (sx (cx a.cur)).toList = (sx (cx b.cur)).toList := by simpa using t5
 have hn : na ≤ 1000000 := by have h1 := HNa.out.2; have h2 := hl.e.len; omega
 clear h0 h1 h2 h3
 have HCV : Hid (∀ W, Below w.heap.size w W → (convert 37 9 (.slice Ac nc cc)).run Try.prog W = .ok (.string (sx (cx a.cur))) W ∧ (convert 37 9 (.slice Bc mc dc)).run Try.prog W = .ok (.string (sx (cx b.cur))) W) := Lib.hid fun W hb => ⟨conv_bytes ((HRc.out.1.below hb).more hb.size) HNc.out, conv_bytes ((HRd.out.1.below hb).more hb.size) HMc.out⟩
 have hb1 := ((Below.refl w.heap.size w).alloc (Nat.le_refl _) (.cells (rsCs a.k a.y (.slice Aa na ca) (.slice Ac nc cc)) 39)).alloc (by simp) (.cells (rsCs b.k b.y (.slice Ba na da) (.slice Bc mc dc)) 39)
 have kA := (Blk.new w 39 (rsCs a.k a.y (.slice Aa na ca) (.slice Ac nc cc))).alloc (.cells (rsCs b.k b.y (.slice Ba na da) (.slice Bc mc dc)) 39)
 have kB := Blk.new (w.alloc (.cells (rsCs a.k a.y (.slice Aa na ca) (.slice Ac nc cc)) 39)) 39 (rsCs b.k b.y (.slice Ba na da) (.slice Bc mc dc))
 rw [World.size_alloc] at kB
 obtain ⟨B1, hB1⟩ : ∃ b, b = w.heap.size := ⟨_, rfl⟩
 obtain ⟨B2, hB2⟩ : ∃ b, b = w.heap.size + 1 := ⟨_, rfl⟩
 have HB := Lib.hid (And.intro hb1 (And.intro (show Blk _ B1 39 _ from hB1 ▸ kA) (show Blk _ B2 39 _ from hB2 ▸ kB)))
 clear hb1 kA kB ha hb hl hl2
 go_enter Try.func21, Try.ntmps21
 go_upto_region 1 with fail
 rw [← hB2, ← hB1]
 generalize (w.alloc (.cells (rsCs a.k a.y (.slice Aa na ca) (.slice Ac nc cc)) 39)).alloc (.cells (rsCs b.k b.y (.slice Ba na da) (.slice Bc mc dc)) 39) = W at HB ⊢
 clear hB1 hB2
 obtain ⟨a0, a1, a2, a3⟩ := rs_cells HB.out.2.1
 obtain ⟨b0, b1, b2, b3⟩ := rs_cells HB.out.2.2
 obtain ⟨hcv1, hcv2⟩ := HCV.out W HB.out.1
 go_upto_region 4 with fail
 clear a0 a1 a2 a3 b0 b1 b2 b3 hcv1 hcv2 e1 e2 q1 q2 t5 q5
 go_loopw [5] (fun i wr => ∃ k : Nat, i = .int .i64 k ∧ k ≤ na ∧ Hid (Below W.heap.size W wr) ∧ Hid (∀ j, j < k → a.es.getD j default = b.es.getD j default)) (fun i _ => na - (intOf i).toNat)
 case atStart => exact ⟨0, rfl, Nat.zero_le _, Lib.hid (Below.refl _ _), Lib.hid fun j hj => absurd hj (Nat.not_lt_zero _)⟩
 case round =>
   obtain ⟨k, rfl, hk, HW, HG⟩ := hrel
   obtain ⟨a0, a1, a2, a3⟩ := rs_cells (HB.out.2.1.on HW.out)
   obtain ⟨b0, b1, b2, b3⟩ := rs_cells (HB.out.2.2.on HW.out)
   have HWW := Lib.hid (HB.out.1.trans (HW.out.mono HB.out.1.size))
   by_cases hlt : k < na
   · have hka : k < a.es.length := by have := HNa.out.2; omega
     have hkb : k < b.es.length := by have := HNb.out.2; omega
     have hke : k < es.length := by have := HNa.out.1; omega
     have hkf : k < fs.length := by have := HNb.out.1; omega
     obtain ⟨c1, o1, rfl, hl1, c0, c0'⟩ := en_cells HRa.out.1 HWW.out hke
     obtain ⟨c2, o2, rfl, hl2, d0, d0'⟩ := en_cells HRb.out.1 HWW.out hkf
     obtain ⟨m1, m2⟩ := HRa.out.2.2 k hke
     obtain ⟨m3, m4⟩ := HRb.out.2.2 k hkf
     have l1 := HL.out.1.e.la _ (mem_getE hka)
     have l2 := HL.out.2.e.la _ (mem_getE hkb)
     generalize es.getD k default = x at c0 c0' m1 m2
     generalize fs.getD k default = y at d0 d0' m3 m4
     obtain ⟨xn, xA, xm, xc⟩ := x
     obtain ⟨yn, yA, ym, yc⟩ := y
     dsimp only [En.v] at c0 c0' d0 d0' m1 m2 m3 m4
     subst m1 m3
     have HC : Hid (∀ V, Below w.heap.size w V → Calls Try.prog 38 #[.agg #[.string (sx (a.es.getD k default).nm), .slice xA xm xc], .agg #[.string (sx (b.es.getD k default).nm), .slice yA ym yc]] V fun e w' => e = .returned (.bool (decide ((a.es.getD k default) = (b.es.getD k default)))) ∧ Below V.heap.size V w') := Lib.hid fun V hV => by
       have h := Ytidkpdoiblomjaa.refSameE_any (a.es.getD k default).nm (b.es.getD k default).nm (a.es.getD k default).ats (b.es.getD k default).ats _ _ V (Ytidkpdoiblomjaa.RdV.on m2 hV) (Ytidkpdoiblomjaa.RdV.on m4 hV) (by omega) (by omega)
       have e : (decide ((a.es.getD k default).nm = (b.es.getD k default).nm) && decide ((a.es.getD k default).ats = (b.es.getD k default).ats)) = decide (a.es.getD k default = b.es.getD k default) := by
         generalize a.es.getD k default = p
         generalize b.es.getD k default = q
         obtain ⟨p1, p2⟩ := p
         obtain ⟨q1, q2⟩ := q
         simp
       rw [e] at h
       exact h
     clear m2 m4 l1 l2
     generalize hbb : decide (a.es.getD k default = b.es.getD k default) = bb at HC
     generalize hxn : sx (a.es.getD k default).nm = sxa at c0 HC
     generalize hyn : sx (b.es.getD k default).nm = sya at d0 HC
     have HBB := Lib.hid hbb
     clear hbb hxn hyn hka hkb hke hkf
     have hd := below_drew (Below.refl wr.heap.size wr)
     have HC' := Lib.hid (HC.out wr.drew (HWW.out.trans (hd.mono HWW.out.size)))
     have HD := Lib.hid hd
     have a2d : wr.drew.cell? ⟨B1, 2, none⟩ = some (.slice (some ⟨c1, o1, none⟩) na ca) := a2
     have b2d : wr.drew.cell? ⟨B2, 2, none⟩ = some (.slice (some ⟨c2, o2, none⟩) na da) := b2
     have c0d : wr.drew.cell? ⟨c1, o1 + k * 2, none⟩ = some (.string sxa) := c0
     have c1d : wr.drew.cell? ⟨c1, o1 + k * 2 + 1, none⟩ = some (.slice xA xm xc) := c0'
     have d0d : wr.drew.cell? ⟨c2, o2 + k * 2, none⟩ = some (.string sya) := d0
     have d1d : wr.drew.cell? ⟨c2, o2 + k * 2 + 1, none⟩ = some (.slice yA ym yc) := d0'
     clear hd HC a0 a1 a3 b0 b1 b3
     cases bb with
     | true =>
       have HE := Lib.hid (of_decide_eq_true HBB.out)
       go_wp2_with fail
       go_region_law (go_simp; (with_reducible refine HC'.out.mono ?_); clear HC'; rintro e w9 ⟨rfl, hb9⟩; dsimp only; have H9 := Lib.hid (HD.out.trans (hb9.mono HD.out.size)); clear hb9)
       all_goals
         go_wp2_with fail
         go_roundw
         case rel => exact ⟨k + 1, by go_num, by omega, Lib.hid (HW.out.trans (H9.out.mono HW.out.size)), Lib.hid fun j hj => by
           by_cases e : j = k
           · subst e; exact HE.out
           · exact HG.out j (by omega)⟩
         case measure => simp [intOf]; omega
     | false =>
       have HF : Hid (decide (a.es = b.es) = false) := Lib.hid (decide_eq_false (ne_getE (k := k) (of_decide_eq_false HBB.out)))
       go_wp2_with fail
       go_region_law (go_simp; (with_reducible refine HC'.out.mono ?_); clear HC'; rintro e w9 ⟨rfl, hb9⟩; dsimp only; have H9 := Lib.hid (HD.out.trans (hb9.mono HD.out.size)); clear hb9)
       all_goals
         go_wp2_with fail
         go_ret
         exact ⟨by rw [HF.out]; rfl, HWW.out.trans (H9.out.mono HWW.out.size)⟩
   · have hkn : k = na := by omega
     have HF : Hid (decide (a.es = b.es) = true) := Lib.hid (decide_eq_true (ext_getE (by rw [← HNa.out.2, ← HNb.out.2]) (by rw [← HNa.out.2, ← hkn]; exact HG.out)))
     go_wp2
     go_ret
     exact ⟨by rw [HF.out]; rfl, HWW.out⟩
theorem sameResR_any (a b : Res) (va vc xa xc : Value) (w : World) (ha : ResAt w a va vc) (hb : ResAt w b xa xc) (hl : LimR a) (hl2 : LimR b) : Calls Try.prog 21 #[rsVal a.k a.y va vc, rsVal b.k b.y xa xc] w fun e w' => e = .returned (.bool (sameR a b)) ∧ Below w.heap.size w w' := by
 by_cases h0 : a.k = b.k
 · by_cases h1 : a.y = b.y
   · by_cases h2 : a.es.length = b.es.length
     · by_cases h3 : a.cur = b.cur
       · have e : sameR a b = decide (a.es = b.es) := by simp [sameR, h0, h1, h3]
         rw [e]; exact sameResR4 a b va vc xa xc w ha hb hl hl2 h0 h1 h2 h3
       · have e : sameR a b = false := by simp [sameR, h3]
         rw [e]; exact sameResR3 a b va vc xa xc w ha hb hl hl2 h0 h1 h2 h3
     · have e : sameR a b = false := by
         have : a.es ≠ b.es := fun e => h2 (by rw [e])
         simp [sameR, this]
       rw [e]; exact sameResR2 a b va vc xa xc w ha hb hl hl2 h0 h1 h2
   · have e : sameR a b = false := by simp [sameR, h1]
     rw [e]; exact sameResR1 a b va vc xa xc w ha hb hl hl2 h0 h1
 · have e : sameR a b = false := by simp [sameR, h0]
   rw [e]; exact sameResR0 a b va vc xa xc w ha hb hl hl2 h0
end Go.Proofs.Ytidkpdoiblomjaa.Tlv
