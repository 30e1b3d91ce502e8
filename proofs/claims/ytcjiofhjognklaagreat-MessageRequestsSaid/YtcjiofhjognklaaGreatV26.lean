/- The reference's sizes. -/
import Derived.Test.YtcjiofhjognklaaGreatV23
import Derived.Test.YtcjiofhjognklaaGreatV14
namespace Go.Proofs.YtcjiofhjognklaaGreat.Tlv
open Go.RowKit
set_option maxRecDepth 100000
set_option linter.unusedVariables false
set_option linter.unusedSimpArgs false
theorem numL_any (e : Int) (w : World) : Calls Tryz.prog 16 #[.int .i64 e] w fun r w' => r = .returned (.int .i64 e) ∧ w = w' := by
 go_enter Tryz.func16, Tryz.ntmps16
 go_wp2
 go_ret
 exact ⟨rfl, rfl⟩
def totS (l : List (List UInt8)) : Nat := (l.map fun s => min s.length 9001).sum
theorem totS_take (l : List (List UInt8)) (k : Nat) (h : k < l.length) : totS (l.take (k + 1)) = totS (l.take k) + min (l.getD k default).length 9001 := by
 rw [take_snocP l k h]
 simp [totS]
theorem totS_le (l : List (List UInt8)) : totS l ≤ 9001 * l.length := by
 induction l with
 | nil => simp [totS]
 | cons x t ih =>
   simp only [totS, List.map_cons, List.sum_cons, List.length_cons] at *
   have : min x.length 9001 ≤ 9001 := Nat.min_le_right _ _
   omega
theorem totS_mono (l : List (List UInt8)) (k : Nat) (h : l.length ≤ 12) (hk : k ≤ l.length) : totS (l.take k) ≤ 108012 := by
 have := totS_le (l.take k)
 have h2 : (l.take k).length ≤ 12 := by rw [List.length_take]; omega
 omega
set_option maxHeartbeats 2000000 in
theorem total_any (l : List (List UInt8)) (v : Value) (w : World) (hv : RdP w v l) (hl : l.length ≤ 12) (hs : ∀ s ∈ l, s.length ≤ 9223372036854775807) : Calls Tryz.prog 43 #[v] w fun e w' => e = .returned (.int .i64 (totS l : Nat)) ∧ w = w' := by
 obtain ⟨A, c, rfl, _, hr⟩ := hv
 have HR := Lib.hid (And.intro hr (And.intro hl hs))
 obtain ⟨n, hn⟩ : ∃ n, n = l.length := ⟨_, rfl⟩
 rw [← hn]
 have hl2 : n ≤ 12 := by omega
 have HN := Lib.hid hn
 clear hr hl hs hn
 go_enter Tryz.func43, Tryz.ntmps43
 go_wp2
 go_loopw [3, 4] (fun a i wr => ∃ k m : Nat, i = .int .i64 k ∧ a = .int .i64 m ∧ k ≤ n ∧ Hid (m = totS (l.take k)) ∧ m ≤ 108012 ∧ w = wr) (fun _ i _ => n - (intOf i).toNat)
 case atStart => exact ⟨0, 0, rfl, rfl, Nat.zero_le _, Lib.hid (by simp [totS]), by omega, rfl⟩
 case round =>
   obtain ⟨k, m, rfl, rfl, hk, HM, hm, rfl⟩ := hrel
   by_cases hlt : k < n
   · have hkl : k < l.length := by have := HN.out; omega
     obtain ⟨b1, o1, rfl, _, c0⟩ := str_cell HR.out.1 (Below.refl _ _) hkl
     have hmem : l.getD k default ∈ l := by
       rw [List.getD_eq_getElem?_getD, List.getElem?_eq_getElem hkl]
       exact List.getElem_mem _
     have hsz := HR.out.2.2 _ hmem
     have HT := Lib.hid (totS_take l k hkl)
     have HMO := Lib.hid (totS_mono l (k + 1) HR.out.2.1 hkl)
     generalize l.getD k default = x at c0 hsz HT
     clear hmem
     obtain ⟨z, hz⟩ : ∃ z, z = x.length := ⟨_, rfl⟩
     have e1 : (sx x).size = z := by rw [sx_size]; exact hz.symm
     rw [← hz] at hsz
     have HZ := Lib.hid hz
     clear hz hkl
     have HE : Hid (m + min z 9001 = totS (l.take (k + 1))) := Lib.hid (by rw [HT.out, HM.out, HZ.out])
     go_wp2
     go_roundw
     case rel => exact ⟨k + 1, m + min z 9001, by go_num, by rw [show ((m + min z 9001 : Nat) : Int) = (m : Int) + min (z : Int) 9001 from by omega], by omega, HE, by rw [HE.out]; exact HMO.out, trivial⟩
     case measure => simp [intOf]; omega
   · have hkn : k = n := by omega
     subst hkn
     go_wp2
     go_ret
     exact ⟨by rw [HM.out, HN.out, List.take_length]; rfl, rfl⟩
def bigO (o : Opn) : Bool := decide (3000 < o.name.length) || (decide (3000 < o.dst.length) || (YtcjiofhjognklaaGreat.muchV o.attrs || (decide (12 < o.parts.length) || (decide (9000 < totS o.parts) || decide (9000 < o.cur.length)))))
set_option maxHeartbeats 4000000 in
theorem big0 (o : Opn) (va vp vc : Value) (w : World) (ho : OpAt w o va vp vc) (hl : Lim o) (h0 : 3000 < o.name.length) : Calls Tryz.prog 7 #[opVal o va vp vc] w fun e w' => e = .returned (.bool true) ∧ Below w.heap.size w w' := by
 have HL := Lib.hid hl
 have HA := Lib.hid fun (W : World) (hb : Below w.heap.size w W) => ho.on hb
 obtain ⟨Aa, ca, na, rfl, _, _⟩ := rdv_len ho.a
 obtain ⟨Ap, cp, np, rfl, HNo, _⟩ := ho.p.full
 obtain ⟨Ac, cc, nc, rfl, HCo, _⟩ := ho.c.full
 have s1 : (sx o.name).size = o.name.length := sx_size _
 have s2 : (sx o.dst).size = o.dst.length := sx_size _
 have n0 : (3000 : Int) < ((sx o.name).size : Int) := by rw [s1]; omega
 have l1 := hl.ln
 have l2 := hl.lt
 rw [← s1] at l1
 rw [← s2] at l2
 have hb : Below w.heap.size w (w.alloc (.cells (opCs o (.slice Aa na ca) (.slice Ap np cp) (.slice Ac nc cc)) 27)) := (Below.refl _ _).alloc (Nat.le_refl _) _
 have k1 := Blk.new w 27 (opCs o (.slice Aa na ca) (.slice Ap np cp) (.slice Ac nc cc))
 obtain ⟨B1, hB1⟩ : ∃ b, b = w.heap.size := ⟨_, rfl⟩
 have HBB := Lib.hid hB1
 have HB0 := Lib.hid (And.intro hb (show Blk _ B1 27 _ from hB1 ▸ k1))
 clear hb k1 ho hl h0 s1 s2
 go_enter Tryz.func7, Tryz.ntmps7
 go_upto_region 1 with fail
 rw [← hB1]
 generalize w.alloc (.cells (opCs o (.slice Aa na ca) (.slice Ap np cp) (.slice Ac nc cc)) 27) = W at HB0 ⊢
 clear hB1
 have c1 : W.cell? ⟨B1, 1, none⟩ = some (.string (sx o.name)) := HB0.out.2.cell 1
 have c2 : W.cell? ⟨B1, 2, none⟩ = some (.string (sx o.dst)) := HB0.out.2.cell 2
 have c3 : W.cell? ⟨B1, 3, none⟩ = some (.slice Aa na ca) := HB0.out.2.cell 3
 have c4 : W.cell? ⟨B1, 4, none⟩ = some (.slice Ap np cp) := HB0.out.2.cell 4
 have c5 : W.cell? ⟨B1, 5, none⟩ = some (.slice Ac nc cc) := HB0.out.2.cell 5
 go_wp2
 go_ret
 exact ⟨rfl, HB0.out.1⟩
set_option maxHeartbeats 4000000 in
theorem big1 (o : Opn) (va vp vc : Value) (w : World) (ho : OpAt w o va vp vc) (hl : Lim o) (h0 : ¬ 3000 < o.name.length) (h1 : 3000 < o.dst.length) : Calls Tryz.prog 7 #[opVal o va vp vc] w fun e w' => e = .returned (.bool true) ∧ Below w.heap.size w w' := by
 have HL := Lib.hid hl
 have HA := Lib.hid fun (W : World) (hb : Below w.heap.size w W) => ho.on hb
 obtain ⟨Aa, ca, na, rfl, _, _⟩ := rdv_len ho.a
 obtain ⟨Ap, cp, np, rfl, HNo, _⟩ := ho.p.full
 obtain ⟨Ac, cc, nc, rfl, HCo, _⟩ := ho.c.full
 have s1 : (sx o.name).size = o.name.length := sx_size _
 have s2 : (sx o.dst).size = o.dst.length := sx_size _
 have n0 : ¬ (3000 : Int) < ((sx o.name).size : Int) := by rw [s1]; omega
 have n1 : (3000 : Int) < ((sx o.dst).size : Int) := by rw [s2]; omega
 have l1 := hl.ln
 have l2 := hl.lt
 rw [← s1] at l1
 rw [← s2] at l2
 have hb : Below w.heap.size w (w.alloc (.cells (opCs o (.slice Aa na ca) (.slice Ap np cp) (.slice Ac nc cc)) 27)) := (Below.refl _ _).alloc (Nat.le_refl _) _
 have k1 := Blk.new w 27 (opCs o (.slice Aa na ca) (.slice Ap np cp) (.slice Ac nc cc))
 obtain ⟨B1, hB1⟩ : ∃ b, b = w.heap.size := ⟨_, rfl⟩
 have HBB := Lib.hid hB1
 have HB0 := Lib.hid (And.intro hb (show Blk _ B1 27 _ from hB1 ▸ k1))
 clear hb k1 ho hl h0 h1 s1 s2
 go_enter Tryz.func7, Tryz.ntmps7
 go_upto_region 1 with fail
 rw [← hB1]
 generalize w.alloc (.cells (opCs o (.slice Aa na ca) (.slice Ap np cp) (.slice Ac nc cc)) 27) = W at HB0 ⊢
 clear hB1
 have c1 : W.cell? ⟨B1, 1, none⟩ = some (.string (sx o.name)) := HB0.out.2.cell 1
 have c2 : W.cell? ⟨B1, 2, none⟩ = some (.string (sx o.dst)) := HB0.out.2.cell 2
 have c3 : W.cell? ⟨B1, 3, none⟩ = some (.slice Aa na ca) := HB0.out.2.cell 3
 have c4 : W.cell? ⟨B1, 4, none⟩ = some (.slice Ap np cp) := HB0.out.2.cell 4
 have c5 : W.cell? ⟨B1, 5, none⟩ = some (.slice Ac nc cc) := HB0.out.2.cell 5
 go_wp2
 go_ret
 exact ⟨rfl, HB0.out.1⟩
set_option maxHeartbeats 4000000 in
theorem big2 (o : Opn) (va vp vc : Value) (w : World) (ho : OpAt w o va vp vc) (hl : Lim o) (h0 : ¬ 3000 < o.name.length) (h1 : ¬ 3000 < o.dst.length) (h2 : YtcjiofhjognklaaGreat.muchV o.attrs = true) : Calls Tryz.prog 7 #[opVal o va vp vc] w fun e w' => e = .returned (.bool true) ∧ Below w.heap.size w w' := by
 have HL := Lib.hid hl
 have HA := Lib.hid fun (W : World) (hb : Below w.heap.size w W) => ho.on hb
 obtain ⟨Aa, ca, na, rfl, _, _⟩ := rdv_len ho.a
 obtain ⟨Ap, cp, np, rfl, HNo, _⟩ := ho.p.full
 obtain ⟨Ac, cc, nc, rfl, HCo, _⟩ := ho.c.full
 have s1 : (sx o.name).size = o.name.length := sx_size _
 have s2 : (sx o.dst).size = o.dst.length := sx_size _
 have n0 : ¬ (3000 : Int) < ((sx o.name).size : Int) := by rw [s1]; omega
 have n1 : ¬ (3000 : Int) < ((sx o.dst).size : Int) := by rw [s2]; omega
 have HM : Hid (YtcjiofhjognklaaGreat.muchV o.attrs = true) := Lib.hid (by exact h2)
 have l1 := hl.ln
 have l2 := hl.lt
 rw [← s1] at l1
 rw [← s2] at l2
 have hb : Below w.heap.size w (w.alloc (.cells (opCs o (.slice Aa na ca) (.slice Ap np cp) (.slice Ac nc cc)) 27)) := (Below.refl _ _).alloc (Nat.le_refl _) _
 have k1 := Blk.new w 27 (opCs o (.slice Aa na ca) (.slice Ap np cp) (.slice Ac nc cc))
 obtain ⟨B1, hB1⟩ : ∃ b, b = w.heap.size := ⟨_, rfl⟩
 have HBB := Lib.hid hB1
 have HB0 := Lib.hid (And.intro hb (show Blk _ B1 27 _ from hB1 ▸ k1))
 clear hb k1 ho hl h0 h1 h2 s1 s2
 go_enter Tryz.func7, Tryz.ntmps7
 go_upto_region 1 with fail
 rw [← hB1]
 generalize w.alloc (.cells (opCs o (.slice Aa na ca) (.slice Ap np cp) (.slice Ac nc cc)) 27) = W at HB0 ⊢
 clear hB1
 have c1 : W.cell? ⟨B1, 1, none⟩ = some (.string (sx o.name)) := HB0.out.2.cell 1
 have c2 : W.cell? ⟨B1, 2, none⟩ = some (.string (sx o.dst)) := HB0.out.2.cell 2
 have c3 : W.cell? ⟨B1, 3, none⟩ = some (.slice Aa na ca) := HB0.out.2.cell 3
 have c4 : W.cell? ⟨B1, 4, none⟩ = some (.slice Ap np cp) := HB0.out.2.cell 4
 have c5 : W.cell? ⟨B1, 5, none⟩ = some (.slice Ac nc cc) := HB0.out.2.cell 5
 go_wp2_with (first
   | (go_at_call 42; (with_reducible refine (YtcjiofhjognklaaGreat.much_any o.attrs _ W (HA.out _ HB0.out.1).a HL.out.sa (Nat.le_trans HL.out.la (by decide))).mono ?_); clear c1 c2 c3 c4 c5; rintro e w3 ⟨rfl, hb⟩; dsimp only; rw [HM.out]; have HC3 := Lib.hid (And.intro (HB0.out.1.trans (hb.mono HB0.out.1.size)) (HB0.out.2.on hb)); have c1 : w3.cell? ⟨B1, 1, none⟩ = some (.string (sx o.name)) := HC3.out.2.cell 1; have c2 : w3.cell? ⟨B1, 2, none⟩ = some (.string (sx o.dst)) := HC3.out.2.cell 2; have c3 : w3.cell? ⟨B1, 3, none⟩ = some (.slice Aa na ca) := HC3.out.2.cell 3; have c4 : w3.cell? ⟨B1, 4, none⟩ = some (.slice Ap np cp) := HC3.out.2.cell 4; have c5 : w3.cell? ⟨B1, 5, none⟩ = some (.slice Ac nc cc) := HC3.out.2.cell 5; clear hb))
 go_ret
 exact ⟨rfl, HC3.out.1⟩
set_option maxHeartbeats 4000000 in
theorem big3 (o : Opn) (va vp vc : Value) (w : World) (ho : OpAt w o va vp vc) (hl : Lim o) (h0 : ¬ 3000 < o.name.length) (h1 : ¬ 3000 < o.dst.length) (h2 : ¬ YtcjiofhjognklaaGreat.muchV o.attrs = true) (h3 : 12 < o.parts.length) : Calls Tryz.prog 7 #[opVal o va vp vc] w fun e w' => e = .returned (.bool true) ∧ Below w.heap.size w w' := by
 have HL := Lib.hid hl
 have HA := Lib.hid fun (W : World) (hb : Below w.heap.size w W) => ho.on hb
 obtain ⟨Aa, ca, na, rfl, _, _⟩ := rdv_len ho.a
 obtain ⟨Ap, cp, np, rfl, HNo, _⟩ := ho.p.full
 obtain ⟨Ac, cc, nc, rfl, HCo, _⟩ := ho.c.full
 have s1 : (sx o.name).size = o.name.length := sx_size _
 have s2 : (sx o.dst).size = o.dst.length := sx_size _
 have n0 : ¬ (3000 : Int) < ((sx o.name).size : Int) := by rw [s1]; omega
 have n1 : ¬ (3000 : Int) < ((sx o.dst).size : Int) := by rw [s2]; omega
 have HM : Hid (YtcjiofhjognklaaGreat.muchV o.attrs = false) := Lib.hid (by simpa using h2)
 have n3 : (12 : Int) < (np : Int) := by rw [HNo.out]; omega
 have l1 := hl.ln
 have l2 := hl.lt
 rw [← s1] at l1
 rw [← s2] at l2
 have hb : Below w.heap.size w (w.alloc (.cells (opCs o (.slice Aa na ca) (.slice Ap np cp) (.slice Ac nc cc)) 27)) := (Below.refl _ _).alloc (Nat.le_refl _) _
 have k1 := Blk.new w 27 (opCs o (.slice Aa na ca) (.slice Ap np cp) (.slice Ac nc cc))
 obtain ⟨B1, hB1⟩ : ∃ b, b = w.heap.size := ⟨_, rfl⟩
 have HBB := Lib.hid hB1
 have HB0 := Lib.hid (And.intro hb (show Blk _ B1 27 _ from hB1 ▸ k1))
 clear hb k1 ho hl h0 h1 h2 h3 s1 s2
 go_enter Tryz.func7, Tryz.ntmps7
 go_upto_region 1 with fail
 rw [← hB1]
 generalize w.alloc (.cells (opCs o (.slice Aa na ca) (.slice Ap np cp) (.slice Ac nc cc)) 27) = W at HB0 ⊢
 clear hB1
 have c1 : W.cell? ⟨B1, 1, none⟩ = some (.string (sx o.name)) := HB0.out.2.cell 1
 have c2 : W.cell? ⟨B1, 2, none⟩ = some (.string (sx o.dst)) := HB0.out.2.cell 2
 have c3 : W.cell? ⟨B1, 3, none⟩ = some (.slice Aa na ca) := HB0.out.2.cell 3
 have c4 : W.cell? ⟨B1, 4, none⟩ = some (.slice Ap np cp) := HB0.out.2.cell 4
 have c5 : W.cell? ⟨B1, 5, none⟩ = some (.slice Ac nc cc) := HB0.out.2.cell 5
 go_wp2_with (first
   | (go_at_call 42; (with_reducible refine (YtcjiofhjognklaaGreat.much_any o.attrs _ W (HA.out _ HB0.out.1).a HL.out.sa (Nat.le_trans HL.out.la (by decide))).mono ?_); clear c1 c2 c3 c4 c5; rintro e w3 ⟨rfl, hb⟩; dsimp only; rw [HM.out]; have HC3 := Lib.hid (And.intro (HB0.out.1.trans (hb.mono HB0.out.1.size)) (HB0.out.2.on hb)); have c1 : w3.cell? ⟨B1, 1, none⟩ = some (.string (sx o.name)) := HC3.out.2.cell 1; have c2 : w3.cell? ⟨B1, 2, none⟩ = some (.string (sx o.dst)) := HC3.out.2.cell 2; have c3 : w3.cell? ⟨B1, 3, none⟩ = some (.slice Aa na ca) := HC3.out.2.cell 3; have c4 : w3.cell? ⟨B1, 4, none⟩ = some (.slice Ap np cp) := HC3.out.2.cell 4; have c5 : w3.cell? ⟨B1, 5, none⟩ = some (.slice Ac nc cc) := HC3.out.2.cell 5; clear hb))
 go_ret
 exact ⟨rfl, HC3.out.1⟩
set_option maxHeartbeats 4000000 in
theorem big4 (o : Opn) (va vp vc : Value) (w : World) (ho : OpAt w o va vp vc) (hl : Lim o) (h0 : ¬ 3000 < o.name.length) (h1 : ¬ 3000 < o.dst.length) (h2 : ¬ YtcjiofhjognklaaGreat.muchV o.attrs = true) (h3 : ¬ 12 < o.parts.length) (h4 : 9000 < totS o.parts) : Calls Tryz.prog 7 #[opVal o va vp vc] w fun e w' => e = .returned (.bool true) ∧ Below w.heap.size w w' := by
 have HL := Lib.hid hl
 have HA := Lib.hid fun (W : World) (hb : Below w.heap.size w W) => ho.on hb
 obtain ⟨Aa, ca, na, rfl, _, _⟩ := rdv_len ho.a
 obtain ⟨Ap, cp, np, rfl, HNo, _⟩ := ho.p.full
 obtain ⟨Ac, cc, nc, rfl, HCo, _⟩ := ho.c.full
 have s1 : (sx o.name).size = o.name.length := sx_size _
 have s2 : (sx o.dst).size = o.dst.length := sx_size _
 have n0 : ¬ (3000 : Int) < ((sx o.name).size : Int) := by rw [s1]; omega
 have n1 : ¬ (3000 : Int) < ((sx o.dst).size : Int) := by rw [s2]; omega
 have HM : Hid (YtcjiofhjognklaaGreat.muchV o.attrs = false) := Lib.hid (by simpa using h2)
 have n3 : ¬ (12 : Int) < (np : Int) := by rw [HNo.out]; omega
 have n4 : (9000 : Int) < ((totS o.parts : Nat) : Int) := by omega
 have HP12 := Lib.hid h3
 have l1 := hl.ln
 have l2 := hl.lt
 rw [← s1] at l1
 rw [← s2] at l2
 have hb : Below w.heap.size w (w.alloc (.cells (opCs o (.slice Aa na ca) (.slice Ap np cp) (.slice Ac nc cc)) 27)) := (Below.refl _ _).alloc (Nat.le_refl _) _
 have k1 := Blk.new w 27 (opCs o (.slice Aa na ca) (.slice Ap np cp) (.slice Ac nc cc))
 obtain ⟨B1, hB1⟩ : ∃ b, b = w.heap.size := ⟨_, rfl⟩
 have HBB := Lib.hid hB1
 have HB0 := Lib.hid (And.intro hb (show Blk _ B1 27 _ from hB1 ▸ k1))
 clear hb k1 ho hl h0 h1 h2 h3 h4 s1 s2
 go_enter Tryz.func7, Tryz.ntmps7
 go_upto_region 1 with fail
 rw [← hB1]
 generalize w.alloc (.cells (opCs o (.slice Aa na ca) (.slice Ap np cp) (.slice Ac nc cc)) 27) = W at HB0 ⊢
 clear hB1
 have c1 : W.cell? ⟨B1, 1, none⟩ = some (.string (sx o.name)) := HB0.out.2.cell 1
 have c2 : W.cell? ⟨B1, 2, none⟩ = some (.string (sx o.dst)) := HB0.out.2.cell 2
 have c3 : W.cell? ⟨B1, 3, none⟩ = some (.slice Aa na ca) := HB0.out.2.cell 3
 have c4 : W.cell? ⟨B1, 4, none⟩ = some (.slice Ap np cp) := HB0.out.2.cell 4
 have c5 : W.cell? ⟨B1, 5, none⟩ = some (.slice Ac nc cc) := HB0.out.2.cell 5
 go_wp2_with (first
   | (go_at_call 42; (with_reducible refine (YtcjiofhjognklaaGreat.much_any o.attrs _ W (HA.out _ HB0.out.1).a HL.out.sa (Nat.le_trans HL.out.la (by decide))).mono ?_); clear c1 c2 c3 c4 c5; rintro e w3 ⟨rfl, hb⟩; dsimp only; rw [HM.out]; have HC3 := Lib.hid (And.intro (HB0.out.1.trans (hb.mono HB0.out.1.size)) (HB0.out.2.on hb)); have c1 : w3.cell? ⟨B1, 1, none⟩ = some (.string (sx o.name)) := HC3.out.2.cell 1; have c2 : w3.cell? ⟨B1, 2, none⟩ = some (.string (sx o.dst)) := HC3.out.2.cell 2; have c3 : w3.cell? ⟨B1, 3, none⟩ = some (.slice Aa na ca) := HC3.out.2.cell 3; have c4 : w3.cell? ⟨B1, 4, none⟩ = some (.slice Ap np cp) := HC3.out.2.cell 4; have c5 : w3.cell? ⟨B1, 5, none⟩ = some (.slice Ac nc cc) := HC3.out.2.cell 5; clear hb)
   | (go_at_call 43; (with_reducible refine (total_any o.parts _ w3 (HA.out _ HC3.out.1).p (by have := HP12.out; omega) HL.out.sp).mono ?_); rintro e w4 ⟨rfl, rfl⟩; dsimp only))
 go_ret
 exact ⟨rfl, HC3.out.1⟩
set_option maxHeartbeats 4000000 in
theorem big5 (o : Opn) (va vp vc : Value) (w : World) (ho : OpAt w o va vp vc) (hl : Lim o) (h0 : ¬ 3000 < o.name.length) (h1 : ¬ 3000 < o.dst.length) (h2 : ¬ YtcjiofhjognklaaGreat.muchV o.attrs = true) (h3 : ¬ 12 < o.parts.length) (h4 : ¬ 9000 < totS o.parts) (h5 : 9000 < o.cur.length) : Calls Tryz.prog 7 #[opVal o va vp vc] w fun e w' => e = .returned (.bool true) ∧ Below w.heap.size w w' := by
 have HL := Lib.hid hl
 have HA := Lib.hid fun (W : World) (hb : Below w.heap.size w W) => ho.on hb
 obtain ⟨Aa, ca, na, rfl, _, _⟩ := rdv_len ho.a
 obtain ⟨Ap, cp, np, rfl, HNo, _⟩ := ho.p.full
 obtain ⟨Ac, cc, nc, rfl, HCo, _⟩ := ho.c.full
 have s1 : (sx o.name).size = o.name.length := sx_size _
 have s2 : (sx o.dst).size = o.dst.length := sx_size _
 have n0 : ¬ (3000 : Int) < ((sx o.name).size : Int) := by rw [s1]; omega
 have n1 : ¬ (3000 : Int) < ((sx o.dst).size : Int) := by rw [s2]; omega
 have HM : Hid (YtcjiofhjognklaaGreat.muchV o.attrs = false) := Lib.hid (by simpa using h2)
 have n3 : ¬ (12 : Int) < (np : Int) := by rw [HNo.out]; omega
 have n4 : ¬ (9000 : Int) < ((totS o.parts : Nat) : Int) := by omega
 have HP12 := Lib.hid h3
 have n5 : (9000 : Int) < (nc : Int) := by rw [HCo.out]; omega
 have l1 := hl.ln
 have l2 := hl.lt
 rw [← s1] at l1
 rw [← s2] at l2
 have hb : Below w.heap.size w (w.alloc (.cells (opCs o (.slice Aa na ca) (.slice Ap np cp) (.slice Ac nc cc)) 27)) := (Below.refl _ _).alloc (Nat.le_refl _) _
 have k1 := Blk.new w 27 (opCs o (.slice Aa na ca) (.slice Ap np cp) (.slice Ac nc cc))
 obtain ⟨B1, hB1⟩ : ∃ b, b = w.heap.size := ⟨_, rfl⟩
 have HBB := Lib.hid hB1
 have HB0 := Lib.hid (And.intro hb (show Blk _ B1 27 _ from hB1 ▸ k1))
 clear hb k1 ho hl h0 h1 h2 h3 h4 h5 s1 s2
 go_enter Tryz.func7, Tryz.ntmps7
 go_upto_region 1 with fail
 rw [← hB1]
 generalize w.alloc (.cells (opCs o (.slice Aa na ca) (.slice Ap np cp) (.slice Ac nc cc)) 27) = W at HB0 ⊢
 clear hB1
 have c1 : W.cell? ⟨B1, 1, none⟩ = some (.string (sx o.name)) := HB0.out.2.cell 1
 have c2 : W.cell? ⟨B1, 2, none⟩ = some (.string (sx o.dst)) := HB0.out.2.cell 2
 have c3 : W.cell? ⟨B1, 3, none⟩ = some (.slice Aa na ca) := HB0.out.2.cell 3
 have c4 : W.cell? ⟨B1, 4, none⟩ = some (.slice Ap np cp) := HB0.out.2.cell 4
 have c5 : W.cell? ⟨B1, 5, none⟩ = some (.slice Ac nc cc) := HB0.out.2.cell 5
 go_wp2_with (first
   | (go_at_call 42; (with_reducible refine (YtcjiofhjognklaaGreat.much_any o.attrs _ W (HA.out _ HB0.out.1).a HL.out.sa (Nat.le_trans HL.out.la (by decide))).mono ?_); clear c1 c2 c3 c4 c5; rintro e w3 ⟨rfl, hb⟩; dsimp only; rw [HM.out]; have HC3 := Lib.hid (And.intro (HB0.out.1.trans (hb.mono HB0.out.1.size)) (HB0.out.2.on hb)); have c1 : w3.cell? ⟨B1, 1, none⟩ = some (.string (sx o.name)) := HC3.out.2.cell 1; have c2 : w3.cell? ⟨B1, 2, none⟩ = some (.string (sx o.dst)) := HC3.out.2.cell 2; have c3 : w3.cell? ⟨B1, 3, none⟩ = some (.slice Aa na ca) := HC3.out.2.cell 3; have c4 : w3.cell? ⟨B1, 4, none⟩ = some (.slice Ap np cp) := HC3.out.2.cell 4; have c5 : w3.cell? ⟨B1, 5, none⟩ = some (.slice Ac nc cc) := HC3.out.2.cell 5; clear hb)
   | (go_at_call 43; (with_reducible refine (total_any o.parts _ w3 (HA.out _ HC3.out.1).p (by have := HP12.out; omega) HL.out.sp).mono ?_); rintro e w4 ⟨rfl, rfl⟩; dsimp only))
 go_ret
 exact ⟨rfl, HC3.out.1⟩
set_option maxHeartbeats 4000000 in
theorem big6 (o : Opn) (va vp vc : Value) (w : World) (ho : OpAt w o va vp vc) (hl : Lim o) (h0 : ¬ 3000 < o.name.length) (h1 : ¬ 3000 < o.dst.length) (h2 : ¬ YtcjiofhjognklaaGreat.muchV o.attrs = true) (h3 : ¬ 12 < o.parts.length) (h4 : ¬ 9000 < totS o.parts) (h5 : ¬ 9000 < o.cur.length) : Calls Tryz.prog 7 #[opVal o va vp vc] w fun e w' => e = .returned (.bool false) ∧ Below w.heap.size w w' := by
 have HL := Lib.hid hl
 have HA := Lib.hid fun (W : World) (hb : Below w.heap.size w W) => ho.on hb
 obtain ⟨Aa, ca, na, rfl, _, _⟩ := rdv_len ho.a
 obtain ⟨Ap, cp, np, rfl, HNo, _⟩ := ho.p.full
 obtain ⟨Ac, cc, nc, rfl, HCo, _⟩ := ho.c.full
 have s1 : (sx o.name).size = o.name.length := sx_size _
 have s2 : (sx o.dst).size = o.dst.length := sx_size _
 have n0 : ¬ (3000 : Int) < ((sx o.name).size : Int) := by rw [s1]; omega
 have n1 : ¬ (3000 : Int) < ((sx o.dst).size : Int) := by rw [s2]; omega
 have HM : Hid (YtcjiofhjognklaaGreat.muchV o.attrs = false) := Lib.hid (by simpa using h2)
 have n3 : ¬ (12 : Int) < (np : Int) := by rw [HNo.out]; omega
 have n4 : ¬ (9000 : Int) < ((totS o.parts : Nat) : Int) := by omega
 have HP12 := Lib.hid h3
 have n5 : ¬ (9000 : Int) < (nc : Int) := by rw [HCo.out]; omega
 have l1 := hl.ln
 have l2 := hl.lt
 rw [← s1] at l1
 rw [← s2] at l2
 have hb : Below w.heap.size w (w.alloc (.cells (opCs o (.slice Aa na ca) (.slice Ap np cp) (.slice Ac nc cc)) 27)) := (Below.refl _ _).alloc (Nat.le_refl _) _
 have k1 := Blk.new w 27 (opCs o (.slice Aa na ca) (.slice Ap np cp) (.slice Ac nc cc))
 obtain ⟨B1, hB1⟩ : ∃ b, b = w.heap.size := ⟨_, rfl⟩
 have HBB := Lib.hid hB1
 have HB0 := Lib.hid (And.intro hb (show Blk _ B1 27 _ from hB1 ▸ k1))
 clear hb k1 ho hl h0 h1 h2 h3 h4 h5 s1 s2
 go_enter Tryz.func7, Tryz.ntmps7
 go_upto_region 1 with fail
 rw [← hB1]
 generalize w.alloc (.cells (opCs o (.slice Aa na ca) (.slice Ap np cp) (.slice Ac nc cc)) 27) = W at HB0 ⊢
 clear hB1
 have c1 : W.cell? ⟨B1, 1, none⟩ = some (.string (sx o.name)) := HB0.out.2.cell 1
 have c2 : W.cell? ⟨B1, 2, none⟩ = some (.string (sx o.dst)) := HB0.out.2.cell 2
 have c3 : W.cell? ⟨B1, 3, none⟩ = some (.slice Aa na ca) := HB0.out.2.cell 3
 have c4 : W.cell? ⟨B1, 4, none⟩ = some (.slice Ap np cp) := HB0.out.2.cell 4
 have c5 : W.cell? ⟨B1, 5, none⟩ = some (.slice Ac nc cc) := HB0.out.2.cell 5
 go_wp2_with (first
   | (go_at_call 42; (with_reducible refine (YtcjiofhjognklaaGreat.much_any o.attrs _ W (HA.out _ HB0.out.1).a HL.out.sa (Nat.le_trans HL.out.la (by decide))).mono ?_); clear c1 c2 c3 c4 c5; rintro e w3 ⟨rfl, hb⟩; dsimp only; rw [HM.out]; have HC3 := Lib.hid (And.intro (HB0.out.1.trans (hb.mono HB0.out.1.size)) (HB0.out.2.on hb)); have c1 : w3.cell? ⟨B1, 1, none⟩ = some (.string (sx o.name)) := HC3.out.2.cell 1; have c2 : w3.cell? ⟨B1, 2, none⟩ = some (.string (sx o.dst)) := HC3.out.2.cell 2; have c3 : w3.cell? ⟨B1, 3, none⟩ = some (.slice Aa na ca) := HC3.out.2.cell 3; have c4 : w3.cell? ⟨B1, 4, none⟩ = some (.slice Ap np cp) := HC3.out.2.cell 4; have c5 : w3.cell? ⟨B1, 5, none⟩ = some (.slice Ac nc cc) := HC3.out.2.cell 5; clear hb)
   | (go_at_call 43; (with_reducible refine (total_any o.parts _ w3 (HA.out _ HC3.out.1).p (by have := HP12.out; omega) HL.out.sp).mono ?_); rintro e w4 ⟨rfl, rfl⟩; dsimp only))
 go_ret
 exact ⟨rfl, HC3.out.1⟩
theorem big_any (o : Opn) (va vp vc : Value) (w : World) (ho : OpAt w o va vp vc) (hl : Lim o) : Calls Tryz.prog 7 #[opVal o va vp vc] w fun e w' => e = .returned (.bool (bigO o)) ∧ Below w.heap.size w w' := by
 by_cases h0 : 3000 < o.name.length
 · have e : bigO o = true := by simp [bigO, h0]
   rw [e]
   exact big0 o va vp vc w ho hl h0
 by_cases h1 : 3000 < o.dst.length
 · have e : bigO o = true := by simp [bigO, h1]
   rw [e]
   exact big1 o va vp vc w ho hl h0 h1
 by_cases h2 : YtcjiofhjognklaaGreat.muchV o.attrs = true
 · have e : bigO o = true := by simp [bigO, h2]
   rw [e]
   exact big2 o va vp vc w ho hl h0 h1 h2
 by_cases h3 : 12 < o.parts.length
 · have e : bigO o = true := by simp [bigO, h3]
   rw [e]
   exact big3 o va vp vc w ho hl h0 h1 h2 h3
 by_cases h4 : 9000 < totS o.parts
 · have e : bigO o = true := by simp [bigO, h4]
   rw [e]
   exact big4 o va vp vc w ho hl h0 h1 h2 h3 h4
 by_cases h5 : 9000 < o.cur.length
 · have e : bigO o = true := by simp [bigO, h5]
   rw [e]
   exact big5 o va vp vc w ho hl h0 h1 h2 h3 h4 h5
 have e : bigO o = false := by simp only [bigO, h0, h1, h2, h3, h4, h5]; simp
 rw [e]
 exact big6 o va vp vc w ho hl h0 h1 h2 h3 h4 h5
end Go.Proofs.YtcjiofhjognklaaGreat.Tlv
