/- A request's bytes, by the program: what it writes where the operation may be, and what it answers where it may not. -/
import Derived.Test.YtcjiofhjognklaaGreatV35
import Derived.Test.YtcjiofhjognklaaGreatV37
import Derived.Test.YtcjiofhjognklaaGreatV20
import Derived.Deep.RegionLaw
import Derived.Test.YtcjiofhjognklaaGreatV38
import Derived.Test.YtcjiofhjognklaaGreatV39
import Derived.Test.YtcjiofhjognklaaGreatV40
import Derived.Test.YtcjiofhjognklaaGreatV41
import Derived.Test.YtcjiofhjognklaaGreatV42
import Derived.Test.YtcjiofhjognklaaGreatV44
import Derived.Test.YtcjiofhjognklaaGreatV45
import Derived.Test.YtcjiofhjognklaaGreatV46
import Derived.Deep.Slices
import Derived.Deep.Strs
import Derived.Lib.SmallJoins
import Derived.SliceStrings
import Derived.WideShapes
namespace Go.Proofs.YtcjiofhjognklaaGreat.Tlv
open Go.RowKit
set_option maxRecDepth 100000
set_option linter.unusedVariables false
set_option linter.unusedSimpArgs false
theorem opB_few {o : Opn} (hm : mayO o = true) : (opB o).length ≤ 200000 := by
 have D := mayD hm
 have h1 := txt_len (t := 2) D.nm
 have h2 := txt_len (t := 3) D.ds
 have h3 := attr_len D.few
 have h4 := part_len D.pl D.psl
 have h5 := cur_len D.cl
 have h6 := num_len (t := 1) (n := o.k)
 have h7 := num_len (t := 7) (n := o.n)
 unfold opB
 repeat' split
 all_goals simp only [List.length_append, List.length_nil] at *; omega
def rqB (c n : Int) (o : Opn) : List Int := [] ++ numB 1 c ++ numB 2 n ++ valB 3 (opB o)
theorem rqB_few {c n : Int} {o : Opn} (hm : mayO o = true) : (rqB c n o).length ≤ 300000 := by
 have h1 := opB_few hm
 have h2 := num_len (t := 1) (n := c)
 have h3 := num_len (t := 2) (n := n)
 unfold rqB
 simp only [List.length_append, List.length_nil, valB_length] at *
 omega
theorem rd_low {w : World} {base : Nat} {v : Value} {l : List Int} (h : Row w base v l) : ∃ A cap, v = .slice A l.length cap ∧ l.length ≤ cap ∧ Rd w w.heap.size A l ∧ (A = none → cap = 0) := by
 obtain ⟨A, c, e, h1, h2⟩ := h.rd
 refine ⟨A, c, e, h1, h2, fun hA => ?_⟩
 subst e hA
 rcases h.2 with ⟨e0, _⟩ | ⟨g, cap, cur, e0, _⟩
 · injection e0
 · injection e0 with e0
   cases e0
def RqOut (c n : Int) (o : Opn) (w : World) (e : Ending) (w' : World) : Prop := ∃ A m k, e = .returned (.tuple #[.slice A m k, .int .i64 0]) ∧ m = (rqB c n o).length ∧ Row w' w.heap.size (.slice A m k) (rqB c n o) ∧ Below w.heap.size w w'
set_option maxHeartbeats 4000000 in
theorem reqBytes_no (c n : Int) (o : Opn) (va vp vc : Value) (w : World) (ho : OpAt w o va vp vc) (hl : Lim o) (hm : mayO o = false) : Calls Tryz.prog 27 #[rqVal c n o va vp vc] w fun e w' => e = .returned (.tuple #[.slice none 0 0, .int .i64 2]) ∧ Below w.heap.size w w' := by
 obtain ⟨Aa, ca, na, rfl, _, _⟩ := rdv_len ho.a
 obtain ⟨Ap, cp, np, rfl⟩ := ho.p.len
 obtain ⟨Ac, cc, nc, rfl, _⟩ := ho.c.len
 have hb : Below w.heap.size w (w.alloc (.cells (rqCs c n o (.slice Aa na ca) (.slice Ap np cp) (.slice Ac nc cc)) 57)) := (Below.refl _ _).alloc (Nat.le_refl _) _
 obtain ⟨a0, a1, a2, a3, a4, a5, a6, a7, a8⟩ := rq_cells (Blk.new w 57 (rqCs c n o (.slice Aa na ca) (.slice Ap np cp) (.slice Ac nc cc)))
 have HM := Lib.hid (opBytes_no o _ _ _ _ (ho.on hb) hl hm)
 have HB := Lib.hid hb
 clear hb
 go_enter Tryz.func27, Tryz.ntmps27
 go_wp2_with (go_at_call 9; (with_reducible refine HM.out.mono ?_); rintro e wx ⟨rfl, hbx⟩)
 go_ret2
 exact ⟨rfl, HB.out.trans (hbx.mono HB.out.size)⟩
set_option maxHeartbeats 16000000 in
theorem reqBytes_yes (c n : Int) (o : Opn) (va vp vc : Value) (w : World) (hc : 0 ≤ c ∧ c < 18446744073709551616) (hn : 0 ≤ n ∧ n < 18446744073709551616) (ho : OpAt w o va vp vc) (hl : Lim o) (hm : mayO o = true) : Calls Tryz.prog 27 #[rqVal c n o va vp vc] w (RqOut c n o w) := by
 obtain ⟨Aa, ca, na, rfl, _, _⟩ := rdv_len ho.a
 obtain ⟨Ap, cp, np, rfl⟩ := ho.p.len
 obtain ⟨Ac, cc, nc, rfl, _⟩ := ho.c.len
 have hb : Below w.heap.size w (w.alloc (.cells (rqCs c n o (.slice Aa na ca) (.slice Ap np cp) (.slice Ac nc cc)) 57)) := (Below.refl _ _).alloc (Nat.le_refl _) _
 have k1 := Blk.new w 57 (rqCs c n o (.slice Aa na ca) (.slice Ap np cp) (.slice Ac nc cc))
 obtain ⟨a0, a1, a2, a3, a4, a5, a6, a7, a8⟩ := rq_cells k1
 have HM := Lib.hid (opBytes_yes o _ _ _ _ (ho.on hb) hl hm)
 have HB := Lib.hid (And.intro hb k1)
 have HF := Lib.hid (And.intro (opB_few hm) (And.intro hc hn))
 have HF2 := Lib.hid (rqB_few (c := c) (n := n) hm)
 clear hb k1 hc hn hm hl ho
 go_enter Tryz.func27, Tryz.ntmps27
 go_upto_region 3 with (go_at_call 9; (with_reducible refine HM.out.mono ?_); clear HM a0 a1 a2 a3 a4 a5 a6 a7 a8; rintro e w2 ⟨A2, n2, c2, rfl, hn2, hr2, hb2⟩; dsimp only; have HR2 := Lib.hid (And.intro hn2 (And.intro hr2 hb2)); clear hn2 hr2 hb2)
 obtain ⟨hn2, hr2, hb2⟩ := HR2.out
 obtain ⟨A3, c3, e3, _, hrd2, hA2⟩ := rd_low hr2
 injection e3 with e31 e32 e33
 subst e31 e33
 clear e32
 have HR3 := Lib.hid (And.intro hrd2 hA2)
 have HB2 := Lib.hid (HB.out.1.trans (hb2.mono HB.out.1.size))
 have hk2 := HB.out.2.on hb2
 have a0 := hk2.cell 0
 have a1 := hk2.cell 1
 simp only [List.getElem?_toArray, List.getElem?_cons_zero, List.getElem?_cons_succ] at a0 a1
 have HX := Lib.hid fun W (h : Below w2.heap.size w2 W) => hk2.on h
 clear hr2 hb2 hrd2 hA2 hk2 HR2
 have HN := Lib.hid hn2
 clear hn2
 have hws : WS ((w2.alloc (.cells #[.slice none 0 0, .int .i64 0, .int .i64 0] 88)).drew) w2.heap.size w2.heap.size (some []) 0 := ws_new w2
 have hb3 : Below w2.heap.size w2 ((w2.alloc (.cells #[.slice none 0 0, .int .i64 0, .int .i64 0] 88)).drew) := YtcjiofhjognklaaGreat.below_drew ((Below.refl _ _).alloc (Nat.le_refl _) _)
 have HN1 := w_num w2.heap.size [] 0 1 c _ hws (by decide) (by decide) HF.out.2.1.1 HF.out.2.1.2 (by decide) (by decide)
 have HB3 := Lib.hid hb3
 have b0 : (w2.alloc (.cells #[.slice none 0 0, .int .i64 0, .int .i64 0] 88)).cell? ⟨w.heap.size, 0, none⟩ = some (.int .u64 c) := (HX.out _ (hb3)).cell 0
 have b1 : (w2.alloc (.cells #[.slice none 0 0, .int .i64 0, .int .i64 0] 88)).cell? ⟨w.heap.size, 1, none⟩ = some (.int .u64 n) := (HX.out _ (hb3)).cell 1
 clear hws hb3
 go_wp2_with fail
 go_region_law (first
   | (go_simp; (with_reducible refine HN1.out.mono ?_); clear HN1 a0 b0 a1 b1; rintro e w5 ⟨rfl, hs5, hwb5⟩; dsimp only; have HB5 := Lib.hid (HB3.out.trans hwb5.bel); have a1 : w5.cell? ⟨w.heap.size, 1, none⟩ = some (.int .u64 n) := (HX.out _ HB5.out).cell 1; have HN2 := w_num w2.heap.size _ _ 2 n _ hs5 (by decide) (by decide) HF.out.2.2.1 HF.out.2.2.2 (by simp [valB_length, be8_length]) (by decide); clear hs5 hwb5)
   | (go_simp; (with_reducible refine HN2.out.mono ?_); clear HN2 a1; rintro e w6 ⟨rfl, hs6, hwb6⟩; dsimp only; have HB6 := Lib.hid (HB5.out.trans hwb6.bel); have HBY := w_bytes w2.heap.size _ _ 3 (opB o) A2 c2 n2 _ hs6 HN.out (HR3.out.1.below HB6.out) HR3.out.2 (by decide) (by decide) (Nat.le_trans HF.out.1 (by decide)) (by simp [valB_length, be8_length]) (by decide); clear hs6 hwb6)
   | (go_simp; (with_reducible refine HBY.out.mono ?_); clear HBY; rintro e w7 ⟨rfl, hs7, hwb7⟩; dsimp only; have HB7 := Lib.hid (HB6.out.trans hwb7.bel); have HEN := Lib.hid (ended_ws _ _ _ (rqB c n o) _ hs7 (Nat.le_trans HF2.out (by decide))); clear hs7 hwb7)
   | (go_simp; (with_reducible refine HEN.out.mono ?_); clear HEN; rintro e w8 ⟨v8, rfl, hr8, hb8⟩; dsimp only; have HB8 := Lib.hid (HB7.out.trans (hb8.mono HB7.out.size)); have HR8 := Lib.hid (hr8.lowC (Nat.le_trans HB2.out.size HB7.out.size)); obtain ⟨A8, c8, rfl, _, _⟩ := hr8.rd; clear hr8 hb8))
 all_goals
   go_wp2
   go_ret2
   exact ⟨A8, _, c8, rfl, rfl, HR8.out, HB2.out.trans (HB8.out.mono HB2.out.size)⟩
theorem refOpBytes_any (o : Opn) (va vp vc : Value) (w : World) (ho : OpAt w o va vp vc) (hm : mayO o = true) :
   Calls Tryz.prog 17 #[opVal o va vp vc] w fun e w' => ∃ u, e = .returned u ∧ Row w' w.heap.size u (opB o) ∧ Below w.heap.size w w' := by
 rcases kinds o.k with h | h | h | h | h | h | h | h | h
 · exact rbytes1 o va vp vc w ho hm h
 · exact rbytes2 o va vp vc w ho hm h
 · exact rbytes3 o va vp vc w ho hm h
 · exact rbytes4 o va vp vc w ho hm h
 · exact rbytes5 o va vp vc w ho hm h
 · exact rbytes6 o va vp vc w ho hm h
 · exact rbytes7 o va vp vc w ho hm h
 · exact rbytes8 o va vp vc w ho hm h
 · have := (mayD hm).k
   rw [h] at this
   cases this
set_option maxHeartbeats 16000000 in
theorem refReqBytes (c n : Int) (o : Opn) (va vp vc : Value) (w : World) (hc : 0 ≤ c ∧ c < 18446744073709551616) (hn : 0 ≤ n ∧ n < 18446744073709551616) (ho : OpAt w o va vp vc) (hm : mayO o = true) :
   Calls Tryz.prog 34 #[rqVal c n o va vp vc] w fun e w' => ∃ u, e = .returned u ∧ Row w' w.heap.size u (rqB c n o) ∧ Below w.heap.size w w' := by
 obtain ⟨Aa, ca, na, rfl, _, _⟩ := rdv_len ho.a
 obtain ⟨Ap, cp, np, rfl⟩ := ho.p.len
 obtain ⟨Ac, cc, nc, rfl, _⟩ := ho.c.len
 have hb0 : Below w.heap.size w (w.alloc (.cells (rqCs c n o (.slice Aa na ca) (.slice Ap np cp) (.slice Ac nc cc)) 57)) := (Below.refl _ _).alloc (Nat.le_refl _) _
 have k0 := Blk.new w 57 (rqCs c n o (.slice Aa na ca) (.slice Ap np cp) (.slice Ac nc cc))
 obtain ⟨Bx, hBx⟩ : ∃ b, b = w.heap.size := ⟨_, rfl⟩
 have h0 := And.intro hb0 (And.intro (show Blk _ Bx 57 _ from hBx ▸ k0) (ho.on hb0))
 have HM := Lib.hid hm
 have HCN := Lib.hid (And.intro hc hn)
 clear hb0 k0 ho hm hc hn
 go_enter Tryz.func34, Tryz.ntmps34
 go_upto_region 1 with fail
 rw [← hBx]
 generalize w.alloc (.cells (rqCs c n o (.slice Aa na ca) (.slice Ap np cp) (.slice Ac nc cc)) 57) = W0 at h0 ⊢
 clear hBx
 have HS : Hid (∀ W, Below W0.heap.size W0 W → OpAt W o (.slice Aa na ca) (.slice Ap np cp) (.slice Ac nc cc) ∧ Blk W Bx 57 (rqCs c n o (.slice Aa na ca) (.slice Ap np cp) (.slice Ac nc cc))) := Lib.hid fun W hb => ⟨h0.2.2.on hb, h0.2.1.on hb⟩
 have H0 := Lib.hid h0.1
 have hb9 : Below W0.heap.size W0 W0.drew := YtcjiofhjognklaaGreat.below_drew (Below.refl _ _)
 obtain ⟨q1, hq1⟩ : ∃ q, q = numB 1 c := ⟨_, rfl⟩
 obtain ⟨q2, hq2⟩ : ∃ q, q = numB 2 n := ⟨_, rfl⟩
 obtain ⟨q3, hq3⟩ : ∃ q, q = valB 3 (opB o) := ⟨_, rfl⟩
 have hl1 : q1.length ≤ 100 := by rw [hq1]; exact num_len
 have hl2 : q2.length ≤ 100 := by rw [hq2]; exact num_len
 have hl3 : q3.length ≤ 300000 := by rw [hq3, valB_length]; have := opB_few HM.out; omega
 have HOP : Hid (q1 ++ q2 ++ q3 = rqB c n o) := Lib.hid (by rw [hq1, hq2, hq3]; unfold rqB; simp)
 have HL := Lib.hid (And.intro hl1 (And.intro hl2 hl3))
 have HN1 := Lib.hid (num_out2 1 c q1 W0.drew HCN.out.1.1 HCN.out.1.2 hq1)
 have HN2 : Hid (∀ W, Calls Tryz.prog 78 #[.int .u8 2, .int .u64 n] W fun e w' => ∃ A' c', e = .returned (.slice A' q2.length c') ∧ Rows2 w' W.heap.size A' c' q2 ∧ Below W.heap.size W w') := Lib.hid fun W => num_out2 2 n q2 W HCN.out.2.1 HCN.out.2.2 hq2
 have HQ3 := Lib.hid hq3
 have x0 : W0.drew.cell? ⟨Bx, 0, none⟩ = some (.int .u64 c) := (HS.out _ hb9).2.cell 0
 have x1 : W0.drew.cell? ⟨Bx, 1, none⟩ = some (.int .u64 n) := (HS.out _ hb9).2.cell 1
 have HB9 := Lib.hid hb9
 clear h0 hq1 hq2 hq3 hl1 hl2 hl3 hb9
 go_region_law (first
   | (go_simp; (with_reducible refine HN1.out.mono ?_); clear HN1 x0; rintro e w1 ⟨A1, c1, rfl, hr1, hb1⟩; dsimp only; have hB1 : Below W0.heap.size W0 w1 := HB9.out.trans hb1; have H1 := Lib.hid (And.intro hr1 hB1); have y1 : w1.cell? ⟨Bx, 1, none⟩ = some (.int .u64 n) := (HS.out _ hB1).2.cell 1; have HN2' := Lib.hid (HN2.out w1); clear hr1 hb1 hB1 HN2)
   | (go_simp; (with_reducible refine HN2'.out.mono ?_); clear HN2' x1 y1; rintro e w2 ⟨A2, c2, rfl, hr2, hb2⟩; dsimp only; have hB2 : Below W0.heap.size W0 w2 := H1.out.2.trans (hb2.mono H1.out.2.size); have H2 := Lib.hid (And.intro hr2 hB2); have hrow1 : RowK kB w2 W0.heap.size (.slice A1 q1.length c1) q1 := row_k.2 (Row.below (row_k.1 H1.out.1.1) hb2); have hl4 : q1.length + q2.length ≤ 1000000000 := (by have h1 := HL.out.1; have h2 := HL.out.2.1; omega); have hz2 := hB2.size; clear hr2 hb2 hB2)
   | (refine step_app kB (w := w2) (by rfl) _ _ (by rfl) q2 (by rfl) hrow1 (by rfl) (rd_k H2.out.1.2.1) H2.out.1.2.2 hl4 hz2 ?_; intro v3 w3 hrow3 hgr3))
 all_goals
   have hb3 := row_below hrow1 hgr3 hz2
   have hB3 : Below W0.heap.size W0 w3 := H2.out.2.trans hb3
   obtain ⟨A3, c3, n3, HN3, rfl, _, _⟩ := hrow3.rdn
   have H3 := Lib.hid (And.intro hrow3 hB3)
   have z2 := (HS.out _ hB3).2.cell 2
   have z3 := (HS.out _ hB3).2.cell 3
   have z4 := (HS.out _ hB3).2.cell 4
   have z5 := (HS.out _ hB3).2.cell 5
   have z6 := (HS.out _ hB3).2.cell 6
   have z7 := (HS.out _ hB3).2.cell 7
   have z8 := (HS.out _ hB3).2.cell 8
   simp only [List.getElem?_toArray, List.getElem?_cons_zero, List.getElem?_cons_succ] at z2 z3 z4 z5 z6 z7 z8
   have HO := Lib.hid (refOpBytes_any o _ _ _ w3 (HS.out _ hB3).1 HM.out)
   clear hrow1 hgr3 hb3 hB3 hrow3 hz2 hl4
   go_wp2_with (first
     | (go_at_call 17; (with_reducible refine HO.out.mono ?_); clear HO z2 z3 z4 z5 z6 z7 z8; rintro e w4 ⟨u4, rfl, hr4, hb4⟩; dsimp only; obtain ⟨A4, c4, rfl, hlc4, hrd4, hA4⟩ := rd_low hr4; have H4 := Lib.hid (And.intro (And.intro hr4 hb4) (H3.out.2.trans (hb4.mono H3.out.2.size))); have HV := Lib.hid (val_out 3 (opB o) q3 A4 c4 w4 hrd4 hA4 (Nat.le_trans (opB_few HM.out) (by decide)) HQ3.out); clear hr4 hb4 hlc4 hrd4 hA4)
     | (go_at_call 79; (with_reducible refine HV.out.mono ?_); clear HV; rintro e w5 ⟨A5, c5, rfl, hr5, hb5⟩; dsimp only; have H5 := Lib.hid (And.intro hr5 (And.intro (row_k.2 (Row.below (Row.below (row_k.1 H3.out.1) H4.out.1.2) hb5)) (H4.out.2.trans (hb5.mono H4.out.2.size)))); clear hr5 hb5)
     | (at_builtin; refine wpList_appK kB rfl _ _ rfl q3 rfl H5.out.2.1 rfl (rd_k H5.out.1.2.1) H5.out.1.2.2 (by have h1 := HL.out; rw [List.length_append]; omega) H5.out.2.2.size ?_; intro v8 w8 hrow8 hgr8; have H8 := Lib.hid (And.intro hrow8 (H5.out.2.2.trans (row_below H5.out.2.1 hgr8 H5.out.2.2.size))); clear hrow8 hgr8))
   go_ret
   refine ⟨_, rfl, by rw [← HOP.out]; exact (row_k.1 H8.out.1).lowR H0.out.size, H0.out.trans (H8.out.2.mono H0.out.size)⟩
theorem opOf_any (A : Option Addr) (c : Nat) (l : List Int) (w : World) (hr : Rd w w.heap.size A l) (hby : Byt l) (hn : l.length ≤ 100000000) : Calls Tryz.prog 10 #[.slice A l.length c] w (OpOfOut w l) := by
 rcases kinds (smallV 8 (tk false l 1)).1 with h | h | h | h | h | h | h | h | h
 · exact opOf1 A c l w hr hby hn h
 · exact opOf2 A c l w hr hby hn h
 · exact opOf3 A c l w hr hby hn h
 · exact opOf4 A c l w hr hby hn h
 · exact opOf5 A c l w hr hby hn h
 · exact opOf6 A c l w hr hby hn h
 · exact opOf7 A c l w hr hby hn h
 · exact opOf8 A c l w hr hby hn h
 · exact opOfNo A c l _ w hr hby hn rfl h
theorem refOpOf_any (A : Option Addr) (c : Nat) (l : List Int) (w : World) (hr : Rd w w.heap.size A l) (hby : Byt l) (hn : l.length ≤ 1000000) (hc : l.length ≤ c) (hcm : c ≤ 9223372036854775807) : Calls Tryz.prog 11 #[.slice A l.length c] w (RefOpOut w l) := by
 rcases kinds (numV (tk false l 1)).1 with h | h | h | h | h | h | h | h | h
 · exact rop1 A c l w hr hby hn hc hcm h
 · exact rop2 A c l w hr hby hn hc hcm h
 · exact rop3 A c l w hr hby hn hc hcm h
 · exact rop4 A c l w hr hby hn hc hcm h
 · exact rop5 A c l w hr hby hn hc hcm h
 · exact rop6 A c l w hr hby hn hc hcm h
 · exact rop7 A c l w hr hby hn hc hcm h
 · exact rop8 A c l w hr hby hn hc hcm h
 · have h0 := numV_range (f := false) (tag := 1) hby
   obtain ⟨a1, a2, a3, a4, a5, a6, a7, a8⟩ := notK h
   simp only [beq_eq_false_iff_ne, ne_eq] at a1 a2 a3 a4 a5 a6 a7 a8
   by_cases h1 : (numV (tk false l 1)).1 < 1
   · exact ropNo1 A c l _ w hr hby hn hc hcm rfl h h1
   · exact ropNo2 A c l _ w hr hby hn hc hcm rfl h (by omega)
end Go.Proofs.YtcjiofhjognklaaGreat.Tlv
namespace Go.Proofs.YtcjiofhjognklaaGreat
open Go.RowKit Go.ChangeShapes Go.WideShapes Go.Deep Go.Joins
set_option maxRecDepth 100000
set_option linter.unusedVariables false
set_option linter.unusedSimpArgs false
section
variable {H : Type} {enc : TypeId × Value → H} {w : World} {base : Nat} {spare : Nat → Bool} {held : Bool}
theorem open_at {fuel : Nat} {cs : List Value} {x : DataW H × List MemPlace} (h : DataW.trod enc Tryz.prog w base spare held fuel 67 cs = some x) : ∃ r : At, cs = r.cells ∧ r.t.length ≤ 9223372036854775807 ∧ r.v.length ≤ 9223372036854775807 := by
 obtain ⟨y0, y1, n, _, hl, h0, h1⟩ := trod_struct2 Tryz.underlying67 h
 have e0 : Tryz.prog.cellsOf 9 = 1 := by kernel_rfl
 have e2 : Tryz.prog.cellsOf 67 = 2 := by kernel_rfl
 simp only [e0] at h0 h1
 rw [e2] at hl
 match cs, hl with
 | [a, b], _ =>
   obtain ⟨s0, z0, _, g0⟩ := DataW.trod_string Tryz.underlying9 h0
   obtain ⟨s1, z1, _, g1⟩ := DataW.trod_string Tryz.underlying9 h1
   simp at z0 z1
   subst z0; subst z1
   refine ⟨⟨s0.data.toList, s1.data.toList⟩, by unfold At.cells; rw [data_sx, data_sx], ?_, ?_⟩
   · show s0.data.toList.length ≤ _
     rw [Array.length_toList]
     exact g0
   · show s1.data.toList.length ≤ _
     rw [Array.length_toList]
     exact g1
theorem open_atsC {fuel : Nat} {cs : List Value} {x : DataW H × List MemPlace} (hf : DataW.trod enc Tryz.prog w base spare held fuel 23 cs = some x) :
   ∃ (v : Value) (l : List At), cs = [v] ∧ RdV w v l ∧ l.length ≤ 9223372036854775807 ∧ Sm l := by
 have e2 : Tryz.prog.cellsOf 67 = 2 := by kernel_rfl
 rcases open_slice Tryz.underlying23 hf with ⟨hcs, _⟩ | ⟨a, n, c, m, k, D, Pl, hcs, hb, hl, hm, hmm, hxe, hi⟩
 · exact ⟨_, [], hcs, RdV.nil _, by simp, fun x hx => by simp at hx⟩
 · rw [e2] at hi
   have hl0 := hl
   have hm0 := hm
   have hle : n ≤ m := by rw [hmm]; split <;> omega
   have hel : ∀ i, i < n → ∃ r : At, (r.t.length ≤ 9223372036854775807 ∧ r.v.length ≤ 9223372036854775807) ∧ ∀ j u, r.cells[j]? = some u → w.cell? (a.add (i * 2 + j)) = some u := fun i hin => by
     obtain ⟨cs', hc, ht⟩ := hi i (by omega)
     obtain ⟨r, rfl, hr⟩ := open_at ht
     obtain ⟨_, _, hat⟩ := World.cells?_some hc
     refine ⟨r, hr, fun j u hu => ?_⟩
     have hj : j < 2 := (List.getElem?_eq_some_iff.1 hu).1
     rw [← Go.Deep.add_add, hat j hj, hu]
   have hch : ∃ l : List At, l.length = n ∧ Sm l ∧ ∀ i, i < n → ∀ j u, (l.getD i default).cells[j]? = some u → w.cell? (a.add (i * 2 + j)) = some u := by
     have hnm : n ≤ 9223372036854775807 := Nat.le_trans hl hm
     clear hi hle hl hm hmm hf hcs hxe hl0
     induction n with
     | zero => exact ⟨[], rfl, fun q hq => by simp at hq, fun i hi => by omega⟩
     | succ n ih =>
       obtain ⟨l, hl, h0, h1⟩ := ih (fun i hi => hel i (by omega)) (by omega)
       obtain ⟨r, hr, h2⟩ := hel n (by omega)
       refine ⟨l ++ [r], by simp [hl], fun q hq => ?_, fun i hi => ?_⟩
       · rcases List.mem_append.1 hq with h | h
         · exact h0 q h
         · rw [List.mem_singleton.1 h]; exact hr
       rcases Nat.lt_or_ge i n with hin | hin
       · have e : (l ++ [r]).getD i default = l.getD i default := by rw [List.getD_eq_getElem?_getD, List.getD_eq_getElem?_getD, List.getElem?_append_left (by omega)]
         rw [e]; exact h1 i hin
       · have e : (l ++ [r]).getD i default = r := by rw [List.getD_eq_getElem?_getD, List.getElem?_append_right (by omega), show i - l.length = 0 from by omega]; rfl
         rw [e]
         have : i = n := by omega
         subst this
         exact h2
   obtain ⟨l, hll, hsm, hle2⟩ := hch
   refine ⟨.slice (some a) n c, l, hcs, ⟨some a, c, by rw [hll], ⟨fun h => (by cases h), by rw [hll]; exact hl0, hm0⟩, fun hp => ?_⟩, by rw [hll]; exact Nat.le_trans hl hm, hsm⟩
   obtain ⟨b, off, spot⟩ := a
   have hc := hle2 0 (by omega) 0 _ rfl
   have hspot : spot = none := by simpa [Addr.add] using World.cell?_spot hc
   subst hspot
   have hb : b < w.heap.size := World.block_lt_of_cell? w _ hc
   refine ⟨b, off, rfl, hb, fun j hj i u hu => ?_⟩
   have := hle2 j (by omega) i u hu
   rw [Addr.add_mid, ← Nat.add_assoc] at this
   exact this
theorem trod_struct7 {P : Program} {t : TypeId} {f0 f1 f2 f3 f4 f5 f6 : Field} {fuel : Nat} {cs : List Value} {x : DataW H × List MemPlace} (ht : P.underlying t = some (.struct #[f0, f1, f2, f3, f4, f5, f6])) (h : DataW.trod enc P w base spare held fuel t cs = some x) :
   ∃ (y0 y1 y2 y3 y4 y5 y6 : DataW H × List MemPlace) (n : Nat), cs.length = P.cellsOf t ∧ DataW.trod enc P w base spare held n f0.type ((cs.drop f0.offset).take (P.cellsOf f0.type)) = some y0 ∧ DataW.trod enc P w base spare held n f1.type ((cs.drop f1.offset).take (P.cellsOf f1.type)) = some y1 ∧ DataW.trod enc P w base spare held n f2.type ((cs.drop f2.offset).take (P.cellsOf f2.type)) = some y2 ∧ DataW.trod enc P w base spare held n f3.type ((cs.drop f3.offset).take (P.cellsOf f3.type)) = some y3 ∧ DataW.trod enc P w base spare held n f4.type ((cs.drop f4.offset).take (P.cellsOf f4.type)) = some y4 ∧ DataW.trod enc P w base spare held n f5.type ((cs.drop f5.offset).take (P.cellsOf f5.type)) = some y5 ∧ DataW.trod enc P w base spare held n f6.type ((cs.drop f6.offset).take (P.cellsOf f6.type)) = some y6 := by
 obtain ⟨xs, n, _, rfl, hl, hlen, hf⟩ := DataW.trod_struct ht h
 match xs, hlen with
 | [y0, y1, y2, y3, y4, y5, y6], _ => exact ⟨y0, y1, y2, y3, y4, y5, y6, n, hl, by simpa using hf 0 f0 rfl, by simpa using hf 1 f1 rfl, by simpa using hf 2 f2 rfl, by simpa using hf 3 f3 rfl, by simpa using hf 4 f4 rfl, by simpa using hf 5 f5 rfl, by simpa using hf 6 f6 rfl⟩
end
end Go.Proofs.YtcjiofhjognklaaGreat
namespace Go.Proofs.YtcjiofhjognklaaGreat.Tlv
open Go.RowKit Go.ChangeShapes Go.WideShapes Go.Deep Go.Joins
set_option maxRecDepth 100000
set_option linter.unusedVariables false
set_option linter.unusedSimpArgs false
theorem spot_none {w : World} {x : Addr} {v : Value} (hc : w.cell? (x.add 0) = some v) : ∃ b off, x = ⟨b, off, none⟩ ∧ b < w.heap.size := by
 obtain ⟨b, off, spot⟩ := x
 have hspot : spot = none := by simpa [Addr.add] using World.cell?_spot hc
 subst hspot
 exact ⟨b, off, rfl, World.block_lt_of_cell? w _ hc⟩
section
variable {H : Type} {enc : TypeId × Value → H} {w : World} {base : Nat} {spare : Nat → Bool} {held : Bool}
theorem open_bytes {fuel : Nat} {cs : List Value} {x : DataW H × List MemPlace} (h : DataW.trod enc Tryz.prog w base spare held fuel 25 cs = some x) :
   ∃ (A : Option Addr) (c : Nat) (l : List Int), cs = [.slice A l.length c] ∧ Rd w w.heap.size A l ∧ Byt l ∧ l.length ≤ c ∧ c ≤ maxLen := by
 rcases open_ints Tryz.underlying25 Tryz.underlying5 (by kernel_rfl) h with ⟨hcs, _⟩ | ⟨a, len, cap, zs, hcs, _, hl, hm, hz, _, hcell, hwz⟩
 · exact ⟨none, 0, [], hcs, Rd.nil, fun x hx => by simp at hx, Nat.le_refl _, Nat.zero_le _⟩
 · have hz1 : len ≤ zs.length := by rw [hz]; split <;> omega
   have hll : (zs.take len).length = len := by rw [List.length_take]; omega
   refine ⟨some a, cap, zs.take len, by rw [hll]; exact hcs, fun hp => ?_, fun n hn => ?_, by omega, hm⟩
   · obtain ⟨b, off, rfl, hb⟩ := spot_none (hcell 0 (by omega))
     refine ⟨b, off, rfl, hb, fun j hj => ?_⟩
     have := hcell j (by omega)
     rw [show (⟨b, off, none⟩ : Addr).add j = ⟨b, off + j, none⟩ from by unfold Addr.add; by_cases h : j = 0 <;> simp [h]] at this
     rw [this, List.getD_eq_getElem?_getD, List.getD_eq_getElem?_getD, List.getElem?_take_of_lt (by omega)]
   · have := hwz n (List.mem_of_mem_take hn)
     simp [Lit.wf, IntKind.min, IntKind.max, IntKind.signed, IntKind.bits] at this
     omega
theorem open_bytes2 {v : Value} {d : DataW H} {p : List MemPlace} (hv : ∃ A n c, v = .slice A n c) (h : DataW.Trod enc Tryz.prog w base spare held 25 v d p) :
   ∃ (A : Option Addr) (c : Nat) (l : List Int), v = .slice A l.length c ∧ Rd w w.heap.size A l ∧ Byt l ∧ l.length ≤ c ∧ c ≤ 9223372036854775807 := by
 obtain ⟨A, n, c, rfl⟩ := hv
 obtain ⟨fuel, hf⟩ := h
 obtain ⟨A', c', l, e, h1, h2, h3, h4⟩ := open_bytes hf
 simp only [Value.cells, List.cons.injEq, and_true] at e
 exact ⟨A', c', l, e, h1, h2, h3, h4⟩
theorem open_bytesN {fuel : Nat} {cs : List Value} {x : DataW H × List MemPlace} (h : DataW.trod enc Tryz.prog w base spare held fuel 25 cs = some x) :
   ∃ (A : Option Addr) (c : Nat) (l : List Int), cs = [.slice A l.length c] ∧ Rd w w.heap.size A l ∧ Byt l ∧ l.length ≤ c ∧ c ≤ maxLen ∧ (A = none → c = 0) := by
 rcases open_ints Tryz.underlying25 Tryz.underlying5 (by kernel_rfl) h with ⟨hcs, _⟩ | ⟨a, len, cap, zs, hcs, _⟩
 · exact ⟨none, 0, [], hcs, Rd.nil, fun x hx => by simp at hx, Nat.le_refl _, Nat.zero_le _, fun _ => rfl⟩
 · obtain ⟨A, c, l, e, h1, h2, h3, h4⟩ := open_bytes h
   refine ⟨A, c, l, e, h1, h2, h3, h4, fun hA => ?_⟩
   rw [e] at hcs
   simp only [List.cons.injEq, Value.slice.injEq, and_true] at hcs
   rw [hA] at hcs
   cases hcs.1
theorem open_parts {fuel : Nat} {cs : List Value} {x : DataW H × List MemPlace} (h : DataW.trod enc Tryz.prog w base spare held fuel 24 cs = some x) :
   ∃ (v : Value) (l : List (List UInt8)), cs = [v] ∧ RdP w v l ∧ l.length ≤ 9223372036854775807 ∧ ∀ s ∈ l, s.length ≤ 9223372036854775807 := by
 rcases open_strings Tryz.underlying24 Tryz.underlying9 (by kernel_rfl) h with ⟨hcs, _⟩ | ⟨a, len, cap, ss, hcs, _, hl, hm, hz, _, hcell, hws⟩
 · exact ⟨_, [], hcs, RdP.nil _, Nat.zero_le _, fun s hs => by simp at hs⟩
 · have hz1 : len ≤ ss.length := by rw [hz]; split <;> omega
   have hll : ((ss.take len).map fun s => s.data.toList).length = len := by rw [List.length_map, List.length_take]; omega
   refine ⟨.slice (some a) len cap, (ss.take len).map fun s => s.data.toList, hcs, ⟨some a, cap, by rw [hll], ⟨fun h => (by cases h), by rw [hll]; exact hl, hm⟩, fun hp => ?_⟩, by rw [hll]; unfold maxLen at hm; omega, fun s hs => ?_⟩
   · rw [hll] at hp
     obtain ⟨b, off, rfl, hb⟩ := spot_none (hcell 0 (by omega))
     refine ⟨b, off, rfl, hb, fun j hj i u hu => ?_⟩
     rw [hll] at hj
     have h1 := hcell j (by omega)
     rw [show (⟨b, off, none⟩ : Addr).add j = ⟨b, off + j, none⟩ from by unfold Addr.add; by_cases h : j = 0 <;> simp [h]] at h1
     have hi : i < 1 := by have := (Array.getElem?_eq_some_iff.1 (by simpa [kStr] using hu : (#[Value.string (sx (((ss.take len).map fun s => s.data.toList).getD j default))] : Array Value)[i]? = some u)).1; simpa using this
     obtain rfl : i = 0 := by omega
     simp only [kStr, List.getElem?_cons_zero, Option.some.injEq] at hu
     subst hu
     have h2 : ((ss.take len).map fun s => s.data.toList).getD j default = (ss.getD j ByteArray.empty).data.toList := by
       rw [List.getD_eq_getElem?_getD, List.getElem?_map, List.getElem?_take_of_lt (by omega), List.getElem?_eq_getElem (by omega), List.getD_eq_getElem?_getD, List.getElem?_eq_getElem (by omega)]
       rfl
     rw [h2, data_sx]
     simpa [kStr] using h1
   · obtain ⟨t, ht, rfl⟩ := List.mem_map.1 hs
     have := hws t (List.mem_of_mem_take ht)
     unfold maxLen at this
     show t.data.toList.length ≤ _
     rw [Array.length_toList]
     exact this
end
end Go.Proofs.YtcjiofhjognklaaGreat.Tlv
namespace Go.Proofs.YtcjiofhjognklaaGreat.Tlv
open Go.RowKit Go.Lib Go.Sort
set_option maxRecDepth 100000
set_option linter.unusedVariables false
set_option linter.unusedSimpArgs false
theorem Calls_same {N : Nat} {args : Array Value} {v : Value} {w : World} (h : Calls Tryz.prog N args w fun e w' => e = .returned v ∧ w = w') : Calls Tryz.prog N args w fun e w' => e = .returned v ∧ Below w.heap.size w w' := h.mono fun e w' ⟨h1, h2⟩ => ⟨h1, by rw [← h2]; exact Below.refl _ _⟩
theorem sameO_refl (o : Opn) : sameO o o = true := by unfold sameO; simp
structure LB (w : World) (Bx By : Nat) (co cp : Array Value) (W : World) : Prop where
 bel : Below w.heap.size w W
 x : Blk W Bx 27 co
 y : Blk W By 27 cp
theorem LB.on {w W W' : World} {Bx By : Nat} {co cp : Array Value} (h : LB w Bx By co cp W) (hb : Below W.heap.size W W') : LB w Bx By co cp W' := ⟨h.bel.trans (hb.mono h.bel.size), h.x.on hb, h.y.on hb⟩
abbrev KnownOut (w : World) (e : Ending) (w' : World) : Prop := e = .returned (.bool true) ∧ Below w.heap.size w w'
end Go.Proofs.YtcjiofhjognklaaGreat.Tlv
