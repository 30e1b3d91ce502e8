/- The chapter's message: its bytes; the chapter's row. -/
import Derived.Test.YtniaijgejljjbaaGreatY21
import Derived.Test.YtniaijgejljjbaaGreatY13
import Derived.Lib.QuietBelow
import Derived.Test.YtniaijgejljjbaaGreatY27
import Derived.Test.YtniaijgejljjbaaGreatY18
import Derived.Deep.RegionLaw
import Derived.Test.YtniaijgejljjbaaGreatY28
import Derived.Test.YtniaijgejljjbaaGreatY29
import Derived.Test.YtniaijgejljjbaaGreatY30
import Derived.Test.YtniaijgejljjbaaGreatY23
import Derived.Test.YtniaijgejljjbaaGreatY26
import Derived.Test.YtniaijgejljjbaaGreatY17
import Derived.Test.YtniaijgejljjbaaGreatY31
namespace Go.Proofs.YtniaijgejljjbaaGreat.Tlv
open Go.RowKit
set_option maxRecDepth 100000
set_option linter.unusedVariables false
set_option linter.unusedSimpArgs false
open Go.Lib Go.Sort
theorem ended_ws (g m base : Nat) (q : List Int) (w : World) (h : WS w base g (some q) m) (hl : q.length ≤ 1000000000000) :
   Calls Tryz.prog 45 #[.pointer (some ⟨g, 0, none⟩)] w fun e w' => ∃ v', e = .returned (.tuple #[v', .int .i64 0]) ∧ Row w' w.heap.size v' q ∧ Below w.heap.size w w' := by
 have HE : Hid (Calls Tryz.prog 68 #[ptr g] w fun e w' => ∃ v', e = .returned (.tuple #[v', .int .i64 0]) ∧ Row w' w.heap.size v' q ∧ Below w.heap.size w w') := Lib.hid (by
   obtain ⟨v, h1, h2⟩ := h
   exact end_ok g v m q base w h1 h2 hl)
 clear h
 go_enter Tryz.func45, Tryz.ntmps45
 go_wp2_with fail
 refine HE.out.mono ?_
 rintro e w1 ⟨v1, rfl, hr, hb⟩
 have H := Lib.hid (And.intro hr hb)
 obtain ⟨A, c, rfl, _, _⟩ := hr.rd
 clear hr hb
 go_wp2_with fail
 go_ret2
 exact ⟨_, rfl, H.out⟩
theorem wpQuiet_row {P : Program} {ops : Array Oper} {C : World → Prop} {Q : Act → Prop} {a : Act} {o : Oper} {rest : List Oper} (ty : TypeId) (x : Operand) (ho : o.op = .load ty x) (D : Addr) (cs : Array Value) (hw : Region.wanted o (yielded ops a.tmps) = true) (hx : a.eval x = .pointer (some D))
   (hl : ∀ w, C w → (loadVar ty D).run P w = .ok (.agg cs) w) (h : wpQuiet P ops C Q rest (a.put o.dst (.agg cs))) : wpQuiet P ops C Q (o :: rest) a := by
 unfold wpQuiet
 rw [if_pos hw]
 refine ⟨.agg cs, fun w hC => ?_, h⟩
 unfold Oper.quietAt execOp
 simp only [ho, hx, Instr.loadAt, Instr.sureAddr, Sem.run_bind, Sem.run_pure, Result.andThen_ok, hl w hC]
 exact ⟨rfl, rfl⟩
end Go.Proofs.YtniaijgejljjbaaGreat.Tlv
namespace Go.Proofs.YtniaijgejljjbaaGreat.Tlv
open Go.RowKit
set_option maxRecDepth 100000
set_option linter.unusedVariables false
set_option linter.unusedSimpArgs false
theorem opB_few {o : Opn} (hm : mayO o = true) : (opB o).length ≤ 200000 := by
 have D := mayD hm
 have h1 := txt_len (t := 2) D.nm
 have h2 := txt_len (t := 3) D.ds
 have h3 := attr_len D.few
 have h4 := part_len D.pl D.psl
 have h5 := cur_len D.cl
 have h6 := num_len (t := 1) (n := o.k)
 have h7 := num_len (t := 7) (n := o.n)
 unfold opB
 repeat' split
 all_goals simp only [List.length_append, List.length_nil] at *; omega
def rqB (c n : Int) (o : Opn) : List Int := [] ++ numB 1 c ++ numB 2 n ++ valB 3 (opB o)
theorem rqB_few {c n : Int} {o : Opn} (hm : mayO o = true) : (rqB c n o).length ≤ 300000 := by
 have h1 := opB_few hm
 have h2 := num_len (t := 1) (n := c)
 have h3 := num_len (t := 2) (n := n)
 unfold rqB
 simp only [List.length_append, List.length_nil, valB_length] at *
 omega
theorem rd_low {w : World} {base : Nat} {v : Value} {l : List Int} (h : Row w base v l) : ∃ A cap, v = .slice A l.length cap ∧ l.length ≤ cap ∧ Rd w w.heap.size A l ∧ (A = none → cap = 0) := by
 obtain ⟨A, c, e, h1, h2⟩ := h.rd
 refine ⟨A, c, e, h1, h2, fun hA => ?_⟩
 subst e hA
 rcases h.2 with ⟨e0, _⟩ | ⟨g, cap, cur, e0, _⟩
 · injection e0
 · injection e0 with e0
   cases e0
def RqOut (c n : Int) (o : Opn) (w : World) (e : Ending) (w' : World) : Prop := ∃ A m k, e = .returned (.tuple #[.slice A m k, .int .i64 0]) ∧ m = (rqB c n o).length ∧ Row w' w.heap.size (.slice A m k) (rqB c n o) ∧ Below w.heap.size w w'
set_option maxHeartbeats 4000000 in
theorem reqBytes_no (c n : Int) (o : Opn) (va vp vc : Value) (w : World) (ho : OpAt w o va vp vc) (hl : Lim o) (hm : mayO o = false) : Calls Tryz.prog 38 #[rqVal c n o va vp vc] w fun e w' => e = .returned (.tuple #[.slice none 0 0, .int .i64 2]) ∧ Below w.heap.size w w' := by
 obtain ⟨Aa, ca, na, rfl, _, _⟩ := rdv_len ho.a
 obtain ⟨Ap, cp, np, rfl⟩ := ho.p.len
 obtain ⟨Ac, cc, nc, rfl, _⟩ := ho.c.len
 have hb : Below w.heap.size w (w.alloc (.cells (rqCs c n o (.slice Aa na ca) (.slice Ap np cp) (.slice Ac nc cc)) 46)) := (Below.refl _ _).alloc (Nat.le_refl _) _
 obtain ⟨a0, a1, a2, a3, a4, a5, a6, a7, a8⟩ := rq_cells (Blk.new w 46 (rqCs c n o (.slice Aa na ca) (.slice Ap np cp) (.slice Ac nc cc)))
 have HM := Lib.hid (opBytes_no o _ _ _ _ (ho.on hb) hl hm)
 have HB := Lib.hid hb
 clear hb
 go_enter Tryz.func38, Tryz.ntmps38
 go_wp2_with (go_at_call 44; (with_reducible refine HM.out.mono ?_); rintro e wx ⟨rfl, hbx⟩)
 go_ret2
 exact ⟨rfl, HB.out.trans (hbx.mono HB.out.size)⟩
set_option maxHeartbeats 16000000 in
theorem reqBytes_yes (c n : Int) (o : Opn) (va vp vc : Value) (w : World) (hc : 0 ≤ c ∧ c < 18446744073709551616) (hn : 0 ≤ n ∧ n < 18446744073709551616) (ho : OpAt w o va vp vc) (hl : Lim o) (hm : mayO o = true) : Calls Tryz.prog 38 #[rqVal c n o va vp vc] w (RqOut c n o w) := by
 obtain ⟨Aa, ca, na, rfl, _, _⟩ := rdv_len ho.a
 obtain ⟨Ap, cp, np, rfl⟩ := ho.p.len
 obtain ⟨Ac, cc, nc, rfl, _⟩ := ho.c.len
 have hb : Below w.heap.size w (w.alloc (.cells (rqCs c n o (.slice Aa na ca) (.slice Ap np cp) (.slice Ac nc cc)) 46)) := (Below.refl _ _).alloc (Nat.le_refl _) _
 have k1 := Blk.new w 46 (rqCs c n o (.slice Aa na ca) (.slice Ap np cp) (.slice Ac nc cc))
 obtain ⟨a0, a1, a2, a3, a4, a5, a6, a7, a8⟩ := rq_cells k1
 have HM := Lib.hid (opBytes_yes o _ _ _ _ (ho.on hb) hl hm)
 have HB := Lib.hid (And.intro hb k1)
 have HF := Lib.hid (And.intro (opB_few hm) (And.intro hc hn))
 have HF2 := Lib.hid (rqB_few (c := c) (n := n) hm)
 clear hb k1 hc hn hm hl ho
 go_enter Tryz.func38, Tryz.ntmps38
 go_upto_region 3 with (go_at_call 44; (with_reducible refine HM.out.mono ?_); clear HM a0 a1 a2 a3 a4 a5 a6 a7 a8; rintro e w2 ⟨A2, n2, c2, rfl, hn2, hr2, hb2⟩; dsimp only; have HR2 := Lib.hid (And.intro hn2 (And.intro hr2 hb2)); clear hn2 hr2 hb2)
 obtain ⟨hn2, hr2, hb2⟩ := HR2.out
 obtain ⟨A3, c3, e3, _, hrd2, hA2⟩ := rd_low hr2
 injection e3 with e31 e32 e33
 subst e31 e33
 clear e32
 have HR3 := Lib.hid (And.intro hrd2 hA2)
 have HB2 := Lib.hid (HB.out.1.trans (hb2.mono HB.out.1.size))
 have hk2 := HB.out.2.on hb2
 have a0 := hk2.cell 0
 have a1 := hk2.cell 1
 simp only [List.getElem?_toArray, List.getElem?_cons_zero, List.getElem?_cons_succ] at a0 a1
 have HX := Lib.hid fun W (h : Below w2.heap.size w2 W) => hk2.on h
 clear hr2 hb2 hrd2 hA2 hk2 HR2
 have HN := Lib.hid hn2
 clear hn2
 have hws : WS ((w2.alloc (.cells #[.slice none 0 0, .int .i64 0, .int .i64 0] 91)).drew) w2.heap.size w2.heap.size (some []) 0 := ws_new w2
 have hb3 : Below w2.heap.size w2 ((w2.alloc (.cells #[.slice none 0 0, .int .i64 0, .int .i64 0] 91)).drew) := YtniaijgejljjbaaGreat.below_drew ((Below.refl _ _).alloc (Nat.le_refl _) _)
 have HN1 := w_num w2.heap.size [] 0 1 c _ hws (by decide) (by decide) HF.out.2.1.1 HF.out.2.1.2 (by decide) (by decide)
 have HB3 := Lib.hid hb3
 have b0 : (w2.alloc (.cells #[.slice none 0 0, .int .i64 0, .int .i64 0] 91)).cell? ⟨w.heap.size, 0, none⟩ = some (.int .u64 c) := (HX.out _ (hb3)).cell 0
 have b1 : (w2.alloc (.cells #[.slice none 0 0, .int .i64 0, .int .i64 0] 91)).cell? ⟨w.heap.size, 1, none⟩ = some (.int .u64 n) := (HX.out _ (hb3)).cell 1
 clear hws hb3
 go_wp2_with fail
 go_region_law (first
   | (go_simp; (with_reducible refine HN1.out.mono ?_); clear HN1 a0 b0 a1 b1; rintro e w5 ⟨rfl, hs5, hwb5⟩; dsimp only; have HB5 := Lib.hid (HB3.out.trans hwb5.bel); have a1 : w5.cell? ⟨w.heap.size, 1, none⟩ = some (.int .u64 n) := (HX.out _ HB5.out).cell 1; have HN2 := w_num w2.heap.size _ _ 2 n _ hs5 (by decide) (by decide) HF.out.2.2.1 HF.out.2.2.2 (by simp [valB_length, be8_length]) (by decide); clear hs5 hwb5)
   | (go_simp; (with_reducible refine HN2.out.mono ?_); clear HN2 a1; rintro e w6 ⟨rfl, hs6, hwb6⟩; dsimp only; have HB6 := Lib.hid (HB5.out.trans hwb6.bel); have HBY := w_bytes w2.heap.size _ _ 3 (opB o) A2 c2 n2 _ hs6 HN.out (HR3.out.1.below HB6.out) HR3.out.2 (by decide) (by decide) (Nat.le_trans HF.out.1 (by decide)) (by simp [valB_length, be8_length]) (by decide); clear hs6 hwb6)
   | (go_simp; (with_reducible refine HBY.out.mono ?_); clear HBY; rintro e w7 ⟨rfl, hs7, hwb7⟩; dsimp only; have HB7 := Lib.hid (HB6.out.trans hwb7.bel); have HEN := Lib.hid (ended_ws _ _ _ (rqB c n o) _ hs7 (Nat.le_trans HF2.out (by decide))); clear hs7 hwb7)
   | (go_simp; (with_reducible refine HEN.out.mono ?_); clear HEN; rintro e w8 ⟨v8, rfl, hr8, hb8⟩; dsimp only; have HB8 := Lib.hid (HB7.out.trans (hb8.mono HB7.out.size)); have HR8 := Lib.hid (hr8.lowC (Nat.le_trans HB2.out.size HB7.out.size)); obtain ⟨A8, c8, rfl, _, _⟩ := hr8.rd; clear hr8 hb8))
 all_goals
   go_wp2
   go_ret2
   exact ⟨A8, _, c8, rfl, rfl, HR8.out, HB2.out.trans (HB8.out.mono HB2.out.size)⟩
theorem refOpBytes_any (o : Opn) (va vp vc : Value) (w : World) (ho : OpAt w o va vp vc) (hm : mayO o = true) :
   Calls Tryz.prog 54 #[opVal o va vp vc] w fun e w' => ∃ u, e = .returned u ∧ Row w' w.heap.size u (opB o) ∧ Below w.heap.size w w' := by
 rcases kinds o.k with h | h | h | h | h | h | h | h | h
 · exact rbytes1 o va vp vc w ho hm h
 · exact rbytes2 o va vp vc w ho hm h
 · exact rbytes3 o va vp vc w ho hm h
 · exact rbytes4 o va vp vc w ho hm h
 · exact rbytes5 o va vp vc w ho hm h
 · exact rbytes6 o va vp vc w ho hm h
 · exact rbytes7 o va vp vc w ho hm h
 · exact rbytes8 o va vp vc w ho hm h
 · have := (mayD hm).k
   rw [h] at this
   cases this
abbrev zQ : Array Value := #[.int .u64 0, .int .u64 0, .int .i64 0, .string ⟨#[]⟩, .string ⟨#[]⟩, .slice none 0 0, .slice none 0 0, .slice none 0 0, .int .i64 0]
theorem setCells_other (g k : Nat) (hne : k ≠ g) : ∀ (vs : List Value) (o : Nat) (w : World), (w.setCells g o vs).heap[k]? = w.heap[k]?
 | [], o, w => rfl
 | v :: vs, o, w => (setCells_other g k hne vs (o + 1) (w.setCell ⟨g, o, none⟩ v)).trans (Below.heap_setCell w ⟨g, o, none⟩ v k hne)
set_option maxHeartbeats 16000000 in
theorem refReqBytes (c n : Int) (o : Opn) (va vp vc : Value) (w : World) (hc : 0 ≤ c ∧ c < 18446744073709551616) (hn : 0 ≤ n ∧ n < 18446744073709551616) (ho : OpAt w o va vp vc) (hm : mayO o = true) :
   Calls Tryz.prog 40 #[rqVal c n o va vp vc] w fun e w' => ∃ u, e = .returned u ∧ Row w' w.heap.size u (rqB c n o) ∧ Below w.heap.size w w' := by
 obtain ⟨Aa, ca, na, rfl, _, _⟩ := rdv_len ho.a
 obtain ⟨Ap, cp, np, rfl⟩ := ho.p.len
 obtain ⟨Ac, cc, nc, rfl, _⟩ := ho.c.len
 have hb0 : Below w.heap.size w (w.alloc (.cells (rqCs c n o (.slice Aa na ca) (.slice Ap np cp) (.slice Ac nc cc)) 46)) := (Below.refl _ _).alloc (Nat.le_refl _) _
 have k0 := Blk.new w 46 (rqCs c n o (.slice Aa na ca) (.slice Ap np cp) (.slice Ac nc cc))
 obtain ⟨Bx, hBx⟩ : ∃ b, b = w.heap.size := ⟨_, rfl⟩
 have h0 := And.intro hb0 (And.intro (show Blk _ Bx 46 _ from hBx ▸ k0) (ho.on hb0))
 have HM := Lib.hid hm
 have HCN := Lib.hid (And.intro hc hn)
 clear hb0 k0 ho hm hc hn
 go_enter Tryz.func40, Tryz.ntmps40
 go_upto_region 1 with fail
 rw [← hBx]
 generalize w.alloc (.cells (rqCs c n o (.slice Aa na ca) (.slice Ap np cp) (.slice Ac nc cc)) 46) = W0 at h0 ⊢
 clear hBx
 have HS : Hid (∀ W, Below W0.heap.size W0 W → OpAt W o (.slice Aa na ca) (.slice Ap np cp) (.slice Ac nc cc) ∧ Blk W Bx 46 (rqCs c n o (.slice Aa na ca) (.slice Ap np cp) (.slice Ac nc cc))) := Lib.hid fun W hb => ⟨h0.2.2.on hb, h0.2.1.on hb⟩
 have H0 := Lib.hid h0.1
 have hb9 : Below W0.heap.size W0 W0.drew := YtniaijgejljjbaaGreat.below_drew (Below.refl _ _)
 obtain ⟨q1, hq1⟩ : ∃ q, q = numB 1 c := ⟨_, rfl⟩
 obtain ⟨q2, hq2⟩ : ∃ q, q = numB 2 n := ⟨_, rfl⟩
 obtain ⟨q3, hq3⟩ : ∃ q, q = valB 3 (opB o) := ⟨_, rfl⟩
 have hl1 : q1.length ≤ 100 := by rw [hq1]; exact num_len
 have hl2 : q2.length ≤ 100 := by rw [hq2]; exact num_len
 have hl3 : q3.length ≤ 300000 := by rw [hq3, valB_length]; have := opB_few HM.out; omega
 have HOP : Hid (q1 ++ q2 ++ q3 = rqB c n o) := Lib.hid (by rw [hq1, hq2, hq3]; unfold rqB; simp)
 have HL := Lib.hid (And.intro hl1 (And.intro hl2 hl3))
 have HN1 := Lib.hid (num_out2 1 c q1 W0.drew HCN.out.1.1 HCN.out.1.2 hq1)
 have HN2 : Hid (∀ W, Calls Tryz.prog 52 #[.int .u8 2, .int .u64 n] W fun e w' => ∃ A' c', e = .returned (.slice A' q2.length c') ∧ Rows2 w' W.heap.size A' c' q2 ∧ Below W.heap.size W w') := Lib.hid fun W => num_out2 2 n q2 W HCN.out.2.1 HCN.out.2.2 hq2
 have HQ3 := Lib.hid hq3
 have x0 : W0.drew.cell? ⟨Bx, 0, none⟩ = some (.int .u64 c) := (HS.out _ hb9).2.cell 0
 have x1 : W0.drew.cell? ⟨Bx, 1, none⟩ = some (.int .u64 n) := (HS.out _ hb9).2.cell 1
 have HB9 := Lib.hid hb9
 clear h0 hq1 hq2 hq3 hl1 hl2 hl3 hb9
 go_region_law (first
   | (go_simp; (with_reducible refine HN1.out.mono ?_); clear HN1 x0; rintro e w1 ⟨A1, c1, rfl, hr1, hb1⟩; dsimp only; have hB1 : Below W0.heap.size W0 w1 := HB9.out.trans hb1; have H1 := Lib.hid (And.intro hr1 hB1); have y1 : w1.cell? ⟨Bx, 1, none⟩ = some (.int .u64 n) := (HS.out _ hB1).2.cell 1; have HN2' := Lib.hid (HN2.out w1); clear hr1 hb1 hB1 HN2)
   | (go_simp; (with_reducible refine HN2'.out.mono ?_); clear HN2' x1 y1; rintro e w2 ⟨A2, c2, rfl, hr2, hb2⟩; dsimp only; have hB2 : Below W0.heap.size W0 w2 := H1.out.2.trans (hb2.mono H1.out.2.size); have H2 := Lib.hid (And.intro hr2 hB2); have hrow1 : RowK kB w2 W0.heap.size (.slice A1 q1.length c1) q1 := row_k.2 (Row.below (row_k.1 H1.out.1.1) hb2); have hl4 : q1.length + q2.length ≤ 1000000000 := (by have h1 := HL.out.1; have h2 := HL.out.2.1; omega); have hz2 := hB2.size; clear hr2 hb2 hB2)
   | (refine step_app kB (w := w2) (by rfl) _ _ (by rfl) q2 (by rfl) hrow1 (by rfl) (rd_k H2.out.1.2.1) H2.out.1.2.2 hl4 hz2 ?_; intro v3 w3 hrow3 hgr3))
 all_goals
   have hb3 := row_below hrow1 hgr3 hz2
   have hB3 : Below W0.heap.size W0 w3 := H2.out.2.trans hb3
   obtain ⟨A3, c3, n3, HN3, rfl, _, _⟩ := hrow3.rdn
   have H3 := Lib.hid (And.intro hrow3 hB3)
   have z2 := (HS.out _ hB3).2.cell 2
   have z3 := (HS.out _ hB3).2.cell 3
   have z4 := (HS.out _ hB3).2.cell 4
   have z5 := (HS.out _ hB3).2.cell 5
   have z6 := (HS.out _ hB3).2.cell 6
   have z7 := (HS.out _ hB3).2.cell 7
   have z8 := (HS.out _ hB3).2.cell 8
   simp only [List.getElem?_toArray, List.getElem?_cons_zero, List.getElem?_cons_succ] at z2 z3 z4 z5 z6 z7 z8
   have HO := Lib.hid (refOpBytes_any o _ _ _ w3 (HS.out _ hB3).1 HM.out)
   clear hrow1 hgr3 hb3 hB3 hrow3 hz2 hl4
   go_wp2_with (first
     | (go_at_call 54; (with_reducible refine HO.out.mono ?_); clear HO z2 z3 z4 z5 z6 z7 z8; rintro e w4 ⟨u4, rfl, hr4, hb4⟩; dsimp only; obtain ⟨A4, c4, rfl, hlc4, hrd4, hA4⟩ := rd_low hr4; have H4 := Lib.hid (And.intro (And.intro hr4 hb4) (H3.out.2.trans (hb4.mono H3.out.2.size))); have HV := Lib.hid (val_out 3 (opB o) q3 A4 c4 w4 hrd4 hA4 (Nat.le_trans (opB_few HM.out) (by decide)) HQ3.out); clear hr4 hb4 hlc4 hrd4 hA4)
     | (go_at_call 53; (with_reducible refine HV.out.mono ?_); clear HV; rintro e w5 ⟨A5, c5, rfl, hr5, hb5⟩; dsimp only; have H5 := Lib.hid (And.intro hr5 (And.intro (row_k.2 (Row.below (Row.below (row_k.1 H3.out.1) H4.out.1.2) hb5)) (H4.out.2.trans (hb5.mono H4.out.2.size)))); clear hr5 hb5)
     | (at_builtin; refine wpList_appK kB rfl _ _ rfl q3 rfl H5.out.2.1 rfl (rd_k H5.out.1.2.1) H5.out.1.2.2 (by have h1 := HL.out; rw [List.length_append]; omega) H5.out.2.2.size ?_; intro v8 w8 hrow8 hgr8; have H8 := Lib.hid (And.intro hrow8 (H5.out.2.2.trans (row_below H5.out.2.1 hgr8 H5.out.2.2.size))); clear hrow8 hgr8))
   go_ret
   refine ⟨_, rfl, by rw [← HOP.out]; exact (row_k.1 H8.out.1).lowR H0.out.size, H0.out.trans (H8.out.2.mono H0.out.size)⟩
end Go.Proofs.YtniaijgejljjbaaGreat.Tlv
namespace Go.Proofs.YtniaijgejljjbaaGreat.Tlv
open Go.RowKit Go.ChangeShapes Go.WideShapes Go.Deep Go.Joins
set_option maxRecDepth 100000
set_option linter.unusedVariables false
set_option linter.unusedSimpArgs false
section
variable {H : Type} {enc : TypeId × Value → H} {w : World} {base : Nat} {spare : Nat → Bool} {held : Bool}
theorem wfU {n : Int} (h : (Lit.int .u64 n).wf = true) : 0 ≤ n ∧ n < 18446744073709551616 := by
 have e1 : IntKind.u64.min = 0 := by decide
 have e2 : IntKind.u64.max = 18446744073709551615 := by decide
 simp only [Lit.wf, e1, e2, Bool.and_eq_true, decide_eq_true_eq] at h
 omega
theorem open_opC {fuel : Nat} {cs : List Value} {x : DataW H × List MemPlace} (hf : DataW.trod enc Tryz.prog w base spare held fuel 44 cs = some x) :
   ∃ (o : Opn) (va vp vc : Value), cs = (opCs o va vp vc).toList ∧ OpAt w o va vp vc ∧ Lim0 o := by
 obtain ⟨y0, y1, y2, y3, y4, y5, y6, n, hl, h0, h1, h2, h3, h4, h5, h6⟩ := YtniaijgejljjbaaGreat.trod_struct7 Tryz.underlying44 hf
 have e22 : Tryz.prog.cellsOf 39 = 1 := by kernel_rfl
 have e9 : Tryz.prog.cellsOf 9 = 1 := by kernel_rfl
 have e23 : Tryz.prog.cellsOf 40 = 1 := by kernel_rfl
 have e24 : Tryz.prog.cellsOf 41 = 1 := by kernel_rfl
 have e25 : Tryz.prog.cellsOf 42 = 1 := by kernel_rfl
 have e3 : Tryz.prog.cellsOf 3 = 1 := by kernel_rfl
 have e27 : Tryz.prog.cellsOf 44 = 7 := by kernel_rfl
 simp only [e22, e9, e23, e24, e25, e3] at h0 h1 h2 h3 h4 h5 h6
 rw [e27] at hl
 match cs, hl with
 | [a0, a1, a2, a3, a4, a5, a6], _ =>
   obtain ⟨k, z0, _, g0⟩ := DataW.trod_int Tryz.underlying39 h0
   obtain ⟨s1, z1, _, g1⟩ := DataW.trod_string Tryz.underlying9 h1
   obtain ⟨s2, z2, _, g2⟩ := DataW.trod_string Tryz.underlying9 h2
   obtain ⟨va, la, z3, ga, gb, gc⟩ := YtniaijgejljjbaaGreat.open_atsC h3
   obtain ⟨vp, lp, z4, gd, ge, gf⟩ := open_parts h4
   obtain ⟨A, c, lc, z5, gg, gh, gi, gj, gk⟩ := open_bytesN h5
   obtain ⟨nn, z6, _, g6⟩ := DataW.trod_int Tryz.underlying3 h6
   simp at z0 z1 z2 z3 z4 z5 z6
   subst z0 z1 z2 z3 z4 z5 z6
   refine ⟨⟨k, s1.data.toList, s2.data.toList, la, lp, lc, nn⟩, _, _, _, ?_, ⟨ga, gd, ⟨A, c, rfl, ⟨gk, gi, gj⟩, gg⟩⟩, ⟨?_, ?_, gc, gb, ge, gf, ?_, gh⟩⟩
   · unfold opCs
     rw [data_sx, data_sx]
   · show s1.data.toList.length ≤ _
     rw [Array.length_toList]
     exact g1
   · show s2.data.toList.length ≤ _
     rw [Array.length_toList]
     exact g2
   · unfold maxLen at gj
     show lc.length ≤ _
     omega
theorem open_req {r : Reach} {b0 : Nat} {v : Value} {d : DataW H} {p : List MemPlace} (hv : Value.okWide Tryz.prog w r b0 46 v) (h : DataW.Trod enc Tryz.prog w base spare held 46 v d p) :
   ∃ (c n : Int) (o : Opn) (va vp vc : Value), v = rqVal c n o va vp vc ∧ (0 ≤ c ∧ c < 18446744073709551616) ∧ (0 ≤ n ∧ n < 18446744073709551616) ∧ OpAt w o va vp vc ∧ Lim0 o := by
 obtain ⟨cs, rfl, hsz⟩ := okWide_struct Tryz.underlying46 hv
 obtain ⟨fuel, hf⟩ := h
 obtain ⟨y0, y1, y2, n, _, hl, h0, h1, h2⟩ := trod_struct3 Tryz.underlying46 hf
 have e55 : Tryz.prog.cellsOf 22 = 1 := by kernel_rfl
 have e27 : Tryz.prog.cellsOf 44 = 7 := by kernel_rfl
 have e57 : Tryz.prog.cellsOf 46 = 9 := by kernel_rfl
 simp only [e55, e27] at h0 h1 h2
 rw [e57] at hl
 obtain ⟨cs⟩ := cs
 simp only [Value.cells] at hl h0 h1 h2
 match cs, hl with
 | [a0, a1, a2, a3, a4, a5, a6, a7, a8], _ =>
   obtain ⟨c, z0, _, g0⟩ := DataW.trod_int Tryz.underlying22 h0
   obtain ⟨m, z1, _, g1⟩ := DataW.trod_int Tryz.underlying22 h1
   obtain ⟨o, va, vp, vc, z2, ho, hlm⟩ := open_opC h2
   simp [opCs] at z0 z1 z2
   obtain ⟨w0, w1, w2, w3, w4, w5, w6⟩ := z2
   subst z0 z1 w0 w1 w2 w3 w4 w5 w6
   exact ⟨c, m, o, _, _, _, rfl, wfU g0, wfU g1, ho, hlm⟩
end
end Go.Proofs.YtniaijgejljjbaaGreat.Tlv
