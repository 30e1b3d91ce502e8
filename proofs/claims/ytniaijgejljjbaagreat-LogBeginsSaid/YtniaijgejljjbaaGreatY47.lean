/- An act, by both: what stands behind a place; nothing. -/
import Derived.Test.YtniaijgejljjbaaGreatY46
import Derived.StillTailTactics
namespace Go.Proofs.YtniaijgejljjbaaGreat.Tlv
open Go.RowKit
set_option maxRecDepth 100000
set_option linter.unusedVariables false
set_option linter.unusedSimpArgs false
theorem range_cells {W : World} {b o : Nat} {v0 v1 v2 v3 v4 v5 v6 v7 v8 : Value} (h : W.rangeAt b o [v0, v1, v2, v3, v4, v5, v6, v7, v8]) : W.cell? ⟨b, o, none⟩ = some v0 ∧ W.cell? ⟨b, o + 1, none⟩ = some v1 ∧ W.cell? ⟨b, o + 2, none⟩ = some v2 ∧ W.cell? ⟨b, o + 3, none⟩ = some v3 ∧ W.cell? ⟨b, o + 4, none⟩ = some v4 ∧ W.cell? ⟨b, o + 5, none⟩ = some v5 ∧ W.cell? ⟨b, o + 6, none⟩ = some v6 ∧ W.cell? ⟨b, o + 7, none⟩ = some v7 ∧ W.cell? ⟨b, o + 8, none⟩ = some v8 :=
 ⟨h 0 _ rfl, h 1 _ rfl, h 2 _ rfl, h 3 _ rfl, h 4 _ rfl, h 5 _ rfl, h 6 _ rfl, h 7 _ rfl, h 8 _ rfl⟩
theorem row_fit {α : Type} [Inhabited α] {K : Kind α} {w w' : World} {base : Nat} {v : Value} {l : List α} (h : RowK K w base v l) (hb : Below w.heap.size w w') : RowK K w' base v l := RowK.onT h hb
set_option maxHeartbeats 32000000 in
theorem do_else {sp : Spc} {wz : World} (n0 g r B N m : Nat) (P R : List Rq) (K : Int) (c n : Int) (o : Opn) (Aa Ap Ac : Option Addr) (na ca np cp nc cc : Nat) (w0 w : World) (h : LR sp n0 w0 wz w g r B P R) (hn0 : n0 = w0.heap.size) (ho : OpAt w0 o (.slice Aa na ca) (.slice Ap np cp) (.slice Ac nc cc)) (hok : Mq.Ok ⟨c, n, o⟩) (hl : P.length ≤ 800) (hB : B + P.length ≤ 4611686018427388904) (hm : IntKind.u64.wrap ((B : Int) + (N : Int)) = (m : Int)) (h1 : K ≠ 1) (h2 : K ≠ 2) (h3 : K ≠ 3) (h4 : K ≠ 4) (h5 : K ≠ 5) :
   Calls Tryz.prog 10 #[.pointer (some ⟨g, 0, none⟩), .pointer (some ⟨r, 0, none⟩), .agg (actCs (K) N c n o (.slice Aa na ca) (.slice Ap np cp) (.slice Ac nc cc))] w (DoOut sp n0 w0 wz g r B P.length) := by
 have e1 : (K == 1) = false := by simp [h1]
 have e2 : (K == 2) = false := by simp [h2]
 have e3 : (K == 3) = false := by simp [h3]
 have e4 : (K == 4) = false := by simp [h4]
 have e5 : (K == 5) = false := by simp [h5]
 clear h1 h2 h3 h4 h5
 have hn0w : n0 ≤ w.heap.size := by rw [hn0]; exact h.bel.size
 obtain ⟨AR, nR, cR, hkR, _⟩ := id h.q.st
 have hbx : Below w.heap.size w (w.alloc (.cells (actCs (K) N c n o (.slice Aa na ca) (.slice Ap np cp) (.slice Ac nc cc)) 48)) := (Below.refl _ _).alloc (Nat.le_refl _) _
 have c0 : (w.alloc (.cells (actCs (K) N c n o (.slice Aa na ca) (.slice Ap np cp) (.slice Ac nc cc)) 48)).cell? ⟨r, 0, none⟩ = some (.int .u64 B) := (hkR.on hbx).cell 0
 obtain ⟨B5, hB5⟩ : ∃ b, b = w.heap.size := ⟨_, rfl⟩
 have k5 := Blk.new w 48 (actCs (K) N c n o (.slice Aa na ca) (.slice Ap np cp) (.slice Ac nc cc))
 rw [← hB5] at k5
 have HX := Lib.hid (And.intro (h.on hbx hn0w) (And.intro k5 (And.intro ho (And.intro hok (And.intro hl (And.intro hB (And.intro hn0 (hn0 ▸ Nat.le_trans (hn0 ▸ hn0w) hbx.size))))))))
 have hN0 := Lib.hid hn0w
 clear h hkR hbx k5 ho hok hl hB hn0 hn0w
 go_enter Tryz.func10, Tryz.ntmps10
 go_upto_region 1 with fail
 go_quiet (fail)
 obtain ⟨W1, hW1, hLR, hk5, hsz⟩ : ∃ W1, W1 = (w.alloc (.cells (actCs (K) N c n o (.slice Aa na ca) (.slice Ap np cp) (.slice Ac nc cc)) 48)).drewN nq ∧ LR sp n0 w0 wz W1 g r B P R ∧ Blk W1 B5 48 (actCs (K) N c n o (.slice Aa na ca) (.slice Ap np cp) (.slice Ac nc cc)) ∧ n0 ≤ W1.heap.size := ⟨_, rfl, HX.out.1.on (below_drewN (Below.refl _ _) _) HX.out.2.2.2.2.2.2.2, HX.out.2.1, HX.out.2.2.2.2.2.2.2⟩
 rw [← hW1, ← hB5]
 have a0 : W1.cell? ⟨B5, 0, none⟩ = some (.int .i64 (K)) := hk5.cell 0
 have HL := Lib.hid (And.intro hLR (And.intro hk5 hsz))
 clear hW1 hLR hk5 hsz hB5 c0 hm
 go_wp2
 go_ret
 exact DoOut.same HL.out.1
set_option maxHeartbeats 32000000 in
theorem do5_no {sp : Spc} {wz : World} (n0 g r B N m : Nat) (P R : List Rq) (c n : Int) (o : Opn) (Aa Ap Ac : Option Addr) (na ca np cp nc cc : Nat) (w0 w : World) (h : LR sp n0 w0 wz w g r B P R) (hn0 : n0 = w0.heap.size) (ho : OpAt w0 o (.slice Aa na ca) (.slice Ap np cp) (.slice Ac nc cc)) (hok : Mq.Ok ⟨c, n, o⟩) (hl : P.length ≤ 800) (hB : B + P.length ≤ 4611686018427388904) (hm : IntKind.u64.wrap ((B : Int) + (N : Int)) = (m : Int)) (hno : m < B ∨ B + P.length < m) :
   Calls Tryz.prog 10 #[.pointer (some ⟨g, 0, none⟩), .pointer (some ⟨r, 0, none⟩), .agg (actCs (5) N c n o (.slice Aa na ca) (.slice Ap np cp) (.slice Ac nc cc))] w (DoOut sp n0 w0 wz g r B P.length) := by
 have HO := Lib.hid hno
 clear hno
 have hn0w : n0 ≤ w.heap.size := by rw [hn0]; exact h.bel.size
 obtain ⟨AR, nR, cR, hkR, _⟩ := id h.q.st
 have hbx : Below w.heap.size w (w.alloc (.cells (actCs (5) N c n o (.slice Aa na ca) (.slice Ap np cp) (.slice Ac nc cc)) 48)) := (Below.refl _ _).alloc (Nat.le_refl _) _
 have c0 : (w.alloc (.cells (actCs (5) N c n o (.slice Aa na ca) (.slice Ap np cp) (.slice Ac nc cc)) 48)).cell? ⟨r, 0, none⟩ = some (.int .u64 B) := (hkR.on hbx).cell 0
 obtain ⟨B5, hB5⟩ : ∃ b, b = w.heap.size := ⟨_, rfl⟩
 have k5 := Blk.new w 48 (actCs (5) N c n o (.slice Aa na ca) (.slice Ap np cp) (.slice Ac nc cc))
 rw [← hB5] at k5
 have HX := Lib.hid (And.intro (h.on hbx hn0w) (And.intro k5 (And.intro ho (And.intro hok (And.intro hl (And.intro hB (And.intro hn0 (hn0 ▸ Nat.le_trans (hn0 ▸ hn0w) hbx.size))))))))
 have hN0 := Lib.hid hn0w
 clear h hkR hbx k5 ho hok hl hB hn0 hn0w
 go_enter Tryz.func10, Tryz.ntmps10
 go_upto_region 1 with fail
 go_quiet (fail)
 obtain ⟨W1, hW1, hLR, hk5, hsz⟩ : ∃ W1, W1 = (w.alloc (.cells (actCs (5) N c n o (.slice Aa na ca) (.slice Ap np cp) (.slice Ac nc cc)) 48)).drewN nq ∧ LR sp n0 w0 wz W1 g r B P R ∧ Blk W1 B5 48 (actCs (5) N c n o (.slice Aa na ca) (.slice Ap np cp) (.slice Ac nc cc)) ∧ n0 ≤ W1.heap.size := ⟨_, rfl, HX.out.1.on (below_drewN (Below.refl _ _) _) HX.out.2.2.2.2.2.2.2, HX.out.2.1, HX.out.2.2.2.2.2.2.2⟩
 rw [← hW1, ← hB5]
 have a0 : W1.cell? ⟨B5, 0, none⟩ = some (.int .i64 (5)) := hk5.cell 0
 have HL := Lib.hid (And.intro hLR (And.intro hk5 hsz))
 clear hW1 hLR hk5 hsz hB5 c0 hm
 obtain ⟨Ab, cb, zb, hkb⟩ := HL.out.1.blk
 obtain ⟨Ad, cd, hkd⟩ := HL.out.1.blkQ
 have HA := Lib.hid (from_no g P.length cb B m Ab zb W1 hkb (by have := HX.out.2.2.2.2.2.1; omega) (by have := HX.out.2.2.2.2.1; omega) HO.out)
 have HB := Lib.hid (rin_no r B P.length cd m Ad W1 hkd (by have := HX.out.2.2.2.2.2.1; omega) (by have := HX.out.2.2.2.2.1; omega) HO.out)
 clear hkb hkd
 go_wp2_with (first
   | (go_at_call 30; (with_reducible refine HA.out.mono ?_); clear HA; rintro e w2 ⟨rfl, rfl⟩; dsimp only)
   | (go_at_call 27; (with_reducible refine HB.out.mono ?_); clear HB; rintro e w3 ⟨rfl, n3, rfl⟩; dsimp only))
 go_ret
 exact DoOut.same (HL.out.1.on (below_drewN (Below.refl _ _) _) HL.out.2.2)
set_option maxHeartbeats 32000000 in
theorem do5_in {sp : Spc} {wz : World} (n0 g r B N m : Nat) (P R : List Rq) (c n : Int) (o : Opn) (Aa Ap Ac : Option Addr) (na ca np cp nc cc : Nat) (w0 w : World) (h : LR sp n0 w0 wz w g r B P R) (hn0 : n0 = w0.heap.size) (ho : OpAt w0 o (.slice Aa na ca) (.slice Ap np cp) (.slice Ac nc cc)) (hok : Mq.Ok ⟨c, n, o⟩) (hl : P.length ≤ 800) (hB : B + P.length ≤ 4611686018427388904) (hm : IntKind.u64.wrap ((B : Int) + (N : Int)) = (m : Int)) (hmi : m = B + N) (hin : N ≤ P.length) :
   Calls Tryz.prog 10 #[.pointer (some ⟨g, 0, none⟩), .pointer (some ⟨r, 0, none⟩), .agg (actCs (5) N c n o (.slice Aa na ca) (.slice Ap np cp) (.slice Ac nc cc))] w (DoOut sp n0 w0 wz g r B P.length) := by
 have HI := Lib.hid (And.intro hmi hin)
 clear hmi hin
 have hn0w : n0 ≤ w.heap.size := by rw [hn0]; exact h.bel.size
 obtain ⟨AR, nR, cR, hkR, _⟩ := id h.q.st
 have hbx : Below w.heap.size w (w.alloc (.cells (actCs (5) N c n o (.slice Aa na ca) (.slice Ap np cp) (.slice Ac nc cc)) 48)) := (Below.refl _ _).alloc (Nat.le_refl _) _
 have c0 : (w.alloc (.cells (actCs (5) N c n o (.slice Aa na ca) (.slice Ap np cp) (.slice Ac nc cc)) 48)).cell? ⟨r, 0, none⟩ = some (.int .u64 B) := (hkR.on hbx).cell 0
 obtain ⟨B5, hB5⟩ : ∃ b, b = w.heap.size := ⟨_, rfl⟩
 have k5 := Blk.new w 48 (actCs (5) N c n o (.slice Aa na ca) (.slice Ap np cp) (.slice Ac nc cc))
 rw [← hB5] at k5
 have HX := Lib.hid (And.intro (h.on hbx hn0w) (And.intro k5 (And.intro ho (And.intro hok (And.intro hl (And.intro hB (And.intro hn0 (hn0 ▸ Nat.le_trans (hn0 ▸ hn0w) hbx.size))))))))
 have hN0 := Lib.hid hn0w
 clear h hkR hbx k5 ho hok hl hB hn0 hn0w
 go_enter Tryz.func10, Tryz.ntmps10
 go_upto_region 1 with fail
 go_quiet (fail)
 obtain ⟨W1, hW1, hLR, hk5, hsz⟩ : ∃ W1, W1 = (w.alloc (.cells (actCs (5) N c n o (.slice Aa na ca) (.slice Ap np cp) (.slice Ac nc cc)) 48)).drewN nq ∧ LR sp n0 w0 wz W1 g r B P R ∧ Blk W1 B5 48 (actCs (5) N c n o (.slice Aa na ca) (.slice Ap np cp) (.slice Ac nc cc)) ∧ n0 ≤ W1.heap.size := ⟨_, rfl, HX.out.1.on (below_drewN (Below.refl _ _) _) HX.out.2.2.2.2.2.2.2, HX.out.2.1, HX.out.2.2.2.2.2.2.2⟩
 rw [← hW1, ← hB5]
 have a0 : W1.cell? ⟨B5, 0, none⟩ = some (.int .i64 (5)) := hk5.cell 0
 have HL := Lib.hid (And.intro hLR (And.intro hk5 hsz))
 clear hW1 hLR hk5 hsz hB5 c0 hm
 have HA := Lib.hid (from_ok n0 g B N m P W1 HL.out.1.p HL.out.2.2 (Nat.le_trans HX.out.2.2.2.2.1 (by decide)) (by have := HX.out.2.2.2.2.2.1; omega) HI.out.1 HI.out.2)
 go_upto_region 26 with (go_at_call 30; (with_reducible refine HA.out.mono ?_); clear HA; rintro e w2 ⟨Ao, nn, co, OO, rfl, hnn, hrow, hmO, howO, hb2⟩; dsimp only; have HO0 := Lib.hid (And.intro hnn (And.intro hrow (And.intro hmO (And.intro howO hb2)))); clear hnn hrow hmO howO hb2)
 obtain ⟨Ad, nd, cd, hkd, hnd, hAd, hsd, hrd⟩ := HL.out.1.q.st
 have hnP : nd = P.length := by rw [hnd, HL.out.1.len]
 have hb2 := HO0.out.2.2.2.2
 have HO : Hid (nn = OO.length ∧ RowK kRq w2 W1.heap.size (.slice Ao nn co) OO ∧ means OO = means (P.drop N) ∧ (∀ x ∈ OO, OpOwn w2 W1.heap.size x.o x.va x.vp x.vc)) := Lib.hid ⟨by rw [HO0.out.1, ← HO0.out.2.2.1, means_len], HO0.out.2.1, HO0.out.2.2.1, HO0.out.2.2.2.1⟩
 have HMM : Hid (means OO = means (R.drop N)) := Lib.hid (by rw [HO0.out.2.2.1, means_drop, means_drop, HL.out.1.m])
 have hln : nd - N = nn := by rw [HO0.out.1, means_len, List.length_drop, hnP]
 have hnn1 : nn ≤ 800 := by have := HX.out.2.2.2.2.1; omega
 have e1 : IntKind.u64.wrap ((m : Int) - (B : Int)) = (N : Int) := by have := HI.out.1; have h2 := HI.out.2; have h3 := HX.out.2.2.2.2.1; rw [IntKind.wrap_u64]; omega
 have HB := Lib.hid (rin_yes r B nd cd N m Ad w2 (hkd.on hb2) (by have := HX.out.2.2.2.2.2.1; omega) (by have := HX.out.2.2.2.2.1; omega) HI.out.1 (by rw [hnP]; exact HI.out.2))
 have hNn : N ≤ nd := by rw [hnP]; exact HI.out.2
 have hNc : N ≤ cd := Nat.le_trans hNn hAd.2.1
 have HD := Lib.hid (And.intro hnd (And.intro hAd (And.intro hsd (And.intro hrd hkd))))
 clear hnd hAd hsd hrd hkd hnP a0
 by_cases hcn : cd = N
 · have hz : R.drop N = [] := List.drop_eq_nil_of_le (by have h1 := HD.out.1; have h2 := HD.out.2.1.2.1; omega)
   have H2 : Hid (LR sp n0 w0 wz w2 g r B P R ∧ n0 ≤ w2.heap.size ∧ Blk w2 r 36 #[.int .u64 B, .slice Ad nd cd] ∧ RdS n0 w2 Ad (R.drop N) ∧ True) := Lib.hid ⟨HL.out.1.on hb2 HL.out.2.2, Nat.le_trans HL.out.2.2 hb2.size, HD.out.2.2.2.2.on hb2, by rw [hz]; exact RdS.none _ _ _, trivial⟩
   clear hz hb2
   go_upto_region 28 with (go_at_call 27; (with_reducible refine HB.out.mono ?_); clear HB; rintro e w3 ⟨rfl, n3, rfl⟩; dsimp only)
   obtain ⟨W2, hW2, hbW⟩ : ∃ W2, W2 = w2.drewN n3 ∧ Below w2.heap.size w2 W2 := ⟨_, rfl, below_drewN (Below.refl _ _) _⟩
   rw [← hW2]
   have c0 : W2.cell? ⟨r, 0, none⟩ = some (.int .u64 B) := (H2.out.2.2.1.on hbW).cell 0
   have c1 : W2.cell? ⟨r, 1, none⟩ = some (.slice Ad nd cd) := (H2.out.2.2.1.on hbW).cell 1
   have H3 := Lib.hid (And.intro (H2.out.1.on hbW H2.out.2.1) (And.intro (H2.out.2.2.2.1.frT (sp := spA) (T := TN) (FrT.of hbW H2.out.2.1) (fun _ => id)) (And.intro (Nat.le_trans H2.out.2.1 hbW.size) (And.intro (row_fit HO.out.2.1 hbW) (fun x hx => (HO.out.2.2.2 x hx).on hbW)))))
   clear hW2 hbW
   go_quiet (fail)
   go_upto_region 32 with fail
   obtain ⟨W4, hW4, hb4⟩ : ∃ W4, W4 = W2.drewN nq ∧ Below W2.heap.size W2 W4 := ⟨_, rfl, below_drewN (Below.refl _ _) _⟩
   rw [← hW4]
   have H4 := Lib.hid (And.intro (H3.out.1.on hb4 H3.out.2.2.1) (And.intro (H3.out.2.1.frT (sp := spA) (T := TN) (FrT.of hb4 H3.out.2.2.1) (fun _ => id)) (And.intro (Nat.le_trans H3.out.2.2.1 hb4.size) (And.intro (row_fit H3.out.2.2.2.1 hb4) (fun x hx => (H3.out.2.2.2.2 x hx).on hb4)))))
   clear hW4 hb4 c0 c1
   go_loopw [21] (fun s21 wr => ∃ k : Nat, s21 = .int .i64 k ∧ k ≤ nn ∧ Hid (Below W4.heap.size W4 wr)) (fun s21 _ => nn - (intOf s21).toNat)
   case atStart => exact ⟨0, rfl, Nat.zero_le _, Lib.hid (Below.refl _ _)⟩
   case round =>
     obtain ⟨k, rfl, hkn, HF⟩ := hrel
     by_cases hlt : k < nn
     · have hki : (k : Int) < (nn : Int) := by omega
       have hkO : k < OO.length := by rw [← HO.out.1]; exact hlt
       have hkR : k < (R.drop N).length := by rw [← means_len, ← HMM.out, means_len]; exact hkO
       have hmm := means_at HMM.out hkO
       have hxo := (H4.out.2.2.2.2 _ (mem_getD hkO)).on HF.out
       have hgx := HL.out.1.q.good _ (by have h := means_mem hkR; rw [means_drop] at h; exact List.mem_of_mem_drop h)
       have hyo := (HL.out.1.q.at_ _ (List.mem_of_mem_drop (mem_getD hkR))).on (HX.out.2.2.2.2.2.2.1 ▸ (H4.out.1.bel.trans (HF.out.mono H4.out.2.2.1)))
       obtain ⟨bx, ox, hex, hbx, hrx⟩ := rq_range (n0 := n0) (rds_of_row (row_fit H4.out.2.2.2.1 HF.out)).2.2.2 hkO
       obtain ⟨by_, oy, hey, hby, hry⟩ := rq_range (H4.out.2.1.frT (sp := spA) (T := TN) (FrT.of HF.out H4.out.2.2.1) (fun _ => id)) hkR
       generalize OO.getD k default = x at hmm hxo hrx
       generalize (R.drop N).getD k default = y at hmm hyo hry hgx
       obtain ⟨xc, xn, xo, xA, xla, xca, xP, xlp, xcp, xC, xlc, xcc⟩ := x
       obtain ⟨yc, yn, yo, yA, yla, yca, yP, ylp, ycp, yC, ylc, ycc⟩ := y
       obtain ⟨a0, a1, a2, a3, a4, a5, a6, a7, a8⟩ := range_cells hrx
       obtain ⟨b0, b1, b2, b3, b4, b5, b6, b7, b8⟩ := range_cells hry
       have hgx2 : (⟨yc, yn, yo⟩ : Mq).Good := hgx
       have HE : Hid (xc = yc ∧ xn = yn ∧ xo = yo) := Lib.hid (by
         unfold Rq.m at hmm
         dsimp only at hmm
         injection hmm with e1 e2 e3
         exact ⟨e1, e2, e3⟩)
       have HS : Hid (Calls Tryz.prog 29 #[rqVal xc xn xo (.slice xA xla xca) (.slice xP xlp xcp) (.slice xC xlc xcc), rqVal yc yn yo (.slice yA yla yca) (.slice yP ylp ycp) (.slice yC ylc ycc)] wr.drew fun e w' => e = .returned (.bool true) ∧ Below wr.drew.heap.size wr.drew w') := Lib.hid (by
         have h1 := sameRqR_any xc xn yc yn xo yo _ _ _ _ _ _ wr.drew (hxo.at.on (below_drew (Below.refl _ _))) (hyo.on (below_drew (Below.refl _ _))) (HE.out.2.2 ▸ hgx2.ok.lim) hgx2.ok.lim
         have h2 : sameRq xc xn xo yc yn yo = true := by
           unfold sameRq
           rw [HE.out.1, HE.out.2.1, HE.out.2.2, sameO_refl]
           simp
         rw [h2] at h1
         exact h1)
       clear hmm hxo hyo hrx hry hgx hgx2 hbx hby
       subst hex
       have HEY := Lib.hid hey
       clear hey hkO hkR
       rw [HEY.out]
       go_upto_region 34 with fail
       go_still_tail 8, (by kernel_rfl)
       change wpList _ _ _ _ _ wr.drew
       clear a0 a1 a2 a3 a4 a5 a6 a7 a8 b0 b1 b2 b3 b4 b5 b6 b7 b8
       go_wp2_with (go_at_call 29; (with_reducible refine HS.out.mono ?_); clear HS; rintro e w6 ⟨rfl, hb6⟩; dsimp only; have H6 := Lib.hid (HF.out.trans ((below_of_drew hb6).mono HF.out.size)); clear hb6)
       go_roundw
       case rel => exact ⟨k + 1, by go_num, by omega, H6⟩
       case measure => simp [intOf]; omega
     · have hki : ¬ (k : Int) < (nn : Int) := by omega
       go_wp2
       go_ret
       exact DoOut.same (H4.out.1.on HF.out H4.out.2.2.1)
 · have H2 : Hid (LR sp n0 w0 wz w2 g r B P R ∧ n0 ≤ w2.heap.size ∧ Blk w2 r 36 #[.int .u64 B, .slice Ad nd cd] ∧ RdS n0 w2 (Option.map (fun x => x.add (N * 9)) Ad) (R.drop N) ∧ True) := Lib.hid ⟨HL.out.1.on hb2 HL.out.2.2, Nat.le_trans HL.out.2.2 hb2.size, HD.out.2.2.2.2.on hb2, by
     have hr := HD.out.2.2.2.1.frT (sp := spA) (T := TN) (FrT.of hb2 HL.out.2.2) (fun _ => id)
     cases Ad with
     | none => have := HD.out.2.1.1 rfl; omega
     | some a =>
       obtain ⟨b, off, sp⟩ := a
       have hsp := HD.out.2.2.1 _ rfl
       dsimp only at hsp
       subst hsp
       simp only [Option.map_some, Addr.add_mid]
       exact hr.drop N, trivial⟩
   clear hb2
   go_upto_region 28 with (go_at_call 27; (with_reducible refine HB.out.mono ?_); clear HB; rintro e w3 ⟨rfl, n3, rfl⟩; dsimp only)
   obtain ⟨W2, hW2, hbW⟩ : ∃ W2, W2 = w2.drewN n3 ∧ Below w2.heap.size w2 W2 := ⟨_, rfl, below_drewN (Below.refl _ _) _⟩
   rw [← hW2]
   have c0 : W2.cell? ⟨r, 0, none⟩ = some (.int .u64 B) := (H2.out.2.2.1.on hbW).cell 0
   have c1 : W2.cell? ⟨r, 1, none⟩ = some (.slice Ad nd cd) := (H2.out.2.2.1.on hbW).cell 1
   have H3 := Lib.hid (And.intro (H2.out.1.on hbW H2.out.2.1) (And.intro (H2.out.2.2.2.1.frT (sp := spA) (T := TN) (FrT.of hbW H2.out.2.1) (fun _ => id)) (And.intro (Nat.le_trans H2.out.2.1 hbW.size) (And.intro (row_fit HO.out.2.1 hbW) (fun x hx => (HO.out.2.2.2 x hx).on hbW)))))
   clear hW2 hbW
   go_quiet (fail)
   go_upto_region 32 with fail
   obtain ⟨W4, hW4, hb4⟩ : ∃ W4, W4 = W2.drewN nq ∧ Below W2.heap.size W2 W4 := ⟨_, rfl, below_drewN (Below.refl _ _) _⟩
   rw [← hW4]
   have H4 := Lib.hid (And.intro (H3.out.1.on hb4 H3.out.2.2.1) (And.intro (H3.out.2.1.frT (sp := spA) (T := TN) (FrT.of hb4 H3.out.2.2.1) (fun _ => id)) (And.intro (Nat.le_trans H3.out.2.2.1 hb4.size) (And.intro (row_fit H3.out.2.2.2.1 hb4) (fun x hx => (H3.out.2.2.2.2 x hx).on hb4)))))
   clear hW4 hb4 c0 c1
   go_loopw [21] (fun s21 wr => ∃ k : Nat, s21 = .int .i64 k ∧ k ≤ nn ∧ Hid (Below W4.heap.size W4 wr)) (fun s21 _ => nn - (intOf s21).toNat)
   case atStart => exact ⟨0, rfl, Nat.zero_le _, Lib.hid (Below.refl _ _)⟩
   case round =>
     obtain ⟨k, rfl, hkn, HF⟩ := hrel
     by_cases hlt : k < nn
     · have hki : (k : Int) < (nn : Int) := by omega
       have hkO : k < OO.length := by rw [← HO.out.1]; exact hlt
       have hkR : k < (R.drop N).length := by rw [← means_len, ← HMM.out, means_len]; exact hkO
       have hmm := means_at HMM.out hkO
       have hxo := (H4.out.2.2.2.2 _ (mem_getD hkO)).on HF.out
       have hgx := HL.out.1.q.good _ (by have h := means_mem hkR; rw [means_drop] at h; exact List.mem_of_mem_drop h)
       have hyo := (HL.out.1.q.at_ _ (List.mem_of_mem_drop (mem_getD hkR))).on (HX.out.2.2.2.2.2.2.1 ▸ (H4.out.1.bel.trans (HF.out.mono H4.out.2.2.1)))
       obtain ⟨bx, ox, hex, hbx, hrx⟩ := rq_range (n0 := n0) (rds_of_row (row_fit H4.out.2.2.2.1 HF.out)).2.2.2 hkO
       obtain ⟨by_, oy, hey, hby, hry⟩ := rq_range (H4.out.2.1.frT (sp := spA) (T := TN) (FrT.of HF.out H4.out.2.2.1) (fun _ => id)) hkR
       generalize OO.getD k default = x at hmm hxo hrx
       generalize (R.drop N).getD k default = y at hmm hyo hry hgx
       obtain ⟨xc, xn, xo, xA, xla, xca, xP, xlp, xcp, xC, xlc, xcc⟩ := x
       obtain ⟨yc, yn, yo, yA, yla, yca, yP, ylp, ycp, yC, ylc, ycc⟩ := y
       obtain ⟨a0, a1, a2, a3, a4, a5, a6, a7, a8⟩ := range_cells hrx
       obtain ⟨b0, b1, b2, b3, b4, b5, b6, b7, b8⟩ := range_cells hry
       have hgx2 : (⟨yc, yn, yo⟩ : Mq).Good := hgx
       have HE : Hid (xc = yc ∧ xn = yn ∧ xo = yo) := Lib.hid (by
         unfold Rq.m at hmm
         dsimp only at hmm
         injection hmm with e1 e2 e3
         exact ⟨e1, e2, e3⟩)
       have HS : Hid (Calls Tryz.prog 29 #[rqVal xc xn xo (.slice xA xla xca) (.slice xP xlp xcp) (.slice xC xlc xcc), rqVal yc yn yo (.slice yA yla yca) (.slice yP ylp ycp) (.slice yC ylc ycc)] wr.drew fun e w' => e = .returned (.bool true) ∧ Below wr.drew.heap.size wr.drew w') := Lib.hid (by
         have h1 := sameRqR_any xc xn yc yn xo yo _ _ _ _ _ _ wr.drew (hxo.at.on (below_drew (Below.refl _ _))) (hyo.on (below_drew (Below.refl _ _))) (HE.out.2.2 ▸ hgx2.ok.lim) hgx2.ok.lim
         have h2 : sameRq xc xn xo yc yn yo = true := by
           unfold sameRq
           rw [HE.out.1, HE.out.2.1, HE.out.2.2, sameO_refl]
           simp
         rw [h2] at h1
         exact h1)
       clear hmm hxo hyo hrx hry hgx hgx2 hbx hby
       subst hex
       have HEY := Lib.hid hey
       clear hey hkO hkR
       rw [HEY.out]
       go_upto_region 34 with fail
       go_still_tail 8, (by kernel_rfl)
       change wpList _ _ _ _ _ wr.drew
       clear a0 a1 a2 a3 a4 a5 a6 a7 a8 b0 b1 b2 b3 b4 b5 b6 b7 b8
       go_wp2_with (go_at_call 29; (with_reducible refine HS.out.mono ?_); clear HS; rintro e w6 ⟨rfl, hb6⟩; dsimp only; have H6 := Lib.hid (HF.out.trans ((below_of_drew hb6).mono HF.out.size)); clear hb6)
       go_roundw
       case rel => exact ⟨k + 1, by go_num, by omega, H6⟩
       case measure => simp [intOf]; omega
     · have hki : ¬ (k : Int) < (nn : Int) := by omega
       go_wp2
       go_ret
       exact DoOut.same (H4.out.1.on HF.out H4.out.2.2.1)
end Go.Proofs.YtniaijgejljjbaaGreat.Tlv
