/- A place's request; what stands behind a place; one more, appended. -/
import Derived.Test.YtniaijgejljjbaaGreatY38
import Derived.Test.YtniaijgejljjbaaGreatY37
namespace Go.Proofs.YtniaijgejljjbaaGreat.Tlv
open Go.RowKit
set_option maxRecDepth 100000
set_option linter.unusedVariables false
set_option linter.unusedSimpArgs false
abbrev rqA (x : Rq) : Value := .agg (rqCs x.c x.n x.o x.va x.vp x.vc)
theorem rq_cells0 {W : World} {B : Nat} (h : Blk W B 46 zQ) : W.cell? ⟨B, 0, none⟩ = some (.int .u64 0) ∧ W.cell? ⟨B, 1, none⟩ = some (.int .u64 0) ∧ W.cell? ⟨B, 2, none⟩ = some (.int .i64 0) ∧ W.cell? ⟨B, 3, none⟩ = some (.string ⟨#[]⟩) ∧ W.cell? ⟨B, 4, none⟩ = some (.string ⟨#[]⟩) ∧ W.cell? ⟨B, 5, none⟩ = some (.slice none 0 0) ∧ W.cell? ⟨B, 6, none⟩ = some (.slice none 0 0) ∧ W.cell? ⟨B, 7, none⟩ = some (.slice none 0 0) ∧ W.cell? ⟨B, 8, none⟩ = some (.int .i64 0) := ⟨h.cell 0, h.cell 1, h.cell 2, h.cell 3, h.cell 4, h.cell 5, h.cell 6, h.cell 7, h.cell 8⟩
def AtOut (m : Mq) (w : World) (e : Ending) (w' : World) : Prop := ∃ x : Rq, x.m = m ∧ e = .returned (.tuple #[rqA x, .int .i64 0]) ∧ OpOwn w' w.heap.size x.o x.va x.vp x.vc ∧ Below w.heap.size w w'
set_option maxHeartbeats 16000000 in
theorem at_ok {sp : Spc} (n0 g B j m : Nat) (P : List Rq) (w : World) (h : LogP sp n0 w g B P) (hn0 : n0 ≤ w.heap.size) (hl : P.length ≤ 1000) (hB : B ≤ 9000000000000000000) (hm : m = B + (j + 1)) (hj : j < P.length) :
   Calls Tryz.prog 17 #[.pointer (some ⟨g, 0, none⟩), .int .u64 m] w (AtOut (P.getD j default).m w) := by
 obtain ⟨⟨A, n, c, hk, hO, hsp⟩, hown, hlow, hgood, hspn⟩ := h
 have hnl := hO.len
 have hn1 : n ≤ 1000 := by omega
 have hjn : j < n := by omega
 have hji : (j : Int) < (n : Int) := by omega
 have hb1 : Below w.heap.size w (w.alloc (.cells zQ 46)) := (Below.refl _ _).alloc (Nat.le_refl _) _
 have hk1 := hk.on hb1
 have HI := Lib.hid (index_in g B n c (j + 1) m A _ _ hk1 hB (by omega) hm (by omega))
 have HG := Lib.hid (hgood _ (means_mem hj))
 have hat := (hown _ (mem_getD hj)).at.on hb1
 obtain ⟨b, off, rfl, hbl, hra⟩ := it_range (hO.on hb1).rd hj
 have hz := Blk.new w 46 zQ
 generalize P.getD j default = x at HG hat hra ⊢
 obtain ⟨xc, xn, xo, Aa, la, ca, Ap, lp, cp, Ac, lc, cc⟩ := x
 have hra2 : (w.alloc (.cells zQ 46)).rangeAt b (off + j * 10) [.int .u64 xc, .int .u64 xn, .int .i64 xo.k, .string (sx xo.name), .string (sx xo.dst), .slice Aa la ca, .slice Ap lp cp, .slice Ac lc cc, .int .i64 xo.n] := fun q v hv => hra q v (by
   have hq : q < 9 := (List.getElem?_eq_some_iff.1 hv).1
   rw [← hv]
   unfold itL
   rcases q with _ | _ | _ | _ | _ | _ | _ | _ | _ | q <;> first | rfl | omega)
 have HC := Lib.hid (copyRq xc xn xo _ _ _ _ hat HG.out.ok.lim HG.out.ok.cur)
 have c2 : (w.alloc (.cells zQ 46)).cell? ⟨g, 2, none⟩ = some (.slice (some ⟨b, off, none⟩) n c) := hk1.cell 2
 obtain ⟨B1, hB1⟩ : ∃ b, b = w.heap.size := ⟨_, rfl⟩
 have HBB := Lib.hid hB1
 rw [← hB1] at hz
 have HX := Lib.hid (And.intro hra2 (And.intro hb1 hz))
 clear hk hO hown hlow hgood hnl hra hra2 hat hb1 hk1 hz hm hl hbl hB1 hn0
 go_enter Tryz.func17, Tryz.ntmps17
 go_upto_region 6 with (go_at_call 35; (with_reducible refine HI.out.mono ?_); rintro e w1 ⟨rfl, rfl⟩)
 rw [← HBB.out]
 generalize w.alloc (.cells #[.int .u64 0, .int .u64 0, .int .i64 0, .string ⟨#[]⟩, .string ⟨#[]⟩, .slice none 0 0, .slice none 0 0, .slice none 0 0, .int .i64 0] 46) = W0 at HX HC c2 ⊢
 clear HI
 go_wp2_with (first
   | (refine wpList_load_mid rfl 46 _ rfl b (off + j * 10) rfl [.int .u64 xc, .int .u64 xn, .int .i64 xo.k, .string (sx xo.name), .string (sx xo.dst), .slice Aa la ca, .slice Ap lp cp, .slice Ac lc cc, .int .i64 xo.n] _ HX.out.1 rfl rfl (by kernel_rfl) ?_)
   | (go_at_call 37; (with_reducible refine HC.out.mono ?_); clear HC c2; rintro e w2 ⟨A2, n2, c2, A3, n3, c3, A4, n4, c4, rfl, hown, hb2⟩; dsimp only; have H2 := Lib.hid (And.intro hown hb2); clear hown hb2)
   | (refine wpList_store_rowTo rfl 46 _ _ rfl rfl B1 (rqCs xc xn xo (.slice A2 n2 c2) (.slice A3 n3 c3) (.slice A4 n4 c4)) rfl rfl 46 zQ (HX.out.2.2.on H2.out.2) (by kernel_rfl) rfl (by kernel_rfl) ?_))
 have h9 := (HX.out.2.2.on H2.out.2).row (rqCs xc xn xo (.slice A2 n2 c2) (.slice A3 n3 c3) (.slice A4 n4 c4))
 have h8 := below_setRow (HX.out.2.1.trans (H2.out.2.mono HX.out.2.1.size)) (show w.heap.size ≤ B1 by rw [HBB.out]; exact Nat.le_refl _) (rqCs xc xn xo (.slice A2 n2 c2) (.slice A3 n3 c3) (.slice A4 n4 c4))
 have h7 : OpOwn (w2.setRow B1 (rqCs xc xn xo (.slice A2 n2 c2) (.slice A3 n3 c3) (.slice A4 n4 c4))) W0.heap.size xo (.slice A2 n2 c2) (.slice A3 n3 c3) (.slice A4 n4 c4) := H2.out.1.keep fun k h1 h2 => setRow_other _ _ k _ (by have := HX.out.2.2.lt; omega)
 obtain ⟨t0, t1, t2, t3, t4, t5, t6, t7, t8⟩ := rq_cells h9
 have HF := Lib.hid (And.intro (h7.low HX.out.2.1.size) h8)
 clear h7 h8 h9
 generalize w2.setRow B1 (rqCs xc xn xo (.slice A2 n2 c2) (.slice A3 n3 c3) (.slice A4 n4 c4)) = w5 at t0 t1 t2 t3 t4 t5 t6 t7 t8 HF ⊢
 refine bodyPost_ret (v := .tuple #[.agg (rqCs xc xn xo (.slice A2 n2 c2) (.slice A3 n3 c3) (.slice A4 n4 c4)), .int .i64 0]) ?_ rfl ⟨⟨xc, xn, xo, A2, n2, c2, A3, n3, c3, A4, n4, c4⟩, rfl, rfl, HF.out.1, HF.out.2⟩
 simp [results, Tryz.f17, go_sem, t0, t1, t2, t3, t4, t5, t6, t7, t8]
set_option maxHeartbeats 16000000 in
theorem at_no (g k c b m : Nat) (A : Option Addr) (z : Value) (w : World) (h : Blk w g 65 #[.bool true, .int .u64 b, .slice A k c, z]) (hb : b ≤ 9000000000000000000) (hk : k ≤ 1000000) (hm : m ≤ b ∨ b + k < m) :
   Calls Tryz.prog 17 #[.pointer (some ⟨g, 0, none⟩), .int .u64 m] w fun e w' => e = .returned (.tuple #[.agg zQ, .int .i64 8]) ∧ Below w.heap.size w w' := by
 have hb1 : Below w.heap.size w (w.alloc (.cells zQ 46)) := (Below.refl _ _).alloc (Nat.le_refl _) _
 have HZ := Lib.hid (And.intro hb1 (Blk.new w 46 zQ))
 have H0 : m = b ∨ (m < b ∨ b + k < m) := by omega
 have hk1 := h.on hb1
 clear h hb1
 rcases H0 with H0 | H0
 all_goals
   first
     | have HI := Lib.hid (index_out g b k c m A z _ hk1 hb hk H0)
     | have HI := Lib.hid (index_in g b k c 0 m A z _ hk1 hb hk H0 (Nat.zero_le _))
   clear hk1 hm H0
   go_enter Tryz.func17, Tryz.ntmps17
   go_wp2_with (first
     | (go_at_call 35; (with_reducible refine HI.out.mono ?_); rintro e w1 ⟨rfl, rfl⟩)
     | (refine wpList_buildTo rfl 46 _ rfl (some 22) rfl zQ (by kernel_rfl) ?_)
     | (refine wpList_store_rowTo rfl 46 _ _ rfl rfl w.heap.size zQ rfl rfl 46 zQ HZ.out.2 (by kernel_rfl) rfl (by kernel_rfl) ?_))
   have h9 := HZ.out.2.row zQ
   have h8 := below_setRow HZ.out.1 (Nat.le_refl _) zQ
   obtain ⟨t0, t1, t2, t3, t4, t5, t6, t7, t8⟩ := rq_cells0 h9
   have HF := Lib.hid h8
   clear h8 h9
   generalize (w.alloc (.cells zQ 46)).setRow w.heap.size zQ = w5 at t0 t1 t2 t3 t4 t5 t6 t7 t8 HF ⊢
   refine bodyPost_ret (v := .tuple #[.agg zQ, .int .i64 8]) ?_ rfl ⟨rfl, HF.out⟩
   simp [results, Tryz.f17, go_sem, t0, t1, t2, t3, t4, t5, t6, t7, t8]
theorem rq_range {n0 : Nat} {W : World} {A : Option Addr} {l : List Rq} {k : Nat} (h : RdS n0 W A l) (hk : k < l.length) : ∃ b off, A = some ⟨b, off, none⟩ ∧ b < W.heap.size ∧ W.rangeAt b (off + k * 9) (rqL (l.getD k default)) := by
 obtain ⟨b, off, e, h1, _, h2⟩ := h (by omega)
 exact ⟨b, off, e, h1, fun j v hv => h2 k hk j v hv⟩
theorem row_shape {w : World} {base : Nat} {v : Value} {l : List Int} (h : Row w base v l) : ∃ A c n, Hid (n = l.length) ∧ v = .slice A n c := by
 obtain ⟨A, c, e, _⟩ := rd_low h
 exact ⟨A, c, _, Lib.hid rfl, e⟩
set_option maxHeartbeats 16000000 in
theorem rsize_any (n0 r B : Nat) (R : List Rq) (w0 w : World) (h : LogQ n0 w0 w r B R) (hn0 : n0 = w0.heap.size) (hb0 : Below n0 w0 w) (hl : R.length ≤ 1000) :
   Calls Tryz.prog 21 #[.pointer (some ⟨r, 0, none⟩)] w fun e w' => e = .returned (.int .i64 (sumM (means R) : Nat)) ∧ Below w.heap.size w w' := by
 have hnw : n0 ≤ w.heap.size := by rw [hn0]; exact hb0.size
 obtain ⟨A, n, c, hk, hn, _, _, hrs⟩ := h.st
 have hn1 : n ≤ 1000 := by omega
 have HH := Lib.hid (And.intro h (And.intro hk (And.intro hn (And.intro hrs hb0))))
 have HN := Lib.hid (And.intro hn0 hnw)
 clear h hk hn hrs hb0 hn0 hnw hl
 go_enter Tryz.func21, Tryz.ntmps21
 go_wp2_with fail
 go_loopw [3, 4] (fun s3 s4 wr => ∃ k q : Nat, s4 = .int .i64 k ∧ s3 = .int .i64 q ∧ k ≤ n ∧ q ≤ 300000 * k ∧ Hid (q = sumM (means (R.take k)) ∧ Below w.heap.size w wr)) (fun _ s4 _ => n - (intOf s4).toNat)
 case atStart => exact ⟨0, 0, rfl, rfl, Nat.zero_le _, Nat.zero_le _, Lib.hid ⟨rfl, Below.refl _ _⟩⟩
 case round =>
   obtain ⟨k, q, rfl, rfl, hk, hq, HF⟩ := hrel
   have c1 : wr.cell? ⟨r, 1, none⟩ = some (.slice A n c) := (HH.out.2.1.on HF.out.2).cell 1
   by_cases hlt : k < n
   · have hkl : k < R.length := by have := HH.out.2.2.1; omega
     have hki : (k : Int) < (n : Int) := by omega
     have HS := Lib.hid (sum_step hkl)
     have hgood := HH.out.1.good _ (means_mem hkl)
     have hat := (HH.out.1.at_ _ (mem_getD hkl)).on ((HN.out.1 ▸ HH.out.2.2.2.2).trans (HF.out.2.mono (HN.out.1 ▸ HN.out.2)))
     obtain ⟨b, off, rfl, hbl, hra⟩ := rq_range (HH.out.2.2.2.1.frT (sp := spA) (T := TN) (FrT.of HF.out.2 HN.out.2) (fun _ => id)) hkl
     generalize R.getD k default = x at HS hgood hat hra
     obtain ⟨xc, xn, xo, Aa, la, ca, Ap, lp, cp, Ac, lc, cc⟩ := x
     have HRB := Lib.hid (refReqBytes xc xn xo _ _ _ wr hgood.ok.c hgood.ok.n hat hgood.may)
     have hra2 : wr.rangeAt b (off + k * 9) [.int .u64 xc, .int .u64 xn, .int .i64 xo.k, .string (sx xo.name), .string (sx xo.dst), .slice Aa la ca, .slice Ap lp cp, .slice Ac lc cc, .int .i64 xo.n] := hra
     have HX := Lib.hid (And.intro hra2 hgood)
     clear hra hra2 hgood hat hbl
     go_upto_region 4 with (first
       | (refine wpList_load_mid rfl 46 _ rfl b (off + k * 9) rfl [.int .u64 xc, .int .u64 xn, .int .i64 xo.k, .string (sx xo.name), .string (sx xo.dst), .slice Aa la ca, .slice Ap lp cp, .slice Ac lc cc, .int .i64 xo.n] _ HX.out.1 rfl rfl (by kernel_rfl) ?_)
       | (go_at_call 40; (with_reducible refine HRB.out.mono ?_); clear HRB c1; rintro e w2 ⟨u, rfl, hrow, hb2⟩; dsimp only; obtain ⟨A3, c3, n3, HN3, rfl⟩ := row_shape hrow; have H2 := Lib.hid (HF.out.2.trans (hb2.mono HF.out.2.size)); have hn3 : n3 ≤ 300000 := (by rw [HN3.out]; exact HX.out.2.few); clear hrow hb2))
     go_wp2
     go_roundw
     case rel => exact ⟨k + 1, q + n3, by go_num, by go_num, by omega, by omega, Lib.hid ⟨by rw [HS.out, HF.out.1, HN3.out]; rfl, H2.out⟩⟩
     case measure => simp [intOf]; omega
   · have hki : ¬ (k : Int) < (n : Int) := by omega
     go_wp2
     go_ret
     exact ⟨by rw [HF.out.1, List.take_of_length_le (by have := HH.out.2.2.1; omega)]; rfl, HF.out.2⟩
theorem rat_no (n0 r B m : Nat) (R : List Rq) (w0 w : World) (h : LogQ n0 w0 w r B R) (hB : B ≤ 9000000000000000000) (hl : R.length ≤ 1000) (hm : m ≤ B ∨ B + R.length < m) :
   Calls Tryz.prog 28 #[.pointer (some ⟨r, 0, none⟩), .int .u64 m] w fun e w' => e = .returned (.tuple #[.agg zQ, .int .i64 8]) ∧ Below w.heap.size w w' := by
 obtain ⟨A, n, c, hk, hn, _, _, hrs⟩ := h.st
 have hb : Below w.heap.size w (w.alloc (.cells zQ 46)) := (Below.refl _ _).alloc (Nat.le_refl _) _
 have k1 := hk.on hb
 have c0 : (w.alloc (.cells zQ 46)).cell? ⟨r, 0, none⟩ = some (.int .u64 B) := k1.cell 0
 obtain ⟨E, hE⟩ : ∃ E, E = B + n := ⟨_, rfl⟩
 have HE := Lib.hid (rend_is r B n c E A _ k1 hB (by omega) hE)
 have HZ := Lib.hid (And.intro hb (Blk.new w 46 zQ))
 by_cases hlt : m ≤ B
 · have d1 : decide (m ≤ B) = true := by simp; omega
   clear h hE hm hk hn hrs k1 hb hl
   go_enter Tryz.func28, Tryz.ntmps28
   go_wp2_with (first
     | (go_at_call 32; (with_reducible refine HE.out.mono ?_); rintro e w1 ⟨rfl, n1, rfl⟩)
     | (refine wpList_buildTo rfl 46 _ rfl (some 18) rfl zQ (by kernel_rfl) ?_)
     | (refine wpList_store_rowTo rfl 46 _ _ rfl rfl w.heap.size zQ rfl rfl 46 zQ HZ.out.2 (by kernel_rfl) rfl (by kernel_rfl) ?_))
   have h9 := HZ.out.2.row zQ
   have h8 := below_setRow HZ.out.1 (Nat.le_refl _) zQ
   obtain ⟨t0, t1, t2, t3, t4, t5, t6, t7, t8⟩ := rq_cells0 h9
   have HF := Lib.hid h8
   clear h8 h9
   generalize (w.alloc (.cells zQ 46)).setRow w.heap.size zQ = w5 at t0 t1 t2 t3 t4 t5 t6 t7 t8 HF ⊢
   refine bodyPost_ret (v := .tuple #[.agg zQ, .int .i64 8]) ?_ rfl ⟨rfl, HF.out⟩
   simp [results, Tryz.f28, go_sem, t0, t1, t2, t3, t4, t5, t6, t7, t8]
 · have d1 : decide (m ≤ B) = false := by simp; omega
   have d2 : decide (E < m) = true := by simp; omega
   clear h hE hm hk hn hrs k1 hb hl hlt
   go_enter Tryz.func28, Tryz.ntmps28
   go_upto_region 2 with (go_at_call 32; (with_reducible refine HE.out.mono ?_); rintro e w1 ⟨rfl, n1, rfl⟩)
   have HZ2 := Lib.hid (And.intro (below_drewN HZ.out.1 n1) (show Blk ((w.alloc (.cells zQ 46)).drewN n1) w.heap.size 46 zQ from HZ.out.2))
   go_wp2_with (first
     | (refine wpList_buildTo rfl 46 _ rfl (some 18) rfl zQ (by kernel_rfl) ?_)
     | (refine wpList_store_rowTo rfl 46 _ _ rfl rfl w.heap.size zQ rfl rfl 46 zQ HZ2.out.2 (by kernel_rfl) rfl (by kernel_rfl) ?_))
   have h9 := HZ2.out.2.row zQ
   have h8 := below_setRow HZ2.out.1 (Nat.le_refl _) zQ
   obtain ⟨t0, t1, t2, t3, t4, t5, t6, t7, t8⟩ := rq_cells0 h9
   have HF := Lib.hid h8
   clear h8 h9
   generalize ((w.alloc (.cells zQ 46)).drewN n1).setRow w.heap.size zQ = w5 at t0 t1 t2 t3 t4 t5 t6 t7 t8 HF ⊢
   refine bodyPost_ret (v := .tuple #[.agg zQ, .int .i64 8]) ?_ rfl ⟨rfl, HF.out⟩
   simp [results, Tryz.f28, go_sem, t0, t1, t2, t3, t4, t5, t6, t7, t8]
def ROfOut (n0 B : Nat) (Qs : List Rq) (w0 w : World) (e : Ending) (w' : World) : Prop := Below w.heap.size w w' ∧
 (((∃ m ∈ means Qs, mayO m.o = false) ∧ e = .returned (.tuple #[.pointer none, .int .i64 2])) ∨ ((∀ m ∈ means Qs, m.Good) ∧ 4611686018427387904 < B ∧ e = .returned (.tuple #[.pointer none, .int .i64 2])) ∨
  ((∀ m ∈ means Qs, m.Good) ∧ B ≤ 4611686018427387904 ∧ 2097152 < sumM (means Qs) ∧ e = .returned (.tuple #[.pointer none, .int .i64 10])) ∨
  ((∀ m ∈ means Qs, m.Good) ∧ B ≤ 4611686018427387904 ∧ sumM (means Qs) ≤ 2097152 ∧ ∃ r, e = .returned (.tuple #[.pointer (some ⟨r, 0, none⟩), .int .i64 0]) ∧ LogQ n0 w0 w' r B Qs))
set_option maxHeartbeats 32000000 in
theorem rof_any (n0 B n c : Nat) (Qs : List Rq) (A : Option Addr) (w0 w : World) (hn0 : n0 = w0.heap.size) (hb0 : Below n0 w0 w) (hn : n = Qs.length) (hA : (A = none → c = 0) ∧ n ≤ c ∧ c ≤ maxLen) (hsp : ∀ a, A = some a → a.spot = none) (hrs : RdS n0 w A Qs) (hat : ∀ x ∈ Qs, OpAt w0 x.o x.va x.vp x.vc) (hok : ∀ m ∈ means Qs, m.Ok) (hl : n ≤ 900) (hB : B < 18446744073709551616) :
   Calls Tryz.prog 7 #[.int .u64 B, .slice A n c] w (ROfOut n0 B Qs w0 w) := by
 have hn0w : n0 ≤ w.heap.size := by rw [hn0]; exact hb0.size
 have HQ := Lib.hid (And.intro hrs (And.intro hat (And.intro hok (And.intro hn (And.intro hn0w (And.intro hn0 hb0))))))
 have HA := Lib.hid (And.intro hA hsp)
 clear hrs hat hok hn hn0 hb0 hn0w hA hsp
 go_enter Tryz.func7, Tryz.ntmps7
 go_wp2_with fail
 go_loopw [6] (fun s6 wr => ∃ k : Nat, s6 = .int .i64 k ∧ k ≤ n ∧ Hid (Below w.heap.size w wr ∧ ∀ m ∈ (means Qs).take k, m.Good)) (fun s6 _ => n - (intOf s6).toNat)
 case atStart => exact ⟨0, rfl, Nat.zero_le _, Lib.hid ⟨Below.refl _ _, fun m hm => by cases hm⟩⟩
 case round =>
   obtain ⟨k, rfl, hkn, HF⟩ := hrel
   by_cases hlt : k < n
   · have hkQ : k < Qs.length := by have := HQ.out.2.2.2.1; omega
     have hki : (k : Int) < (n : Int) := by omega
     have hstep : (means Qs).take (k + 1) = (means Qs).take k ++ [(Qs.getD k default).m] := by
       rw [List.take_add_one, List.getElem?_eq_getElem (by rw [means_len]; exact hkQ), List.getD_eq_getElem?_getD, List.getElem?_eq_getElem hkQ]
       simp [means]
     have hat := (HQ.out.2.1 _ (mem_getD hkQ)).on ((HQ.out.2.2.2.2.2.1 ▸ HQ.out.2.2.2.2.2.2).trans (HF.out.1.mono (HQ.out.2.2.2.2.2.1 ▸ HQ.out.2.2.2.2.1)))
     have hok := HQ.out.2.2.1 _ (means_mem hkQ)
     have hmem := means_mem hkQ
     obtain ⟨b, off, rfl, hbl, hra⟩ := rq_range (HQ.out.1.frT (sp := spA) (T := TN) (FrT.of HF.out.1 HQ.out.2.2.2.2.1) (fun _ => id)) hkQ
     generalize Qs.getD k default = x at hat hok hstep hra hmem
     obtain ⟨xc, xn, xo, Aa, la, ca, Ap, lp, cp, Ac, lc, cc⟩ := x
     have hra2 : wr.rangeAt b (off + k * 9) [.int .u64 xc, .int .u64 xn, .int .i64 xo.k, .string (sx xo.name), .string (sx xo.dst), .slice Aa la ca, .slice Ap lp cp, .slice Ac lc cc, .int .i64 xo.n] := hra
     have HY := Lib.hid (And.intro hra2 (And.intro hat (And.intro hok (And.intro hstep hmem))))
     have HM := Lib.hid (rmay_any xc xn xo _ _ _ wr hok.lim hat)
     clear hra hra2 hat hok hstep hmem hbl
     cases hmay : mayO xo with
     | false =>
       rw [hmay] at HM
       have HMM := Lib.hid hmay
       clear hmay
       go_wp2_with (first
         | (refine wpList_load_mid rfl 46 _ rfl b (off + k * 9) rfl [.int .u64 xc, .int .u64 xn, .int .i64 xo.k, .string (sx xo.name), .string (sx xo.dst), .slice Aa la ca, .slice Ap lp cp, .slice Ac lc cc, .int .i64 xo.n] _ HY.out.1 rfl rfl (by kernel_rfl) ?_)
         | (go_at_call 20; (with_reducible refine HM.out.mono ?_); clear HM; rintro e w2 ⟨rfl, hb2⟩; dsimp only; have H2 := Lib.hid (HF.out.1.trans (hb2.mono HF.out.1.size)); clear hb2))
       go_ret2
       exact ⟨H2.out, .inl ⟨⟨_, HY.out.2.2.2.2, HMM.out⟩, rfl⟩⟩
     | true =>
       rw [hmay] at HM
       have HG := Lib.hid (Mq.Good.mk HY.out.2.2.1 hmay)
       clear hmay
       go_wp2_with (first
         | (refine wpList_load_mid rfl 46 _ rfl b (off + k * 9) rfl [.int .u64 xc, .int .u64 xn, .int .i64 xo.k, .string (sx xo.name), .string (sx xo.dst), .slice Aa la ca, .slice Ap lp cp, .slice Ac lc cc, .int .i64 xo.n] _ HY.out.1 rfl rfl (by kernel_rfl) ?_)
         | (go_at_call 20; (with_reducible refine HM.out.mono ?_); clear HM; rintro e w2 ⟨rfl, hb2⟩; dsimp only; have H2 := Lib.hid (HF.out.1.trans (hb2.mono HF.out.1.size)); clear hb2))
       go_roundw
       case rel => exact ⟨k + 1, by go_num, by omega, Lib.hid ⟨H2.out, fun m hm => by
         rw [HY.out.2.2.2.1] at hm
         rcases List.mem_append.1 hm with hm | hm
         · exact HF.out.2 m hm
         · rw [List.mem_singleton] at hm
           subst hm
           exact HG.out⟩⟩
       case measure => simp [intOf]; omega
   · have hki : ¬ (k : Int) < (n : Int) := by omega
     have HGD : Hid (∀ m ∈ means Qs, m.Good) := Lib.hid (by
       have h1 := HF.out.2
       rwa [List.take_of_length_le (by rw [means_len, ← HQ.out.2.2.2.1]; omega)] at h1)
     by_cases hBB : 4611686018427387904 < B
     · have d1 : decide ((4611686018427387904 : Int) < (B : Int)) = true := by simp; omega
       go_wp2
       go_ret2
       exact ⟨HF.out.1, .inr (.inl ⟨HGD.out, hBB, rfl⟩)⟩
     · have d1 : decide ((4611686018427387904 : Int) < (B : Int)) = false := by simp; omega
       have d5 : decide ((4096 : Int) < (n : Int)) = false := by simp; omega
       have d6 : decide (4096 < n) = false := by simp; omega
       have HBB := Lib.hid hBB
       have hbx : Below wr.heap.size wr (wr.alloc (.cells #[.int .u64 B, .slice A n c] 36)) := (Below.refl _ _).alloc (Nat.le_refl _) _
       have hLQ : LogQ n0 w0 (wr.alloc (.cells #[.int .u64 B, .slice A n c] 36)) wr.heap.size B Qs := ⟨⟨A, n, c, Blk.new wr 36 _, HQ.out.2.2.2.1, HA.out.1, HA.out.2, HQ.out.1.frT (sp := spA) (T := TN) (FrT.of (HF.out.1.trans (hbx.mono HF.out.1.size)) HQ.out.2.2.2.2.1) (fun _ => id)⟩, HQ.out.2.1, Nat.le_trans HQ.out.2.2.2.2.1 HF.out.1.size, HGD.out⟩
       have hbe := HF.out.1.trans (hbx.mono HF.out.1.size)
       have HS := Lib.hid (rsize_any n0 wr.heap.size B Qs w0 _ hLQ HQ.out.2.2.2.2.2.1 (HQ.out.2.2.2.2.2.2.trans (hbe.mono HQ.out.2.2.2.2.1)) (by rw [← HQ.out.2.2.2.1]; omega))
       have HL := Lib.hid (And.intro hLQ hbe)
       obtain ⟨q, hq⟩ : ∃ q, q = sumM (means Qs) := ⟨_, rfl⟩
       rw [← hq] at HS
       have HQQ := Lib.hid hq
       clear hLQ hbx hbe hBB hq
       by_cases hfit : 2097152 < q
       · have d2 : decide ((2097152 : Int) < (q : Int)) = true := by simp; omega
         have d3 : decide (2097152 < q) = true := by simp; omega
         have HFI := Lib.hid hfit
         clear hfit
         go_wp2_with (go_at_call 21; (with_reducible refine HS.out.mono ?_); clear HS; rintro e w2 ⟨rfl, hb2⟩; dsimp only; have H2 := Lib.hid (HL.out.2.trans (hb2.mono HL.out.2.size)); clear hb2)
         go_ret2
         exact ⟨H2.out, .inr (.inr (.inl ⟨HGD.out, Nat.le_of_not_lt HBB.out, by rw [← HQQ.out]; exact HFI.out, rfl⟩))⟩
       · have d2 : decide ((2097152 : Int) < (q : Int)) = false := by simp; omega
         have d3 : decide (2097152 < q) = false := by simp; omega
         have HFI := Lib.hid hfit
         clear hfit
         go_wp2_with (go_at_call 21; (with_reducible refine HS.out.mono ?_); clear HS; rintro e w2 ⟨rfl, hb2⟩; dsimp only; have H2 := Lib.hid (And.intro (HL.out.2.trans (hb2.mono HL.out.2.size)) (HL.out.1.on hb2 (Nat.le_trans HQ.out.2.2.2.2.1 HL.out.2.size))); clear hb2)
         go_ret2
         exact ⟨H2.out.1, .inr (.inr (.inr ⟨HGD.out, Nat.le_of_not_lt HBB.out, by rw [← HQQ.out]; exact Nat.le_of_not_lt HFI.out, _, rfl, H2.out.2⟩))⟩
end Go.Proofs.YtniaijgejljjbaaGreat.Tlv
