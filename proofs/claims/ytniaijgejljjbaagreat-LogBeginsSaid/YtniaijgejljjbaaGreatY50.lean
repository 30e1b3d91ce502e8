/- Is it a beginning. -/
import Derived.Test.YtniaijgejljjbaaGreatY49
import Derived.Lib.QuietBelow
import Derived.StillTailTactics
namespace Go.Proofs.YtniaijgejljjbaaGreat.Tlv
open Go.RowKit Go.Lib Go.Sort
set_option maxRecDepth 100000
set_option linter.unusedVariables false
set_option linter.unusedSimpArgs false
def BegP (B1 : Nat) (P1 : List Rq) (B2 : Nat) (P2 : List Rq) : Prop := B1 + P1.length ≤ B2 + P2.length ∧ ∀ i, B1 < i → B2 < i → i ≤ B1 + P1.length → (P1.getD (i - B1 - 1) default).m = (P2.getD (i - B2 - 1) default).m
theorem sameO_eq {o p : Opn} (h : sameO o p = true) : o = p := by
 unfold sameO at h
 simp only [Bool.and_eq_true, decide_eq_true_eq] at h
 obtain ⟨h1, h2, h3, h4, h5, h6, h7⟩ := h
 obtain ⟨a1, a2, a3, a4, a5, a6, a7⟩ := o
 obtain ⟨b1, b2, b3, b4, b5, b6, b7⟩ := p
 simp_all
theorem sameRq_iff (x y : Rq) : sameRq x.c x.n x.o y.c y.n y.o = true ↔ x.m = y.m := by
 constructor
 · intro h
   unfold sameRq at h
   simp only [Bool.and_eq_true, decide_eq_true_eq] at h
   unfold Rq.m
   rw [h.1.1, h.1.2, sameO_eq h.2]
 · intro h
   unfold Rq.m at h
   injection h with e1 e2 e3
   unfold sameRq
   rw [e1, e2, e3, sameO_refl]
   simp
def BegOut (B1 : Nat) (P1 : List Rq) (B2 : Nat) (P2 : List Rq) (w : World) (e : Ending) (w' : World) : Prop := ∃ b : Bool, e = .returned (.bool b) ∧ (b = true ↔ BegP B1 P1 B2 P2) ∧ Below w.heap.size w w'
set_option maxHeartbeats 32000000 in
theorem begins_no {sp sp' : Spc} (n0 g g' B B' : Nat) (P P' : List Rq) (w : World) (h : LogP sp n0 w g B P) (h' : LogP sp' n0 w g' B' P') (hn0 : n0 ≤ w.heap.size) (hl : P.length ≤ 900) (hl' : P'.length ≤ 900) (hB : B ≤ 9000000000000000000) (hB' : B' ≤ 9000000000000000000) (hE : B' + P'.length < B + P.length) :
   Calls Tryz.prog 9 #[.pointer (some ⟨g, 0, none⟩), .pointer (some ⟨g', 0, none⟩)] w (BegOut B P B' P' w) := by
 obtain ⟨⟨A, n, c, hk, hO, _⟩, _, _, _, _⟩ := id h
 obtain ⟨⟨A', n', c', hk', hO', _⟩, _, _, _, _⟩ := id h'
 have hn := hO.len
 have hn' := hO'.len
 obtain ⟨E, hEE⟩ : ∃ E, E = B + n := ⟨_, rfl⟩
 obtain ⟨E', hEE'⟩ : ∃ E, E = B' + n' := ⟨_, rfl⟩
 have HN := Lib.hid (none_is g true _ _ _ w hk)
 have HN' := Lib.hid (none_is g' true _ _ _ w hk')
 have HE := Lib.hid (end_is g B n c E A _ w hk hB (by omega) hEE)
 have HE' := Lib.hid (end_is g' B' n' c' E' A' _ w hk' hB' (by omega) hEE')
 have d1 : decide (E' < E) = true := by simp; omega
 have HD := Lib.hid hE
 clear hk hk' hO hO' h h' hn hn' hl hl' hB hB' hE hEE hEE'
 go_enter Tryz.func9, Tryz.ntmps9
 go_wp2_with (first
   | (go_at_call 22; (with_reducible refine HN.out.mono ?_); rintro e w1 ⟨rfl, rfl⟩)
   | (go_at_call 22; (with_reducible refine HN'.out.mono ?_); rintro e w1 ⟨rfl, rfl⟩)
   | (go_at_call 23; (with_reducible refine HE.out.mono ?_); rintro e w1 ⟨rfl, rfl⟩)
   | (go_at_call 23; (with_reducible refine HE'.out.mono ?_); rintro e w1 ⟨rfl, rfl⟩))
 go_ret
 exact ⟨false, rfl, ⟨(fun e => by cases e), (fun e => by have h1 := e.1; have h2 := HD.out; omega)⟩, Below.refl _ _⟩
set_option maxHeartbeats 64000000 in
theorem begins_in {sp sp' : Spc} (n0 g g' B B' : Nat) (P P' : List Rq) (w : World) (h : LogP sp n0 w g B P) (h' : LogP sp' n0 w g' B' P') (hn0 : n0 ≤ w.heap.size) (hl : P.length ≤ 900) (hl' : P'.length ≤ 900) (hB : B ≤ 9000000000000000000) (hB' : B' ≤ 9000000000000000000) (hE : B + P.length ≤ B' + P'.length) :
   Calls Tryz.prog 9 #[.pointer (some ⟨g, 0, none⟩), .pointer (some ⟨g', 0, none⟩)] w (BegOut B P B' P' w) := by
 obtain ⟨⟨A, n, c, hk, hO, _⟩, _, _, _, _⟩ := id h
 obtain ⟨⟨A', n', c', hk', hO', _⟩, _, _, _, _⟩ := id h'
 have hn := hO.len
 have hn' := hO'.len
 obtain ⟨E, hEE⟩ : ∃ E, E = B + n := ⟨_, rfl⟩
 obtain ⟨E', hEE'⟩ : ∃ E, E = B' + n' := ⟨_, rfl⟩
 obtain ⟨M, hM⟩ : ∃ M, M = max B B' := ⟨_, rfl⟩
 obtain ⟨M1, hM1⟩ : ∃ M1, M1 = M + 1 := ⟨_, rfl⟩
 have HN := Lib.hid (none_is g true _ _ _ w hk)
 have HN' := Lib.hid (none_is g' true _ _ _ w hk')
 have HE := Lib.hid (end_is g B n c E A _ w hk hB (by omega) hEE)
 have HE' := Lib.hid (end_is g' B' n' c' E' A' _ w hk' hB' (by omega) hEE')
 have d1 : decide (E' < E) = false := by simp; omega
 have c1 : w.cell? ⟨g, 1, none⟩ = some (.int .u64 B) := hk.cell 1
 have c1' : w.cell? ⟨g', 1, none⟩ = some (.int .u64 B') := hk'.cell 1
 have HE1 : Hid (IntKind.u64.wrap (max (B : Int) (B' : Int) + 1) = (M1 : Int)) := Lib.hid (by rw [IntKind.wrap_u64]; omega)
 have HX := Lib.hid (And.intro h (And.intro h' (And.intro hk (And.intro hk' (And.intro hO (And.intro hO' (And.intro hn0 (And.intro hl (And.intro hl' (And.intro hB (And.intro hB' (And.intro hE (And.intro hEE (And.intro hEE' (And.intro hM (And.intro hM1 (And.intro hn hn')))))))))))))))))
 clear hk hk' hO hO' h h' hn hn' hl hl' hB hB' hE hEE hEE' hn0 hM1
 go_enter Tryz.func9, Tryz.ntmps9
 go_upto_region 3 with (first
   | (go_at_call 22; (with_reducible refine HN.out.mono ?_); rintro e w1 ⟨rfl, rfl⟩)
   | (go_at_call 22; (with_reducible refine HN'.out.mono ?_); rintro e w1 ⟨rfl, rfl⟩)
   | (go_at_call 23; (with_reducible refine HE.out.mono ?_); rintro e w1 ⟨rfl, rfl⟩)
   | (go_at_call 23; (with_reducible refine HE'.out.mono ?_); rintro e w1 ⟨rfl, rfl⟩))
 go_still_tail 8, (by kernel_rfl)
 change wpList _ _ _ _ _ w.drew
 have HF0 : Hid (Below w.heap.size w w.drew) := Lib.hid (below_drew (Below.refl _ _))
 generalize w.drew = w2 at HF0 ⊢
 go_upto_region 4 with fail
 clear c1 c1' d1 HN HN' HE HE'
 go_loopw [5] (fun s5 wr => ∃ k : Nat, s5 = .int .u64 k ∧ Hid (M < k ∧ k ≤ 18000000000000000000 ∧ Below w.heap.size w wr ∧ ∀ i, M < i → i < k → (P.getD (i - B - 1) default).m = (P'.getD (i - B' - 1) default).m)) (fun s5 _ => E + 1 - (intOf s5).toNat)
 case atStart => exact ⟨M1, by rw [HE1.out], Lib.hid ⟨by have := HX.out.2.2.2.2.2.2.2.2.2.2.2.2.2.2.2.1; omega, by have h1 := HX.out.2.2.2.2.2.2.2.2.2.2.2.2.2.2.2.1; have h2 := HX.out.2.2.2.2.2.2.2.2.2.2.2.2.2.2.1; have h3 := HX.out.2.2.2.2.2.2.2.2.2.1; have h4 := HX.out.2.2.2.2.2.2.2.2.2.2.1; omega, HF0.out, fun i h1 h2 => by have := HX.out.2.2.2.2.2.2.2.2.2.2.2.2.2.2.2.1; omega⟩⟩
 case round =>
   obtain ⟨k, rfl, HF⟩ := hrel
   have hbF := HF.out.2.2.1
   have HLP := Lib.hid (And.intro (HX.out.1.on hbF HX.out.2.2.2.2.2.2.1) (And.intro (HX.out.2.1.on hbF HX.out.2.2.2.2.2.2.1) (And.intro (HX.out.2.2.1.on hbF) (And.intro (HX.out.2.2.2.1.on hbF) (And.intro (HX.out.2.2.2.2.1.on hbF) (HX.out.2.2.2.2.2.1.on hbF))))))
   clear hbF
   have HEn := Lib.hid (end_is g B n c E A _ wr HLP.out.2.2.1 HX.out.2.2.2.2.2.2.2.2.2.1 (by have h1 := HX.out.2.2.2.2.2.2.2.1; have h2 := HX.out.2.2.2.2.2.2.2.2.2.2.2.2.2.2.2.2.1; omega) HX.out.2.2.2.2.2.2.2.2.2.2.2.2.1)
   by_cases hlt : k ≤ E
   · have d1 : decide ((k : Int) ≤ (E : Int)) = true := by simp; omega
     have d2 : decide (k ≤ E) = true := by simp; omega
     obtain ⟨i, hi⟩ : ∃ i, i = k - B - 1 := ⟨_, rfl⟩
     obtain ⟨i', hi'⟩ : ∃ i, i = k - B' - 1 := ⟨_, rfl⟩
     obtain ⟨p, hp⟩ : ∃ p, p = i + 1 := ⟨_, rfl⟩
     obtain ⟨p', hp'⟩ : ∃ p, p = i' + 1 := ⟨_, rfl⟩
     have hin : i < n ∧ i' < n' ∧ k = B + p ∧ k = B' + p' ∧ n ≤ 900 ∧ n' ≤ 900 := by
       have h1 := HF.out.1
       obtain ⟨_, _, _, _, _, _, _, g1, g2, g3, g4, g5, g6, g7, g8, g9, g10, g11⟩ := HX.out
       omega
     have HI := Lib.hid (And.intro hin (And.intro hi hi'))
     obtain ⟨hin1, hin2, hk1, hk2, hn9, hn9'⟩ := hin
     have f1 : IntKind.u64.wrap ((k : Int) - (B : Int)) = (p : Int) := by rw [IntKind.wrap_u64]; omega
     have f2 : IntKind.u64.wrap ((p : Int) - 1) = (i : Int) := by rw [IntKind.wrap_u64]; omega
     have f3 : IntKind.u64.wrap ((k : Int) - (B' : Int)) = (p' : Int) := by rw [IntKind.wrap_u64]; omega
     have f4 : IntKind.u64.wrap ((p' : Int) - 1) = (i' : Int) := by rw [IntKind.wrap_u64]; omega
     have f5 : IntKind.u64.wrap ((k : Int) + 1) = ((k + 1 : Nat) : Int) := by have := HF.out.2.1; rw [IntKind.wrap_u64]; omega
     have HF5 := Lib.hid f5
     have g1 : (i : Int) < (n : Int) := by omega
     have g2 : (i' : Int) < (n' : Int) := by omega
     have hiP : i < P.length := by rw [← HLP.out.2.2.2.2.1.len]; exact hin1
     have hiP' : i' < P'.length := by rw [← HLP.out.2.2.2.2.2.len]; exact hin2
     obtain ⟨b, off, rfl, _, hra⟩ := it_range HLP.out.2.2.2.2.1.rd hiP
     obtain ⟨b', off', rfl, _, hra'⟩ := it_range HLP.out.2.2.2.2.2.rd hiP'
     have ho := HLP.out.1.own _ (mem_getD hiP)
     have ho' := HLP.out.2.1.own _ (mem_getD hiP')
     have hg := HLP.out.1.good _ (means_mem hiP)
     have hg' := HLP.out.2.1.good _ (means_mem hiP')
     obtain ⟨xx, hxx⟩ : ∃ xx, xx = P.getD i default := ⟨_, rfl⟩
     obtain ⟨yy, hyy⟩ : ∃ yy, yy = P'.getD i' default := ⟨_, rfl⟩
     rw [← hxx] at hra ho hg
     rw [← hyy] at hra' ho' hg'
     have HXX := Lib.hid (And.intro hxx hyy)
     clear hxx hyy hiP hiP' hk1 hk2 hin1 hin2 hn9 hn9' hi hi' hp hp'
     have HSM := Lib.hid (sameRq_iff xx yy)
     obtain ⟨xc, xn, xo, xA, xla, xca, xP, xlp, xcp, xC, xlc, xcc⟩ := xx
     obtain ⟨yc, yn, yo, yA, yla, yca, yP, ylp, ycp, yC, ylc, ycc⟩ := yy
     obtain ⟨a0, a1, a2, a3, a4, a5, a6, a7, a8⟩ := range_cells (o := off + i * 10) fun q v hv => hra q v (by
       have hq : q < 9 := (List.getElem?_eq_some_iff.1 hv).1
       rw [← hv]
       unfold itL
       rcases q with _ | _ | _ | _ | _ | _ | _ | _ | _ | q <;> first | rfl | omega)
     obtain ⟨b0, b1, b2, b3, b4, b5, b6, b7, b8⟩ := range_cells (o := off' + i' * 10) fun q v hv => hra' q v (by
       have hq : q < 9 := (List.getElem?_eq_some_iff.1 hv).1
       rw [← hv]
       unfold itL
       rcases q with _ | _ | _ | _ | _ | _ | _ | _ | _ | q <;> first | rfl | omega)
     clear hra hra'
     have x1 : wr.cell? ⟨g, 1, none⟩ = some (.int .u64 B) := HLP.out.2.2.1.cell 1
     have x2 : wr.cell? ⟨g, 2, none⟩ = some (.slice (some ⟨b, off, none⟩) n c) := HLP.out.2.2.1.cell 2
     have y1 : wr.cell? ⟨g', 1, none⟩ = some (.int .u64 B') := HLP.out.2.2.2.1.cell 1
     have y2 : wr.cell? ⟨g', 2, none⟩ = some (.slice (some ⟨b', off', none⟩) n' c') := HLP.out.2.2.2.1.cell 2
     obtain ⟨bb, hbb⟩ : ∃ bb, bb = sameRq xc xn xo yc yn yo := ⟨_, rfl⟩
     have HOO := Lib.hid (And.intro ho (And.intro ho' (And.intro hg hg')))
     clear ho ho' hg hg'
     have cS : ∀ d os, _ := fun d os => Calls.regrown_of (show Calls Tryz.prog 24 #[rqVal xc xn xo (.slice xA xla xca) (.slice xP xlp xcp) (.slice xC xlc xcc), rqVal yc yn yo (.slice yA yla yca) (.slice yP ylp ycp) (.slice yC ylc ycc)] (grow (redrawn wr d) os) fun e w' => e = .returned (.bool bb) ∧ Below (grow (redrawn wr d) os).heap.size (grow (redrawn wr d) os) w' from by
       have hb := below_regrown wr d os
       have hnw : n0 ≤ wr.heap.size := Nat.le_trans HX.out.2.2.2.2.2.2.1 HF.out.2.2.1.size
       rw [hbb]
       exact sameRqP_any xc xn yc yn xo yo _ _ _ _ _ _ (grow (redrawn wr d) os) (HOO.out.1.at.on hb) (HOO.out.2.1.at.on hb) HOO.out.2.2.1.ok.lim HOO.out.2.2.2.ok.lim)
     have HBB := Lib.hid hbb
     clear hbb
     go_upto_region 6 with (go_at_call 23; (with_reducible refine HEn.out.mono ?_); rintro e w9 ⟨rfl, rfl⟩)
     have r0 := cell_regrown a0
     have r1 := cell_regrown a1
     have r2 := cell_regrown a2
     have r3 := cell_regrown a3
     have r4 := cell_regrown a4
     have r5 := cell_regrown a5
     have r6 := cell_regrown a6
     have r7 := cell_regrown a7
     have r8 := cell_regrown a8
     have s0 := cell_regrown b0
     have s1 := cell_regrown b1
     have s2 := cell_regrown b2
     have s3 := cell_regrown b3
     have s4 := cell_regrown b4
     have s5 := cell_regrown b5
     have s6 := cell_regrown b6
     have s7 := cell_regrown b7
     have s8 := cell_regrown b8
     have t1 := cell_regrown x1
     have t2 := cell_regrown x2
     have t3 := cell_regrown y1
     have t4 := cell_regrown y2
     clear a0 a1 a2 a3 a4 a5 a6 a7 a8 b0 b1 b2 b3 b4 b5 b6 b7 b8 x1 x2 y1 y2
     refine wp_region_quiet_below (by kernel_rfl) (by kernel_rfl) ?_
     repeat
       with_reducible refine wpQuiet_step (fun K hK => ?_)
       go_simp
       first
         | (with_reducible refine hK _ ?_; clear hK K)
         | (rw [if_neg (by first | decide | (intro h; cases h))]; with_reducible refine hK _ ?_; clear hK K)
         | (apply Exists.intro; refine ⟨fun _ => ?_, hK _ ?_⟩; (exact cS _ _); clear hK K)
     with_reducible refine wpQuiet_nil ?_
     rintro _ ⟨⟨dq, osq⟩, rfl⟩
     have H6 := Lib.hid (HF.out.2.2.1.trans ((below_regrown wr dq osq).mono HF.out.2.2.1.size))
     clear r0 r1 r2 r3 r4 r5 r6 r7 r8 s0 s1 s2 s3 s4 s5 s6 s7 s8 t1 t2 t3 t4 cS
     generalize grow (redrawn wr dq) osq = w6 at H6 ⊢
     have HEQ : Hid (bb = true ↔ (P.getD (k - B - 1) default).m = (P'.getD (k - B' - 1) default).m) := Lib.hid (by
       rw [← HI.out.2.1, ← HI.out.2.2, ← HXX.out.1, ← HXX.out.2, HBB.out]
       exact HSM.out)
     clear f1 f2 f3 f4 g1 g2
     cases bb
     · go_wp2
       go_ret
       refine ⟨false, rfl, ⟨(fun e => by cases e), fun e => ?_⟩, H6.out⟩
       have h1 := e.2 k (by have h1 := HF.out.1; have h2 := HX.out.2.2.2.2.2.2.2.2.2.2.2.2.2.2.1; omega) (by have h1 := HF.out.1; have h2 := HX.out.2.2.2.2.2.2.2.2.2.2.2.2.2.2.1; omega) (by have h1 := HX.out.2.2.2.2.2.2.2.2.2.2.2.2.1; have h2 := HX.out.2.2.2.2.2.2.2.2.2.2.2.2.2.2.2.2.1; omega)
       exact HEQ.out.2 h1
     · go_wp2
       go_roundw
       case rel => exact ⟨k + 1, by first | rfl | rw [HF5.out], Lib.hid ⟨by have := HF.out.1; omega, by have := HI.out.1; obtain ⟨_, _, _, _, _, _, _, g1, g2, g3, g4, g5, g6, g7, g8, g9, g10, g11⟩ := HX.out; omega, H6.out, fun j h1 h2 => by
         rcases Nat.lt_or_ge j k with h | h
         · exact HF.out.2.2.2 j h1 h
         · have : j = k := by omega
           subst this
           exact HEQ.out.1 rfl⟩⟩
       case measure => simp [intOf]; omega
   · have d1 : decide ((k : Int) ≤ (E : Int)) = false := by simp; omega
     have d2 : decide (k ≤ E) = false := by simp; omega
     go_wp2_with (go_at_call 23; (with_reducible refine HEn.out.mono ?_); rintro e w9 ⟨rfl, rfl⟩)
     go_ret
     refine ⟨true, rfl, ⟨fun _ => ⟨HX.out.2.2.2.2.2.2.2.2.2.2.2.1, fun i h1 h2 h3 => HF.out.2.2.2 i ?_ ?_⟩, fun _ => rfl⟩, HF.out.2.2.1⟩
     · have := HX.out.2.2.2.2.2.2.2.2.2.2.2.2.2.2.1; omega
     · have h5 := HX.out.2.2.2.2.2.2.2.2.2.2.2.2.1; have h6 := HX.out.2.2.2.2.2.2.2.2.2.2.2.2.2.2.2.2.1; omega
theorem begins_any {sp sp' : Spc} (n0 g g' B B' : Nat) (P P' : List Rq) (w : World) (h : LogP sp n0 w g B P) (h' : LogP sp' n0 w g' B' P') (hn0 : n0 ≤ w.heap.size) (hl : P.length ≤ 900) (hl' : P'.length ≤ 900) (hB : B ≤ 9000000000000000000) (hB' : B' ≤ 9000000000000000000) :
   Calls Tryz.prog 9 #[.pointer (some ⟨g, 0, none⟩), .pointer (some ⟨g', 0, none⟩)] w (BegOut B P B' P' w) := by
 rcases Nat.lt_or_ge (B' + P'.length) (B + P.length) with hE | hE
 · exact begins_no n0 g g' B B' P P' w h h' hn0 hl hl' hB hB' hE
 · exact begins_in n0 g g' B B' P P' w h h' hn0 hl hl' hB hB' hE
end Go.Proofs.YtniaijgejljjbaaGreat.Tlv
