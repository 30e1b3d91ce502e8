/- Is it a beginning, by the document. -/
import Derived.Test.YtniaijgejljjbaaGreatY50
namespace Go.Proofs.YtniaijgejljjbaaGreat.Tlv
open Go.RowKit Go.Lib Go.Sort
set_option maxRecDepth 100000
set_option linter.unusedVariables false
set_option linter.unusedSimpArgs false
set_option maxHeartbeats 32000000 in
theorem dbegins_no (r r' B B' : Nat) (R R' : List Rq) (w0 w : World) (h : LogQ w0.heap.size w0 w r B R) (h' : LogQ w0.heap.size w0 w r' B' R') (hl : R.length ≤ 900) (hl' : R'.length ≤ 900) (hB : B ≤ 9000000000000000000) (hB' : B' ≤ 9000000000000000000) (hE : B' + R'.length < B + R.length) :
   Calls Tryz.prog 12 #[.pointer (some ⟨r, 0, none⟩), .pointer (some ⟨r', 0, none⟩)] w (BegOut B R B' R' w) := by
 obtain ⟨A, n, c, hk, hn, hA, hsp, hrd⟩ := id h.st
 obtain ⟨A', n', c', hk', hn', hA', hsp', hrd'⟩ := id h'.st
 obtain ⟨E, hEE⟩ : ∃ E, E = B + n := ⟨_, rfl⟩
 obtain ⟨E', hEE'⟩ : ∃ E, E = B' + n' := ⟨_, rfl⟩
 have HE := Lib.hid (rend_is r B n c E A w hk hB (by omega) hEE)
 have HE' := Lib.hid (fun m => rend_is r' B' n' c' E' A' (w.drewN m) (hk'.on (below_drewN (Below.refl _ _) _)) hB' (by omega) hEE')
 have d1 : decide (E' < E) = true := by simp; omega
 have HD := Lib.hid hE
 clear hk hk' h h' hn hn' hl hl' hB hB' hE hEE hEE' hA hA' hsp hsp' hrd hrd'
 go_enter Tryz.func12, Tryz.ntmps12
 go_wp2_with (first
   | (go_at_call 32; (with_reducible refine HE.out.mono ?_); clear HE; rintro e w1 ⟨rfl, m1, rfl⟩; dsimp only)
   | (go_at_call 32; (with_reducible refine (HE'.out _).mono ?_); rintro e w1 ⟨rfl, m2, rfl⟩; dsimp only))
 go_ret
 exact ⟨false, rfl, ⟨(fun e => by cases e), (fun e => by have h1 := e.1; have h2 := HD.out; omega)⟩, below_drewN (Below.refl _ _) _⟩
set_option maxHeartbeats 64000000 in
theorem dbegins_in (r r' B B' : Nat) (R R' : List Rq) (w0 w : World) (h : LogQ w0.heap.size w0 w r B R) (h' : LogQ w0.heap.size w0 w r' B' R') (hb0 : Below w0.heap.size w0 w) (hl : R.length ≤ 900) (hl' : R'.length ≤ 900) (hB : B ≤ 9000000000000000000) (hB' : B' ≤ 9000000000000000000) (hE : B + R.length ≤ B' + R'.length) :
   Calls Tryz.prog 12 #[.pointer (some ⟨r, 0, none⟩), .pointer (some ⟨r', 0, none⟩)] w (BegOut B R B' R' w) := by
 obtain ⟨A, n, c, hk, hn, hA, hsp, hrd⟩ := id h.st
 obtain ⟨A', n', c', hk', hn', hA', hsp', hrd'⟩ := id h'.st
 obtain ⟨E, hEE⟩ : ∃ E, E = B + n := ⟨_, rfl⟩
 obtain ⟨E', hEE'⟩ : ∃ E, E = B' + n' := ⟨_, rfl⟩
 have HE := Lib.hid (rend_is r B n c E A w hk hB (by omega) hEE)
 have HE' := Lib.hid (fun m => rend_is r' B' n' c' E' A' (w.drewN m) (hk'.on (below_drewN (Below.refl _ _) _)) hB' (by omega) hEE')
 have d1 : decide (E' < E) = false := by simp; omega
 have hn1 : n ≤ 900 := by omega
 have HX := Lib.hid (And.intro h (And.intro h' (And.intro hk (And.intro hb0 (And.intro hl (And.intro hl' (And.intro hB (And.intro hB' (And.intro hE (And.intro hn hrd))))))))))
 clear hk hk' h h' hn hn' hl hl' hB hB' hE hEE hEE' hA hA' hsp hsp' hrd hrd' hb0
 go_enter Tryz.func12, Tryz.ntmps12
 go_upto_region 4 with (first
   | (go_at_call 32; (with_reducible refine HE.out.mono ?_); clear HE; rintro e w1 ⟨rfl, m1, rfl⟩; dsimp only)
   | (go_at_call 32; (with_reducible refine (HE'.out _).mono ?_); rintro e w1 ⟨rfl, m2, rfl⟩; dsimp only))
 have HF0 : Hid (Below w.heap.size w (w.drewN (m1 + m2))) := Lib.hid (below_drewN (Below.refl _ _) _)
 generalize w.drewN (m1 + m2) = w2 at HF0 ⊢
 clear d1 HE'
 go_loopw [5] (fun s5 wr => ∃ i : Nat, s5 = .int .i64 i ∧ i ≤ n ∧ Hid (Below w.heap.size w wr ∧ ∀ k, B < k → B' < k → k ≤ B + i → (R.getD (k - B - 1) default).m = (R'.getD (k - B' - 1) default).m)) (fun s5 _ => n - (intOf s5).toNat)
 case atStart => exact ⟨0, rfl, Nat.zero_le _, Lib.hid ⟨HF0.out, fun k h1 h2 h3 => by omega⟩⟩
 case round =>
   obtain ⟨i, rfl, hin, HF⟩ := hrel
   have hb1 : w0.heap.size ≤ w.heap.size := HX.out.2.2.2.1.size
   have HLQ := Lib.hid (And.intro (HX.out.1.on HF.out.1 hb1) (And.intro (HX.out.2.1.on HF.out.1 hb1) (And.intro (HX.out.2.2.1.on HF.out.1) (And.intro (HX.out.2.2.2.1.trans (HF.out.1.mono hb1)) (HX.out.2.2.2.2.2.2.2.2.2.2.frT (sp := spA) (T := TN) (FrT.of HF.out.1 hb1) (fun _ => id))))))
   clear hb1
   have x0 : wr.cell? ⟨r, 0, none⟩ = some (.int .u64 B) := HLQ.out.2.2.1.cell 0
   have x1 : wr.cell? ⟨r, 1, none⟩ = some (.slice A n c) := HLQ.out.2.2.1.cell 1
   by_cases hlt : i < n
   · have hki : (i : Int) < (n : Int) := by omega
     obtain ⟨p, hp⟩ : ∃ p, p = B + i := ⟨_, rfl⟩
     obtain ⟨m, hm⟩ : ∃ m, m = B + (i + 1) := ⟨_, rfl⟩
     have f1 : IntKind.u64.wrap ((B : Int) + (i : Int)) = (p : Int) := by have := HX.out.2.2.2.2.2.2.1; rw [IntKind.wrap_u64]; omega
     have f2 : IntKind.u64.wrap ((p : Int) + 1) = (m : Int) := by have := HX.out.2.2.2.2.2.2.1; rw [IntKind.wrap_u64]; omega
     have f3 : IntKind.u64.wrap (i : Int) = (i : Int) := by rw [IntKind.wrap_u64]; omega
     have hiR : i < R.length := by have := HX.out.2.2.2.2.2.2.2.2.2.1; omega
     have HM := Lib.hid hm
     by_cases hmB : B' < m
     · obtain ⟨j, hj⟩ : ∃ j, j = m - B' - 1 := ⟨_, rfl⟩
       have hmj : m = B' + (j + 1) := by omega
       have hjR : j < R'.length := by have h1 := HX.out.2.2.2.2.2.2.2.2.1; omega
       have HA := rat_ok w0.heap.size r' B' j m R' w0 wr HLQ.out.2.1 HLQ.out.2.2.2.1.size HX.out.2.2.2.2.2.2.2.1 (Nat.le_trans HX.out.2.2.2.2.2.1 (by decide)) hmj hjR
       obtain ⟨b, off, hAA, hbl, hra⟩ := rq_range HLQ.out.2.2.2.2 hiR
       have hox := HX.out.1.at_ _ (mem_getD hiR)
       have hoy := HX.out.2.1.at_ _ (mem_getD hjR)
       have hgx := HX.out.1.good _ (means_mem hiR)
       have hgy := HX.out.2.1.good _ (means_mem hjR)
       obtain ⟨xx, hxx⟩ : ∃ xx, xx = R.getD i default := ⟨_, rfl⟩
       obtain ⟨yy, hyy⟩ : ∃ yy, yy = R'.getD j default := ⟨_, rfl⟩
       rw [← hxx] at hra hox hgx
       rw [← hyy] at HA hoy hgy
       have HXX := Lib.hid (And.intro hxx (And.intro hyy (And.intro hj (And.intro hmB hlt))))
       have HSM := Lib.hid (sameRq_iff yy xx)
       obtain ⟨xc, xn, xo, xA, xla, xca, xP, xlp, xcp, xC, xlc, xcc⟩ := xx
       obtain ⟨yc, yn, yo, yA, yla, yca, yP, ylp, ycp, yC, ylc, ycc⟩ := yy
       have HA := Lib.hid HA
       have HOO := Lib.hid (And.intro hox (And.intro hoy (And.intro hgx hgy)))
       have HRA : Hid (wr.rangeAt b (off + i * 9) [.int .u64 xc, .int .u64 xn, .int .i64 xo.k, .string (sx xo.name), .string (sx xo.dst), .slice xA xla xca, .slice xP xlp xcp, .slice xC xlc xcc, .int .i64 xo.n]) := Lib.hid hra
       subst hAA
       clear hxx hyy hra hox hoy hgx hgy hiR hjR hmj hj hm hp hmB hbl
       go_upto_region 7 with (first
         | (go_at_call 28; (with_reducible refine HA.out.mono ?_); clear HA; rintro e w3 ⟨rfl, hb3⟩; dsimp only; have H3 := Lib.hid hb3; clear hb3 x0 x1)
         | (refine wpList_store_rowTo rfl 46 _ _ rfl rfl w3.heap.size (rqCs yc yn yo (.slice yA yla yca) (.slice yP ylp ycp) (.slice yC ylc ycc)) rfl rfl 46 zQ (Blk.new w3 46 zQ) (by kernel_rfl) rfl (by kernel_rfl) ?_))
       have h9 := (Blk.new w3 46 zQ).row (rqCs yc yn yo (.slice yA yla yca) (.slice yP ylp ycp) (.slice yC ylc ycc))
       have h8 := below_setRow ((Below.refl w3.heap.size w3).alloc (Nat.le_refl _) (.cells zQ 46)) (Nat.le_refl _) (rqCs yc yn yo (.slice yA yla yca) (.slice yP ylp ycp) (.slice yC ylc ycc))
       have h7 := H3.out.trans (h8.mono H3.out.size)
       have hkd4 := HLQ.out.2.2.1.on h7
       have hra4 : ((w3.alloc (.cells zQ 46)).setRow w3.heap.size (rqCs yc yn yo (.slice yA yla yca) (.slice yP ylp ycp) (.slice yC ylc ycc))).rangeAt b (off + i * 9) [.int .u64 xc, .int .u64 xn, .int .i64 xo.k, .string (sx xo.name), .string (sx xo.dst), .slice xA xla xca, .slice xP xlp xcp, .slice xC xlc xcc, .int .i64 xo.n] := fun q v hv => by
         have h := HRA.out q v hv
         rw [h7.cell (p := ⟨b, off + i * 9 + q, none⟩) (World.block_lt_of_cell? wr _ h)]
         exact h
       have H4 := Lib.hid (And.intro (HF.out.1.trans (h7.mono HF.out.1.size)) (HLQ.out.2.2.2.1.trans (h7.mono HLQ.out.2.2.2.1.size)))
       clear h7 h8
       generalize (w3.alloc (.cells zQ 46)).setRow w3.heap.size (rqCs yc yn yo (.slice yA yla yca) (.slice yP ylp ycp) (.slice yC ylc ycc)) = W5 at h9 H4 hkd4 hra4 ⊢
       obtain ⟨a0, a1, a2, a3, a4, a5, a6, a7, a8⟩ := rq_cells h9
       obtain ⟨b0, b1, b2, b3, b4, b5, b6, b7, b8⟩ := range_cells hra4
       have c1 : W5.cell? ⟨r, 1, none⟩ = some (.slice (some ⟨b, off, none⟩) n c) := hkd4.cell 1
       obtain ⟨bb, hbb⟩ : ∃ bb, bb = sameRq yc yn yo xc xn xo := ⟨_, rfl⟩
       have cS : ∀ d os, _ := fun d os => Calls.regrown_of (show Calls Tryz.prog 29 #[rqVal yc yn yo (.slice yA yla yca) (.slice yP ylp ycp) (.slice yC ylc ycc), rqVal xc xn xo (.slice xA xla xca) (.slice xP xlp xcp) (.slice xC xlc xcc)] (grow (redrawn W5 d) os) fun e w' => e = .returned (.bool bb) ∧ Below (grow (redrawn W5 d) os).heap.size (grow (redrawn W5 d) os) w' from by
         have hb := H4.out.2.trans ((below_regrown W5 d os).mono H4.out.2.size)
         rw [hbb]
         exact sameRqR_any yc yn xc xn yo xo _ _ _ _ _ _ (grow (redrawn W5 d) os) (HOO.out.2.1.on hb) (HOO.out.1.on hb) HOO.out.2.2.2.ok.lim HOO.out.2.2.1.ok.lim)
       have HBB := Lib.hid hbb
       have r0 := cell_regrown a0
       have r1 := cell_regrown a1
       have r2 := cell_regrown a2
       have r3 := cell_regrown a3
       have r4 := cell_regrown a4
       have r5 := cell_regrown a5
       have r6 := cell_regrown a6
       have r7 := cell_regrown a7
       have r8 := cell_regrown a8
       have s0 := cell_regrown b0
       have s1 := cell_regrown b1
       have s2 := cell_regrown b2
       have s3 := cell_regrown b3
       have s4 := cell_regrown b4
       have s5 := cell_regrown b5
       have s6 := cell_regrown b6
       have s7 := cell_regrown b7
       have s8 := cell_regrown b8
       have t1 := cell_regrown c1
       clear a0 a1 a2 a3 a4 a5 a6 a7 a8 b0 b1 b2 b3 b4 b5 b6 b7 b8 c1 h9 hkd4 hra4 f1 f2 f3 hbb
       refine wp_region_quiet_below (by kernel_rfl) (by kernel_rfl) ?_
       repeat
         with_reducible refine wpQuiet_step (fun K hK => ?_)
         go_simp
         first
           | (with_reducible refine hK _ ?_; clear hK K)
           | (rw [if_neg (by first | decide | (intro h; cases h))]; with_reducible refine hK _ ?_; clear hK K)
           | (apply Exists.intro; refine ⟨fun _ => ?_, hK _ ?_⟩; (exact cS _ _); clear hK K)
       with_reducible refine wpQuiet_nil ?_
       rintro _ ⟨⟨dq, osq⟩, rfl⟩
       have H6 := Lib.hid (H4.out.1.trans ((below_regrown W5 dq osq).mono H4.out.1.size))
       clear r0 r1 r2 r3 r4 r5 r6 r7 r8 s0 s1 s2 s3 s4 s5 s6 s7 s8 t1 cS
       generalize grow (redrawn W5 dq) osq = w6 at H6 ⊢
       have HEQ : Hid (bb = true ↔ (R.getD (m - B - 1) default).m = (R'.getD (m - B' - 1) default).m) := Lib.hid (by
         have e1 : m - B - 1 = i := by have := HM.out; omega
         rw [e1, ← HXX.out.2.2.1, ← HXX.out.1, ← HXX.out.2.1, HBB.out]
         exact HSM.out.trans ⟨Eq.symm, Eq.symm⟩)
       cases bb
       · go_wp2
         go_ret
         refine ⟨false, rfl, ⟨(fun e => by cases e), fun e => ?_⟩, H6.out⟩
         have h1 := e.2 m (by have := HM.out; omega) HXX.out.2.2.2.1 (by have := HM.out; have h2 := HX.out.2.2.2.2.2.2.2.2.2.1; have h3 := HXX.out.2.2.2.2; omega)
         exact HEQ.out.2 h1
       · go_wp2
         go_roundw
         case rel => exact ⟨i + 1, by go_num, by omega, Lib.hid ⟨H6.out, fun k h1 h2 h3 => by
           rcases Nat.lt_or_ge (B + i) k with h | h
           · have : k = m := by have := HM.out; omega
             subst this
             exact HEQ.out.1 rfl
           · exact HF.out.2 k h1 h2 h⟩⟩
         case measure => simp [intOf]; omega
     · have hle : m ≤ B' := by omega
       have HA := Lib.hid (rat_no w0.heap.size r' B' m R' w0 wr HLQ.out.2.1 HX.out.2.2.2.2.2.2.2.1 (Nat.le_trans HX.out.2.2.2.2.2.1 (by decide)) (.inl hle))
       have HLE := Lib.hid hle
       clear hle hmB hm hp hiR
       go_upto_region 7 with (first
         | (go_at_call 28; (with_reducible refine HA.out.mono ?_); clear HA; rintro e w3 ⟨rfl, hb3⟩; dsimp only; have H3 := Lib.hid hb3; clear hb3 x0 x1)
         | (refine wpList_store_rowTo rfl 46 _ _ rfl rfl w3.heap.size zQ rfl rfl 46 zQ (Blk.new w3 46 zQ) (by kernel_rfl) rfl (by kernel_rfl) ?_))
       have h8 := below_setRow ((Below.refl w3.heap.size w3).alloc (Nat.le_refl _) (.cells zQ 46)) (Nat.le_refl _) zQ
       have h7 := H3.out.trans (h8.mono H3.out.size)
       have H4 := Lib.hid (HF.out.1.trans (h7.mono HF.out.1.size))
       clear h7 h8 f1 f2 f3
       generalize (w3.alloc (.cells zQ 46)).setRow w3.heap.size zQ = W5 at H4 ⊢
       refine wp_region_quiet_below (by kernel_rfl) (by kernel_rfl) ?_
       repeat
         with_reducible refine wpQuiet_step (fun K hK => ?_)
         go_simp
         first
           | (with_reducible refine hK _ ?_; clear hK K)
           | (rw [if_neg (by first | decide | (intro h; cases h))]; with_reducible refine hK _ ?_; clear hK K)
       with_reducible refine wpQuiet_nil ?_
       rintro _ ⟨⟨dq, osq⟩, rfl⟩
       have H6 := Lib.hid (H4.out.trans ((below_regrown W5 dq osq).mono H4.out.size))
       generalize grow (redrawn W5 dq) osq = w6 at H6 ⊢
       go_wp2
       go_roundw
       case rel => exact ⟨i + 1, by go_num, by omega, Lib.hid ⟨H6.out, fun k h1 h2 h3 => by
         rcases Nat.lt_or_ge (B + i) k with h | h
         · have h4 := HM.out; have h5 := HLE.out; omega
         · exact HF.out.2 k h1 h2 h⟩⟩
       case measure => simp [intOf]; omega
   · have hki : ¬ (i : Int) < (n : Int) := by omega
     go_wp2
     go_ret
     exact ⟨true, rfl, ⟨fun _ => ⟨HX.out.2.2.2.2.2.2.2.2.1, fun k h1 h2 h3 => HF.out.2 k h1 h2 (by have h2 := HX.out.2.2.2.2.2.2.2.2.2.1; omega)⟩, fun _ => rfl⟩, HF.out.1⟩
theorem dbegins_any (r r' B B' : Nat) (R R' : List Rq) (w0 w : World) (h : LogQ w0.heap.size w0 w r B R) (h' : LogQ w0.heap.size w0 w r' B' R') (hb0 : Below w0.heap.size w0 w) (hl : R.length ≤ 900) (hl' : R'.length ≤ 900) (hB : B ≤ 9000000000000000000) (hB' : B' ≤ 9000000000000000000) :
   Calls Tryz.prog 12 #[.pointer (some ⟨r, 0, none⟩), .pointer (some ⟨r', 0, none⟩)] w (BegOut B R B' R' w) := by
 rcases Nat.lt_or_ge (B' + R'.length) (B + R.length) with hE | hE
 · exact dbegins_no r r' B B' R R' w0 w h h' hl hl' hB hB' hE
 · exact dbegins_in r r' B B' R R' w0 w h h' hb0 hl hl' hB hB' hE
end Go.Proofs.YtniaijgejljjbaaGreat.Tlv
