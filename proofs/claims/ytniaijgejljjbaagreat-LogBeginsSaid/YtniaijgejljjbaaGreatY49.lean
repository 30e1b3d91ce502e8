/- Do both logs look the same. -/
import Derived.Test.YtniaijgejljjbaaGreatY48
import Derived.Lib.QuietBelow
namespace Go.Proofs.YtniaijgejljjbaaGreat.Tlv
open Go.RowKit Go.Lib Go.Sort
set_option maxRecDepth 100000
set_option linter.unusedVariables false
set_option linter.unusedSimpArgs false
set_option maxHeartbeats 32000000 in
theorem same_any {sp : Spc} {wz : World} (n0 g r B : Nat) (P R : List Rq) (w0 w : World) (h : LR sp n0 w0 wz w g r B P R) (hn0 : n0 = w0.heap.size) (hl : P.length ≤ 800) (hB : B + P.length ≤ 4611686018427388904) :
   Calls Tryz.prog 11 #[.pointer (some ⟨g, 0, none⟩), .pointer (some ⟨r, 0, none⟩)] w fun e w' => e = .returned (.bool true) ∧ Below w.heap.size w w' := by
 have hn0w : n0 ≤ w.heap.size := by rw [hn0]; exact h.bel.size
 obtain ⟨⟨A, n, c, hk, hO, _⟩, _, _, _, _⟩ := id h.p
 obtain ⟨D, nd, cd, hkd, hnd, _⟩ := id h.q.st
 obtain ⟨L, hL⟩ : ∃ L, L = P.length := ⟨_, rfl⟩
 obtain rfl : L = n := hL.trans hO.len.symm
 obtain rfl : L = nd := by rw [hL, hnd, h.len]
 obtain ⟨E, hE⟩ : ∃ E, E = B + L := ⟨_, rfl⟩
 obtain ⟨q, hq⟩ : ∃ q, q = sumM (means P) := ⟨_, rfl⟩
 rw [← hq] at hk
 have hq2 : q = sumM (means R) := by rw [hq, h.m]
 have cA : ∀ d os, _ := fun d os => Calls.regrown_of ((base_is g B _ _ (grow (redrawn w d) os) (hk.on (below_regrown w d os))).mono fun e w' ⟨he, hw⟩ => (⟨he, hw ▸ Below.refl _ _⟩ : _ ∧ Below _ _ _))
 have cB : ∀ d os, _ := fun d os => Calls.regrown_of ((end_is g B L c E A _ (grow (redrawn w d) os) (hk.on (below_regrown w d os)) (by omega) (by omega) hE).mono fun e w' ⟨he, hw⟩ => (⟨he, hw ▸ Below.refl _ _⟩ : _ ∧ Below _ _ _))
 have cC : ∀ d os, _ := fun d os => Calls.regrown_of ((rend_is r B L cd E D (grow (redrawn w d) os) (hkd.on (below_regrown w d os)) (by omega) (by omega) hE).mono fun e w' ⟨he, m, hw⟩ => (⟨he, hw ▸ below_drewN (Below.refl _ _) _⟩ : _ ∧ Below _ _ _))
 have cD : ∀ d os, _ := fun d os => Calls.regrown_of ((len_is g _ _ A L c (grow (redrawn w d) os) (hk.on (below_regrown w d os))).mono fun e w' ⟨he, hw⟩ => (⟨he, hw ▸ Below.refl _ _⟩ : _ ∧ Below _ _ _))
 have cE : ∀ d os, _ := fun d os => Calls.regrown_of ((size_is g q _ _ (grow (redrawn w d) os) (hk.on (below_regrown w d os))).mono fun e w' ⟨he, hw⟩ => (⟨he, hw ▸ Below.refl _ _⟩ : _ ∧ Below _ _ _))
 have cF : ∀ d os, _ := fun d os => Calls.regrown_of (rsize_any n0 r B R w0 (grow (redrawn w d) os) (h.q.on (below_regrown w d os) hn0w) hn0 (h.bel.trans ((below_regrown w d os).mono hn0w)) (by rw [← h.len]; omega))
 rw [← hq2] at cF
 have c0 : w.cell? ⟨r, 0, none⟩ = some (.int .u64 B) := hkd.cell 0
 have c1 : w.cell? ⟨r, 1, none⟩ = some (.slice D L cd) := hkd.cell 1
 have e0 := cell_regrown c0
 have e1 := cell_regrown c1
 have HH := Lib.hid (And.intro h (And.intro hkd (And.intro hn0 (And.intro hn0w (And.intro hL (And.intro hl hB))))))
 clear h hk hkd hO hnd hL hE hq hq2 hl hB hn0 hn0w c0 c1
 go_enter Tryz.func11, Tryz.ntmps11
 go_upto_region 1 with fail
 refine wp_region_quiet_below (by kernel_rfl) (by kernel_rfl) ?_
 repeat
   with_reducible refine wpQuiet_step (fun K hK => ?_)
   go_simp
   first
     | (with_reducible refine hK _ ?_; clear hK K)
     | (rw [if_neg (by first | decide | (intro h; cases h))]; with_reducible refine hK _ ?_; clear hK K)
     | (apply Exists.intro; refine ⟨fun _ => ?_, hK _ ?_⟩; (first | exact cA _ _ | exact cB _ _ | exact cC _ _ | exact cD _ _ | exact cE _ _ | exact cF _ _); clear hK K)
 with_reducible refine wpQuiet_nil ?_
 rintro _ ⟨⟨dq, osq⟩, rfl⟩
 have HB2 := Lib.hid (below_regrown w dq osq)
 clear e0 e1 cA cB cC cD cE cF
 generalize grow (redrawn w dq) osq = w2 at HB2 ⊢
 go_upto_region 4 with fail
 go_loopw [5] (fun s5 wr => ∃ k : Nat, s5 = .int .i64 k ∧ k ≤ L ∧ Hid (Below w.heap.size w wr)) (fun s5 _ => L - (intOf s5).toNat)
 case atStart => exact ⟨0, rfl, Nat.zero_le _, HB2⟩
 case round =>
   obtain ⟨k, rfl, hkn, HF⟩ := hrel
   have hLl : L ≤ 800 := by have h1 := HH.out.2.2.2.2.1; have h2 := HH.out.2.2.2.2.2.1; omega
   have HLR := Lib.hid (And.intro (HH.out.1.on HF.out HH.out.2.2.2.1) (And.intro (HH.out.2.1.on HF.out) (Nat.le_trans HH.out.2.2.2.1 HF.out.size)))
   have c0 : wr.cell? ⟨r, 0, none⟩ = some (.int .u64 B) := HLR.out.2.1.cell 0
   have c1 : wr.cell? ⟨r, 1, none⟩ = some (.slice D L cd) := HLR.out.2.1.cell 1
   by_cases hlt : k < L
   · have hki : (k : Int) < (L : Int) := by omega
     have hkP : k < P.length := by have := HH.out.2.2.2.2.1; omega
     have hkR : k < R.length := by rw [← HH.out.1.len]; exact hkP
     obtain ⟨p, hp⟩ : ∃ p, p = B + k := ⟨_, rfl⟩
     obtain ⟨m, hm⟩ : ∃ m, m = B + (k + 1) := ⟨_, rfl⟩
     have f1 : IntKind.u64.wrap ((B : Int) + (k : Int)) = (p : Int) := by have := HH.out.2.2.2.2.2.2; rw [IntKind.wrap_u64]; omega
     have f2 : IntKind.u64.wrap ((p : Int) + 1) = (m : Int) := by have := HH.out.2.2.2.2.2.2; rw [IntKind.wrap_u64]; omega
     have f3 : IntKind.u64.wrap (k : Int) = (k : Int) := by rw [IntKind.wrap_u64]; omega
     have HA := Lib.hid (at_ok n0 g B k m P wr HLR.out.1.p HLR.out.2.2 (Nat.le_trans HH.out.2.2.2.2.2.1 (by decide)) (by have := HH.out.2.2.2.2.2.2; omega) hm hkP)
     have hmm := means_at HH.out.1.m hkP
     have hgd := HH.out.1.p.good _ (means_mem hkP)
     have hyo := HH.out.1.q.at_ _ (mem_getD hkR)
     obtain ⟨b, off, hDD, hbl, hra⟩ := rq_range (n0 := n0) (HLR.out.1.q.st |> fun ⟨_, _, _, hk2, _, _, _, hr⟩ => (by
       have h1 := blk_eq HLR.out.2.1 hk2
       injection h1 with h1
       injection h1 with _ h1
       injection h1 with h1 _
       injection h1 with h1 _ _
       rw [h1]
       exact hr : RdS n0 wr D R)) hkR
     have HM := Lib.hid (And.intro hmm (And.intro hgd hyo))
     have hxx : ∃ xx, xx = P.getD k default := ⟨_, rfl⟩
     obtain ⟨xx, hxx⟩ := hxx
     rw [← hxx] at HA HM
     clear hxx hmm hgd hyo hm hp hkP
     generalize R.getD k default = y at hra HM
     obtain ⟨yc, yn, yo, yA, yla, yca, yP, ylp, ycp, yC, ylc, ycc⟩ := y
     subst hDD
     have HRA := Lib.hid hra
     clear hra hbl hkR
     go_upto_region 7 with (first
       | (go_at_call 17; (with_reducible refine HA.out.mono ?_); clear HA; rintro e w3 ⟨⟨xc, xn, xo, xA, xla, xca, xP, xlp, xcp, xC, xlc, xcc⟩, hxm, rfl, hxo, hb3⟩; dsimp only; have H3 := Lib.hid (And.intro hxm (And.intro hxo hb3)); clear hxm hxo hb3 c0 c1)
       | (refine wpList_store_rowTo rfl 46 _ _ rfl rfl w3.heap.size (rqCs xc xn xo (.slice xA xla xca) (.slice xP xlp xcp) (.slice xC xlc xcc)) rfl rfl 46 zQ (Blk.new w3 46 zQ) (by kernel_rfl) rfl (by kernel_rfl) ?_))
     have h9 := (Blk.new w3 46 zQ).row (rqCs xc xn xo (.slice xA xla xca) (.slice xP xlp xcp) (.slice xC xlc xcc))
     have h8 := below_setRow ((Below.refl w3.heap.size w3).alloc (Nat.le_refl _) (.cells zQ 46)) (Nat.le_refl _) (rqCs xc xn xo (.slice xA xla xca) (.slice xP xlp xcp) (.slice xC xlc xcc))
     have h7 := H3.out.2.2.trans (h8.mono H3.out.2.2.size)
     have H4 := Lib.hid (And.intro (HLR.out.1.on h7 HLR.out.2.2) (And.intro (H3.out.2.1.on h8) (And.intro (Nat.le_trans HLR.out.2.2 h7.size) (HF.out.trans (h7.mono HF.out.size)))))
     have hkd4 := HLR.out.2.1.on h7
     have hra4 : ((w3.alloc (.cells zQ 46)).setRow w3.heap.size (rqCs xc xn xo (.slice xA xla xca) (.slice xP xlp xcp) (.slice xC xlc xcc))).rangeAt b (off + k * 9) [.int .u64 yc, .int .u64 yn, .int .i64 yo.k, .string (sx yo.name), .string (sx yo.dst), .slice yA yla yca, .slice yP ylp ycp, .slice yC ylc ycc, .int .i64 yo.n] := fun q v hv => by
       have h := HRA.out q v hv
       rw [h7.cell (p := ⟨b, off + k * 9 + q, none⟩) (World.block_lt_of_cell? wr _ h)]
       exact h
     clear h7 h8
     generalize (w3.alloc (.cells zQ 46)).setRow w3.heap.size (rqCs xc xn xo (.slice xA xla xca) (.slice xP xlp xcp) (.slice xC xlc xcc)) = W5 at h9 H4 hkd4 hra4 ⊢
     obtain ⟨a0, a1, a2, a3, a4, a5, a6, a7, a8⟩ := rq_cells h9
     obtain ⟨b0, b1, b2, b3, b4, b5, b6, b7, b8⟩ := range_cells hra4
     have c1 : W5.cell? ⟨r, 1, none⟩ = some (.slice (some ⟨b, off, none⟩) L cd) := hkd4.cell 1
     have HE : Hid (xc = yc ∧ xn = yn ∧ xo = yo) := Lib.hid (by
       have h1 := H3.out.1.trans HM.out.1
       unfold Rq.m at h1
       dsimp only at h1
       injection h1 with e1 e2 e3
       exact ⟨e1, e2, e3⟩)
     have hgx : (⟨xc, xn, xo⟩ : Mq).Good := by have h := HM.out.2.1; rw [← H3.out.1] at h; exact h
     have cS : ∀ d os, _ := fun d os => Calls.regrown_of (show Calls Tryz.prog 29 #[rqVal xc xn xo (.slice xA xla xca) (.slice xP xlp xcp) (.slice xC xlc xcc), rqVal yc yn yo (.slice yA yla yca) (.slice yP ylp ycp) (.slice yC ylc ycc)] (grow (redrawn W5 d) os) fun e w' => e = .returned (.bool true) ∧ Below (grow (redrawn W5 d) os).heap.size (grow (redrawn W5 d) os) w' from by
       have hb := below_regrown W5 d os
       have h1 := sameRqR_any xc xn yc yn xo yo _ _ _ _ _ _ (grow (redrawn W5 d) os) (H4.out.2.1.on hb).at (HM.out.2.2.on ((HH.out.2.2.1 ▸ H4.out.1.bel).trans (hb.mono (HH.out.2.2.1 ▸ H4.out.2.2.1)))) hgx.ok.lim (HE.out.2.2 ▸ hgx.ok.lim)
       have h2 : sameRq xc xn xo yc yn yo = true := by
         unfold sameRq
         rw [HE.out.1, HE.out.2.1, HE.out.2.2, sameO_refl]
         simp
       rw [h2] at h1
       exact h1)
     have r0 := cell_regrown a0
     have r1 := cell_regrown a1
     have r2 := cell_regrown a2
     have r3 := cell_regrown a3
     have r4 := cell_regrown a4
     have r5 := cell_regrown a5
     have r6 := cell_regrown a6
     have r7 := cell_regrown a7
     have r8 := cell_regrown a8
     have s0 := cell_regrown b0
     have s1 := cell_regrown b1
     have s2 := cell_regrown b2
     have s3 := cell_regrown b3
     have s4 := cell_regrown b4
     have s5 := cell_regrown b5
     have s6 := cell_regrown b6
     have s7 := cell_regrown b7
     have s8 := cell_regrown b8
     have t1 := cell_regrown c1
     clear a0 a1 a2 a3 a4 a5 a6 a7 a8 b0 b1 b2 b3 b4 b5 b6 b7 b8 c1 h9 hkd4 hra4 hgx f1 f2 f3
     refine wp_region_quiet_below (by kernel_rfl) (by kernel_rfl) ?_
     repeat
       with_reducible refine wpQuiet_step (fun K hK => ?_)
       go_simp
       first
         | (with_reducible refine hK _ ?_; clear hK K)
         | (rw [if_neg (by first | decide | (intro h; cases h))]; with_reducible refine hK _ ?_; clear hK K)
         | (apply Exists.intro; refine ⟨fun _ => ?_, hK _ ?_⟩; (exact cS _ _); clear hK K)
     with_reducible refine wpQuiet_nil ?_
     rintro _ ⟨⟨dq, osq⟩, rfl⟩
     have H6 := Lib.hid (H4.out.2.2.2.trans ((below_regrown W5 dq osq).mono H4.out.2.2.2.size))
     clear r0 r1 r2 r3 r4 r5 r6 r7 r8 s0 s1 s2 s3 s4 s5 s6 s7 s8 t1 cS
     generalize grow (redrawn W5 dq) osq = w6 at H6 ⊢
     go_wp2
     go_roundw
     case rel => exact ⟨k + 1, by go_num, by omega, H6⟩
     case measure => simp [intOf]; omega
   · have hki : ¬ (k : Int) < (L : Int) := by omega
     go_wp2
     go_ret
     exact ⟨rfl, HF.out⟩
end Go.Proofs.YtniaijgejljjbaaGreat.Tlv
namespace Go.Proofs.YtniaijgejljjbaaGreat.Tlv
open Go.RowKit
set_option maxRecDepth 100000
set_option linter.unusedVariables false
set_option linter.unusedSimpArgs false
def CopyOut (n0 g B : Nat) (P : List Rq) (w : World) (e : Ending) (w' : World) : Prop := ∃ (g' n c : Nat) (A : Option Addr) (z : Value), e = .returned (.pointer (some ⟨g', 0, none⟩)) ∧ w.heap.size ≤ g' ∧ Blk w' g 65 #[.bool true, .int .u64 B, .slice A n c, z] ∧ Blk w' g' 65 #[.bool true, .int .u64 B, .slice A n n, z] ∧ OffK kIt w' n0 A n c P ∧ (∀ sp : Spc, sp.N ≤ w'.heap.size → LogP sp n0 w' g' B P) ∧ Below w.heap.size w w'
set_option maxHeartbeats 16000000 in
theorem copy_ok {sp : Spc} (n0 g B : Nat) (P : List Rq) (w : World) (h : LogP sp n0 w g B P) (hn0 : n0 ≤ w.heap.size) (hl : P.length ≤ 1000) :
   Calls Tryz.prog 8 #[.pointer (some ⟨g, 0, none⟩)] w (CopyOut n0 g B P w) := by
 obtain ⟨⟨A, n, c, hk, hO, hsp⟩, hown, hlow, hgood, hspn⟩ := id h
 have hnl := hO.len
 have hn1 : n ≤ 1000 := by omega
 have hnc : n ≤ c := hO.le
 obtain ⟨q, hq⟩ : ∃ q, q = sumM (means P) := ⟨_, rfl⟩
 have HQ := Lib.hid hq
 rw [← hq] at hk
 have HN := Lib.hid (none_is g true _ _ _ w hk)
 have hb1 : Below w.heap.size w (w.alloc (.cells #[.bool true, .int .u64 B, .slice A n c, .int .i64 q] 65)) := (Below.refl _ _).alloc (Nat.le_refl _) _
 have c0 : w.cell? ⟨g, 0, none⟩ = some (.bool true) := hk.cell 0
 have c1 : w.cell? ⟨g, 1, none⟩ = some (.int .u64 B) := hk.cell 1
 have c2 : w.cell? ⟨g, 2, none⟩ = some (.slice A n c) := hk.cell 2
 have c3 : w.cell? ⟨g, 3, none⟩ = some (.int .i64 q) := hk.cell 3
 have HX := Lib.hid (And.intro h (And.intro hk (And.intro hO (And.intro hn0 (And.intro hown (And.intro hgood hnl))))))
 clear hk hO hsp hown hlow hgood hspn h hnl hl hq
 obtain ⟨B1, hB1⟩ : ∃ b, b = w.heap.size := ⟨_, rfl⟩
 have HBB := Lib.hid hB1
 go_enter Tryz.func8, Tryz.ntmps8
 go_upto_region 4 with (go_at_call 22; (with_reducible refine HN.out.mono ?_); rintro e w1 ⟨rfl, rfl⟩)
 rw [← HBB.out]
 have kn : Blk (w.alloc (.cells #[.bool true, .int .u64 B, .slice A n c, .int .i64 q] 65)) B1 65 #[.bool true, .int .u64 B, .slice A n c, .int .i64 q] := by rw [hB1]; exact Blk.new w 65 _
 have HK := Lib.hid (And.intro (HX.out.2.1.on hb1) (And.intro kn hb1))
 clear hb1 kn hB1 c0 c1 c2 c3 HN
 generalize w.alloc (.cells #[.bool true, .int .u64 B, .slice A n c, .int .i64 q] 65) = W1 at HK ⊢
 have c2 : W1.cell? ⟨g, 2, none⟩ = some (.slice A n c) := HK.out.1.cell 2
 have d2 : W1.cell? ⟨B1, 2, none⟩ = some (.slice A n c) := HK.out.2.1.cell 2
 have f2 := HK.out.2.1.frozen 2
 go_wp2_with fail
 go_ret
 have hb2 : Below w.heap.size w (W1.setCell ⟨B1, 2, none⟩ (.slice A n n)) := HK.out.2.2.setCell (p := ⟨B1, 2, none⟩) (by rw [← HBB.out]; exact Nat.le_refl _) _
 have hO2 : OffK kIt (W1.setCell ⟨B1, 2, none⟩ (.slice A n n)) n0 A n c P := HX.out.2.2.1.on hb2
 have hlen := HX.out.2.2.2.2.2.2
 have hgB : g ≠ B1 := by have := HX.out.2.1.lt; have := HBB.out; omega
 have hkG : Blk (W1.setCell ⟨B1, 2, none⟩ (.slice A n n)) g 65 #[.bool true, .int .u64 B, .slice A n c, .int .i64 q] := HX.out.2.1.on hb2
 have hkN : Blk (W1.setCell ⟨B1, 2, none⟩ (.slice A n n)) B1 65 #[.bool true, .int .u64 B, .slice A n n, .int .i64 q] := HK.out.2.1.set_ 2 _
 refine ⟨B1, n, c, A, .int .i64 q, rfl, by rw [HBB.out]; exact Nat.le_refl _, hkG, hkN, hO2, fun sp' hs => ?_, hb2⟩
 refine ⟨⟨A, n, n, by rw [← HQ.out]; exact hkN, ?_, SpOk.none_ (Nat.le_refl _)⟩, fun x hx => (HX.out.2.2.2.2.1 x hx).frT (sp := spA) (T := TN) (FrT.of hb2 HX.out.2.2.2.1) (fun _ => id) (fun _ => id) (fun _ => id), by rw [HBB.out]; exact HX.out.2.2.2.1, HX.out.2.2.2.2.2.1, hs⟩
 have := hO2.cut (Nat.le_refl n)
 rwa [List.take_of_length_le (by omega)] at this
end Go.Proofs.YtniaijgejljjbaaGreat.Tlv
