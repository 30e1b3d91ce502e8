/- Do both logs look the same. -/
import Derived.Test.YtniaijgejljjbaaY52
import Derived.Lib.QuietBelow
namespace Go.Proofs.Ytniaijgejljjbaa.Tlv
open Go.RowKit Go.Lib Go.Sort
set_option maxRecDepth 100000
set_option linter.unusedVariables false
set_option linter.unusedSimpArgs false
set_option maxHeartbeats 32000000 in
theorem same_any (n0 g r B : Nat) (P R : List Rq) (w0 w : World) (h : LR n0 w0 w g r B P R) (hn0 : n0 = w0.heap.size) (hl : P.length ≤ 800) (hB : B + P.length ≤ 4611686018427388904) :
   Calls Try.prog 11 #[.pointer (some ⟨g, 0, none⟩), .pointer (some ⟨r, 0, none⟩)] w fun e w' => e = .returned (.bool true) ∧ Below w.heap.size w w' := by
 have hn0w : n0 ≤ w.heap.size := by rw [hn0]; exact h.bel.size
 obtain ⟨⟨A, n, c, hk, hO⟩, _, _, _⟩ := id h.p
 obtain ⟨D, nd, cd, hkd, hnd, _⟩ := id h.q.st
 obtain ⟨L, hL⟩ : ∃ L, L = P.length := ⟨_, rfl⟩
 obtain rfl : L = n := hL.trans hO.len.symm
 obtain rfl : L = nd := by rw [hL, hnd, h.len]
 obtain ⟨E, hE⟩ : ∃ E, E = B + L := ⟨_, rfl⟩
 obtain ⟨q, hq⟩ : ∃ q, q = sumM (means P) := ⟨_, rfl⟩
 rw [← hq] at hk
 have hq2 : q = sumM (means R) := by rw [hq, h.m]
 have cA : ∀ d os, _ := fun d os => Calls.regrown_of ((base_is g B _ _ (grow (redrawn w d) os) (hk.on (below_regrown w d os))).mono fun e w' ⟨he, hw⟩ => (⟨he, hw ▸ Below.refl _ _⟩ : _ ∧ Below _ _ _))
 have cB : ∀ d os, _ := fun d os => Calls.regrown_of ((end_is g B L c E A _ (grow (redrawn w d) os) (hk.on (below_regrown w d os)) (by omega) (by omega) hE).mono fun e w' ⟨he, hw⟩ => (⟨he, hw ▸ Below.refl _ _⟩ : _ ∧ Below _ _ _))
 have cC : ∀ d os, _ := fun d os => Calls.regrown_of ((rend_is r B L cd E D (grow (redrawn w d) os) (hkd.on (below_regrown w d os)) (by omega) (by omega) hE).mono fun e w' ⟨he, m, hw⟩ => (⟨he, hw ▸ below_drewN (Below.refl _ _) _⟩ : _ ∧ Below _ _ _))
 have cD : ∀ d os, _ := fun d os => Calls.regrown_of ((len_is g _ _ A L c (grow (redrawn w d) os) (hk.on (below_regrown w d os))).mono fun e w' ⟨he, hw⟩ => (⟨he, hw ▸ Below.refl _ _⟩ : _ ∧ Below _ _ _))
 have cE : ∀ d os, _ := fun d os => Calls.regrown_of ((size_is g q _ _ (grow (redrawn w d) os) (hk.on (below_regrown w d os))).mono fun e w' ⟨he, hw⟩ => (⟨he, hw ▸ Below.refl _ _⟩ : _ ∧ Below _ _ _))
 have cF : ∀ d os, _ := fun d os => Calls.regrown_of (rsize_any n0 r B R w0 (grow (redrawn w d) os) (h.q.on (below_regrown w d os) hn0w) hn0 (h.bel.trans ((below_regrown w d os).mono hn0w)) (by rw [← h.len]; omega))
 rw [← hq2] at cF
 have c0 : w.cell? ⟨r, 0, none⟩ = some (.int .u64 B) := hkd.cell 0
 have c1 : w.cell? ⟨r, 1, none⟩ = some (.slice D L cd) := hkd.cell 1
 have e0 := cell_regrown c0
 have e1 := cell_regrown c1
 have HH := Lib.hid (And.intro h (And.intro hkd (And.intro hn0 (And.intro hn0w (And.intro hL (And.intro hl hB))))))
 clear h hk hkd hO hnd hL hE hq hq2 hl hB hn0 hn0w c0 c1
 go_enter Try.func11, Try.ntmps11
 go_upto_region 1 with fail
 refine wp_region_quiet_below (by kernel_rfl) (by kernel_rfl) ?_
 repeat
   with_reducible refine wpQuiet_step (fun K hK => ?_)
   go_simp
   first
     | (with_reducible refine hK _ ?_; clear hK K)
     | (rw [if_neg (by first | decide | (intro h; cases h))]; with_reducible refine hK _ ?_; clear hK K)
     | (apply Exists.intro; refine ⟨fun _ => ?_, hK _ ?_⟩; (first | exact cA _ _ | exact cB _ _ | exact cC _ _ | exact cD _ _ | exact cE _ _ | exact cF _ _); clear hK K)
 with_reducible refine wpQuiet_nil ?_
 rintro _ ⟨⟨dq, osq⟩, rfl⟩
 have HB2 := Lib.hid (below_regrown w dq osq)
 clear e0 e1 cA cB cC cD cE cF
 generalize grow (redrawn w dq) osq = w2 at HB2 ⊢
 go_upto_region 4 with fail
 go_loopw [5] (fun s5 wr => ∃ k : Nat, s5 = .int .i64 k ∧ k ≤ L ∧ Hid (Below w.heap.size w wr)) (fun s5 _ => L - (intOf s5).toNat)
 case atStart => exact ⟨0, rfl, Nat.zero_le _, HB2⟩
 case round =>
   obtain ⟨k, rfl, hkn, HF⟩ := hrel
   have hLl : L ≤ 800 := by have h1 := HH.out.2.2.2.2.1; have h2 := HH.out.2.2.2.2.2.1; omega
   have HLR := Lib.hid (And.intro (HH.out.1.on HF.out HH.out.2.2.2.1) (And.intro (HH.out.2.1.on HF.out) (Nat.le_trans HH.out.2.2.2.1 HF.out.size)))
   have c0 : wr.cell? ⟨r, 0, none⟩ = some (.int .u64 B) := HLR.out.2.1.cell 0
   have c1 : wr.cell? ⟨r, 1, none⟩ = some (.slice D L cd) := HLR.out.2.1.cell 1
   by_cases hlt : k < L
   · have hki : (k : Int) < (L : Int) := by omega
     have hkP : k < P.length := by have := HH.out.2.2.2.2.1; omega
     have hkR : k < R.length := by rw [← HH.out.1.len]; exact hkP
     obtain ⟨p, hp⟩ : ∃ p, p = B + k := ⟨_, rfl⟩
     obtain ⟨m, hm⟩ : ∃ m, m = B + (k + 1) := ⟨_, rfl⟩
     have f1 : IntKind.u64.wrap ((B : Int) + (k : Int)) = (p : Int) := by have := HH.out.2.2.2.2.2.2; rw [IntKind.wrap_u64]; omega
     have f2 : IntKind.u64.wrap ((p : Int) + 1) = (m : Int) := by have := HH.out.2.2.2.2.2.2; rw [IntKind.wrap_u64]; omega
     have f3 : IntKind.u64.wrap (k : Int) = (k : Int) := by rw [IntKind.wrap_u64]; omega
     have HA := Lib.hid (at_ok n0 g B k m P wr HLR.out.1.p HLR.out.2.2 (Nat.le_trans HH.out.2.2.2.2.2.1 (by decide)) (by have := HH.out.2.2.2.2.2.2; omega) hm hkP)
     have hmm := means_at HH.out.1.m hkP
     have hgd := HH.out.1.p.good _ (means_mem hkP)
     have hyo := HH.out.1.q.at_ _ (mem_getD hkR)
     obtain ⟨b, off, hDD, hbl, hra⟩ := rq_range (n0 := n0) (HLR.out.1.q.st |> fun ⟨_, _, _, hk2, _, _, _, hr⟩ => (by
       have h1 := blk_eq HLR.out.2.1 hk2
       injection h1 with h1
       injection h1 with _ h1
       injection h1 with h1 _
       injection h1 with h1 _ _
       rw [h1]
       exact hr : RdS n0 wr D R)) hkR
     have HM := Lib.hid (And.intro hmm (And.intro hgd hyo))
     have hxx : ∃ xx, xx = P.getD k default := ⟨_, rfl⟩
     obtain ⟨xx, hxx⟩ := hxx
     rw [← hxx] at HA HM
     clear hxx hmm hgd hyo hm hp hkP
     generalize R.getD k default = y at hra HM
     obtain ⟨yc, yn, yo, yA, yla, yca, yP, ylp, ycp, yC, ylc, ycc⟩ := y
     subst hDD
     have HRA := Lib.hid hra
     clear hra hbl hkR
     go_upto_region 7 with (first
       | (go_at_call 15; (with_reducible refine HA.out.mono ?_); clear HA; rintro e w3 ⟨⟨xc, xn, xo, xA, xla, xca, xP, xlp, xcp, xC, xlc, xcc⟩, hxm, rfl, hxo, hb3⟩; dsimp only; have H3 := Lib.hid (And.intro hxm (And.intro hxo hb3)); clear hxm hxo hb3 c0 c1)
       | (refine wpList_store_rowTo rfl 42 _ _ rfl rfl w3.heap.size (rqCs xc xn xo (.slice xA xla xca) (.slice xP xlp xcp) (.slice xC xlc xcc)) rfl rfl 42 zQ (Blk.new w3 42 zQ) (by kernel_rfl) rfl (by kernel_rfl) ?_))
     have h9 := (Blk.new w3 42 zQ).row (rqCs xc xn xo (.slice xA xla xca) (.slice xP xlp xcp) (.slice xC xlc xcc))
     have h8 := below_setRow ((Below.refl w3.heap.size w3).alloc (Nat.le_refl _) (.cells zQ 42)) (Nat.le_refl _) (rqCs xc xn xo (.slice xA xla xca) (.slice xP xlp xcp) (.slice xC xlc xcc))
     have h7 := H3.out.2.2.trans (h8.mono H3.out.2.2.size)
     have H4 := Lib.hid (And.intro (HLR.out.1.on h7 HLR.out.2.2) (And.intro (H3.out.2.1.on h8) (And.intro (Nat.le_trans HLR.out.2.2 h7.size) (HF.out.trans (h7.mono HF.out.size)))))
     have hkd4 := HLR.out.2.1.on h7
     have hra4 : ((w3.alloc (.cells zQ 42)).setRow w3.heap.size (rqCs xc xn xo (.slice xA xla xca) (.slice xP xlp xcp) (.slice xC xlc xcc))).rangeAt b (off + k * 9) [.int .u64 yc, .int .u64 yn, .int .i64 yo.k, .string (sx yo.name), .string (sx yo.dst), .slice yA yla yca, .slice yP ylp ycp, .slice yC ylc ycc, .int .i64 yo.n] := fun q v hv => by
       have h := HRA.out q v hv
       rw [h7.cell (p := ⟨b, off + k * 9 + q, none⟩) (World.block_lt_of_cell? wr _ h)]
       exact h
     clear h7 h8
     generalize (w3.alloc (.cells zQ 42)).setRow w3.heap.size (rqCs xc xn xo (.slice xA xla xca) (.slice xP xlp xcp) (.slice xC xlc xcc)) = W5 at h9 H4 hkd4 hra4 ⊢
     obtain ⟨a0, a1, a2, a3, a4, a5, a6, a7, a8⟩ := rq_cells h9
     obtain ⟨b0, b1, b2, b3, b4, b5, b6, b7, b8⟩ := range_cells hra4
     have c1 : W5.cell? ⟨r, 1, none⟩ = some (.slice (some ⟨b, off, none⟩) L cd) := hkd4.cell 1
     have HE : Hid (xc = yc ∧ xn = yn ∧ xo = yo) := Lib.hid (by
       have h1 := H3.out.1.trans HM.out.1
       unfold Rq.m at h1
       dsimp only at h1
       injection h1 with e1 e2 e3
       exact ⟨e1, e2, e3⟩)
     have hgx : (⟨xc, xn, xo⟩ : Mq).Good := by have h := HM.out.2.1; rw [← H3.out.1] at h; exact h
     have cS : ∀ d os, _ := fun d os => Calls.regrown_of (show Calls Try.prog 33 #[rqVal xc xn xo (.slice xA xla xca) (.slice xP xlp xcp) (.slice xC xlc xcc), rqVal yc yn yo (.slice yA yla yca) (.slice yP ylp ycp) (.slice yC ylc ycc)] (grow (redrawn W5 d) os) fun e w' => e = .returned (.bool true) ∧ Below (grow (redrawn W5 d) os).heap.size (grow (redrawn W5 d) os) w' from by
       have hb := below_regrown W5 d os
       have h1 := sameRqR_any xc xn yc yn xo yo _ _ _ _ _ _ (grow (redrawn W5 d) os) (H4.out.2.1.on hb).at (HM.out.2.2.on ((HH.out.2.2.1 ▸ H4.out.1.bel).trans (hb.mono (HH.out.2.2.1 ▸ H4.out.2.2.1)))) hgx.ok.lim (HE.out.2.2 ▸ hgx.ok.lim)
       have h2 : sameRq xc xn xo yc yn yo = true := by
         unfold sameRq
         rw [HE.out.1, HE.out.2.1, HE.out.2.2, sameO_refl]
         simp
       rw [h2] at h1
       exact h1)
     have r0 := cell_regrown a0
     have r1 := cell_regrown a1
     have r2 := cell_regrown a2
     have r3 := cell_regrown a3
     have r4 := cell_regrown a4
     have r5 := cell_regrown a5
     have r6 := cell_regrown a6
     have r7 := cell_regrown a7
     have r8 := cell_regrown a8
     have s0 := cell_regrown b0
     have s1 := cell_regrown b1
     have s2 := cell_regrown b2
     have s3 := cell_regrown b3
     have s4 := cell_regrown b4
     have s5 := cell_regrown b5
     have s6 := cell_regrown b6
     have s7 := cell_regrown b7
     have s8 := cell_regrown b8
     have t1 := cell_regrown c1
     clear a0 a1 a2 a3 a4 a5 a6 a7 a8 b0 b1 b2 b3 b4 b5 b6 b7 b8 c1 h9 hkd4 hra4 hgx f1 f2 f3
     refine wp_region_quiet_below (by kernel_rfl) (by kernel_rfl) ?_
     repeat
       with_reducible refine wpQuiet_step (fun K hK => ?_)
       go_simp
       first
         | (with_reducible refine hK _ ?_; clear hK K)
         | (rw [if_neg (by first | decide | (intro h; cases h))]; with_reducible refine hK _ ?_; clear hK K)
         | (apply Exists.intro; refine ⟨fun _ => ?_, hK _ ?_⟩; (exact cS _ _); clear hK K)
     with_reducible refine wpQuiet_nil ?_
     rintro _ ⟨⟨dq, osq⟩, rfl⟩
     have H6 := Lib.hid (H4.out.2.2.2.trans ((below_regrown W5 dq osq).mono H4.out.2.2.2.size))
     clear r0 r1 r2 r3 r4 r5 r6 r7 r8 s0 s1 s2 s3 s4 s5 s6 s7 s8 t1 cS
     generalize grow (redrawn W5 dq) osq = w6 at H6 ⊢
     go_wp2
     go_roundw
     case rel => exact ⟨k + 1, by go_num, by omega, H6⟩
     case measure => simp [intOf]; omega
   · have hki : ¬ (k : Int) < (L : Int) := by omega
     go_wp2
     go_ret
     exact ⟨rfl, HF.out⟩
end Go.Proofs.Ytniaijgejljjbaa.Tlv
namespace Go.Proofs.Ytniaijgejljjbaa.Tlv
open Go.RowKit
set_option maxRecDepth 100000
set_option linter.unusedVariables false
set_option linter.unusedSimpArgs false
def oA : Opn := ⟨6, [97], [], [], [], [], 0⟩
theorem oA_at (w : World) : OpAt w oA (.slice none 0 0) (.slice none 0 0) (.slice none 0 0) := ⟨Ytniaijgejljjbaa.RdV.nil w, RdP.nil w, RdC.nil w⟩
theorem oA_lim : Lim oA := ⟨by decide, by decide, (fun x h => by cases h), by decide, by decide, (fun x h => by cases h), by decide, (fun x h => by cases h)⟩
theorem oA_may : mayO oA = true := by decide +kernel
theorem oA_good (k : Int) (h0 : 0 ≤ k) (hk : k ≤ 10) : (⟨1, k, oA⟩ : Mq).Good := ⟨⟨⟨by show (0 : Int) ≤ 1; decide, by show (1 : Int) < _; decide⟩, ⟨h0, by show k < _; omega⟩, oA_lim, by show oA.cur.length ≤ _; decide⟩, oA_may⟩
abbrev kq (k : Int) : Rq := ⟨1, k, oA, none, 0, 0, none, 0, 0, none, 0, 0⟩
abbrev kqCs (k : Int) : Array Value := #[.int .u64 1, .int .u64 k, .int .i64 6, .string ⟨#[97]⟩, .string ⟨#[]⟩, .slice none 0 0, .slice none 0 0, .slice none 0 0, .int .i64 0]
abbrev kq12 : Array Value := #[.int .u64 1, .int .u64 1, .int .i64 6, .string ⟨#[97]⟩, .string ⟨#[]⟩, .slice none 0 0, .slice none 0 0, .slice none 0 0, .int .i64 0, .int .u64 1, .int .u64 2, .int .i64 6, .string ⟨#[97]⟩, .string ⟨#[]⟩, .slice none 0 0, .slice none 0 0, .slice none 0 0, .int .i64 0]
theorem known1 (k : Int) (w : World) : Calls Try.prog 25 #[.int .u64 k] w fun e w' => e = .returned (.agg (kqCs k)) ∧ Below w.heap.size w w' := by
 have HZ := Lib.hid (And.intro ((Below.refl w.heap.size w).alloc (Nat.le_refl _) (.cells zQ 42)) (Blk.new w 42 zQ))
 go_enter Try.func25, Try.ntmps25
 go_wp2_with (first
   | (refine wpList_buildTo rfl 42 _ rfl (some 5) rfl (kqCs k) (by kernel_rfl) ?_)
   | (refine wpList_store_rowTo rfl 42 _ _ rfl rfl w.heap.size (kqCs k) rfl rfl 42 zQ HZ.out.2 (by kernel_rfl) rfl (by kernel_rfl) ?_))
 have h9 := HZ.out.2.row (kqCs k)
 have h8 := below_setRow HZ.out.1 (Nat.le_refl _) (kqCs k)
 have t0 := h9.cell 0
 have t1 := h9.cell 1
 have t2 := h9.cell 2
 have t3 := h9.cell 3
 have t4 := h9.cell 4
 have t5 := h9.cell 5
 have t6 := h9.cell 6
 have t7 := h9.cell 7
 have t8 := h9.cell 8
 have HF := Lib.hid h8
 clear h8 h9
 generalize (w.alloc (.cells zQ 42)).setRow w.heap.size (kqCs k) = w5 at t0 t1 t2 t3 t4 t5 t6 t7 t8 HF ⊢
 refine bodyPost_ret (v := .agg (kqCs k)) ?_ rfl ⟨rfl, HF.out⟩
 simp at t0 t1 t2 t3 t4 t5 t6 t7 t8
 simp [results, Try.f25, go_sem, t0, t1, t2, t3, t4, t5, t6, t7, t8]
theorem kq_cs (k : Int) : rqL (kq k) = (kqCs k).toList := rfl
theorem kq_val (k : Int) : rqVal 1 k oA (.slice none 0 0) (.slice none 0 0) (.slice none 0 0) = .agg (kqCs k) := rfl
theorem two_rd (n0 : Nat) {W : World} {b : Nat} (h : Blk W b 42 kq12) : RdS n0 W (some ⟨b, 0, none⟩) [kq 1, kq 2] := fun _ => ⟨b, 0, rfl, h.lt, .inr ⟨_, h⟩, fun j hj i u hu => by
 have hi : i < 9 := (List.getElem?_eq_some_iff.1 hu).1
 rw [h.cell]
 match j, hj with
 | 0, _ =>
   rw [← hu]
   rcases i with _ | _ | _ | _ | _ | _ | _ | _ | _ | i <;> first | rfl | omega
 | 1, _ =>
   rw [← hu]
   rcases i with _ | _ | _ | _ | _ | _ | _ | _ | _ | i <;> first | rfl | omega⟩
theorem two_sum : sumM (means [kq 1, kq 2]) ≤ 2097152 := by
 have h : ∀ m ∈ means [kq 1, kq 2], m.Good := fun m hm => by
   simp only [means, List.map_cons, List.map_nil, List.mem_cons, List.not_mem_nil, or_false] at hm
   rcases hm with rfl | rfl
   · exact oA_good 1 (by decide) (by decide)
   · exact oA_good 2 (by decide) (by decide)
 have := sumM_few h
 simp [means] at this
 simp [means]
 omega
theorem kMap {x : Rq} {m : Mq} (h : x.m = m) : x.n = m.n := by rw [← h]; rfl
def KnOut (w : World) (e : Ending) (w' : World) : Prop := ∃ g P, e = .returned (.tuple #[.pointer (some ⟨g, 0, none⟩), .int .i64 0]) ∧ means P = means [kq 1, kq 2] ∧ LogP w.heap.size w' g 5 P ∧ Below w.heap.size w w'
theorem kn_of (W : World) (w : World) (b c : Nat) (h : Blk W b 42 kq12) (hb : Below w.heap.size w W) : Calls Try.prog 8 #[.int .u64 5, .slice (some ⟨b, 0, none⟩) 2 c] W fun e w' => ∃ g P, e = .returned (.tuple #[.pointer (some ⟨g, 0, none⟩), .int .i64 0]) ∧ means P = means [kq 1, kq 2] ∧ LogP w.heap.size w' g 5 P ∧ Below W.heap.size W w' := by
 have hg : ∀ m ∈ means [kq 1, kq 2], m.Good := fun m hm => by
   simp only [means, List.map_cons, List.map_nil, List.mem_cons, List.not_mem_nil, or_false] at hm
   rcases hm with rfl | rfl
   · exact oA_good 1 (by decide) (by decide)
   · exact oA_good 2 (by decide) (by decide)
 refine (of_any w.heap.size 5 2 c [kq 1, kq 2] _ w W rfl hb rfl (two_rd _ h) (fun x hx => ?_) (fun m hm => (hg m hm).ok) (by decide) (by decide)).mono fun e w' ho => ?_
 · simp only [List.mem_cons, List.not_mem_nil, or_false] at hx
   rcases hx with rfl | rfl <;> exact oA_at w
 · obtain ⟨hbb, ho⟩ := ho
   rcases ho with ⟨⟨m, hm, hm2⟩, _⟩ | ⟨_, h5, _⟩ | ⟨_, _, h2, _⟩ | ⟨_, _, _, g, P, he, hmP, hl⟩
   · rw [(hg m hm).may] at hm2; cases hm2
   · omega
   · exact absurd h2 (by have := two_sum; omega)
   · exact ⟨g, P, he, hmP, hl, hbb⟩
set_option maxHeartbeats 16000000 in
theorem known_any (w : World) : Calls Try.prog 7 #[] w fun e w' => e = .returned (.bool true) ∧ Below w.heap.size w w' := by
 have H1 := Lib.hid (known1 1 w)
 go_enter Try.func7, Try.ntmps7
 go_upto_region 3 with (first
   | (go_at_call 25; (with_reducible refine (known1 1 _).mono ?_); rintro e w1 ⟨rfl, hb1⟩; dsimp only; have HA1 := Lib.hid hb1; clear hb1 H1)
   | (go_at_call 25; (with_reducible refine (known1 2 _).mono ?_); rintro e w2 ⟨rfl, hb2⟩; dsimp only; have HA2 := Lib.hid (HA1.out.trans (hb2.mono HA1.out.size)); clear hb2; have HOF := Lib.hid (kn_of (w2.alloc (.cells kq12 42)) w w2.heap.size 2 (Blk.new w2 42 _) (HA2.out.alloc HA2.out.size _)))
   | (go_at_call 8; (with_reducible refine HOF.out.mono ?_); clear HOF; rintro e w3 ⟨g, P, rfl, hmP, hlP, hb3⟩; dsimp only; have HA3 := Lib.hid (And.intro hmP (And.intro hlP ((HA2.out.alloc HA2.out.size _).trans (hb3.mono (HA2.out.alloc HA2.out.size _).size)))); clear hmP hlP hb3))
 have hPl : P.length = 2 := by rw [← means_len, HA3.out.1]; rfl
 have HPL := Lib.hid hPl
 clear hPl
 have hsum : sumM (means P) + Mq.sz ⟨1, 3, oA⟩ ≤ 2097152 := by
   have h1 := (oA_good 3 (by decide) (by decide)).few
   have h2 : sumM (means P) ≤ 300000 * 2 := by have := sumM_few HA3.out.2.1.good; rw [means_len, HPL.out] at this; exact this
   omega
 have HS := Lib.hid hsum
 clear hsum
 go_upto_region 4 with (first
   | (go_at_call 25; (with_reducible refine (known1 3 _).mono ?_); rintro e w4 ⟨rfl, hb4⟩; dsimp only; have HA4 := Lib.hid hb4; have HAP : Hid (Calls Try.prog 13 #[.pointer (some ⟨g, 0, none⟩), .agg (kqCs 3)] w4 fun e w' => ∃ x : Rq, x.m = ⟨1, 3, oA⟩ ∧ e = .returned (.tuple #[.int .u64 8, .int .i64 0]) ∧ LogP w.heap.size w' g 5 (P ++ [x]) ∧ FrT w.heap.size TP w4 w') := Lib.hid (append_ok w.heap.size g 5 8 P 1 3 oA _ _ _ w4 (HA3.out.2.1.on hb4 HA3.out.2.2.size) (Nat.le_trans HA3.out.2.2.size hb4.size) (oA_good 3 (by decide) (by decide)) (oA_at w4) (by rw [HPL.out]; decide) (by decide) (by rw [HPL.out]) HS.out); clear hb4)
   | (go_at_call 13; (with_reducible refine HAP.out.mono ?_); clear HAP; rintro e w5 ⟨x, hxm, rfl, hlp, hfr⟩; dsimp only; have HA5 := Lib.hid (And.intro hxm (And.intro hlp hfr)); clear hxm hlp hfr))
 have hl3 : (P ++ [x]).length = 3 := by rw [List.length_append, HPL.out]; rfl
 have hn5 : w.heap.size ≤ w5.heap.size := Nat.le_trans HA3.out.2.2.size (Nat.le_trans HA4.out.size HA5.out.2.2.bel.size)
 have HD : Hid (Calls Try.prog 18 #[.pointer (some ⟨g, 0, none⟩), .int .u64 6] w5 fun e w' => e = .returned (.int .i64 0) ∧ LogP w.heap.size w' g 6 ((P ++ [x]).drop 1) ∧ FrT w.heap.size TP w5 w') := Lib.hid (drop_ok w.heap.size g 5 1 6 (P ++ [x]) w5 HA5.out.2.1 hn5 (by rw [hl3]; decide) (by decide) rfl (by rw [hl3]; decide))
 have HN5 := Lib.hid (And.intro hl3 hn5)
 clear hl3 hn5
 go_upto_region 5 with (go_at_call 18; (with_reducible refine HD.out.mono ?_); clear HD; rintro e w6 ⟨rfl, hlp, hfr⟩; dsimp only; have HA6 := Lib.hid (And.intro hlp hfr); clear hlp hfr)
 have hl2 : 0 < ((P ++ [x]).drop 1).length := by rw [List.length_drop, HN5.out.1]; decide
 have hmn : ((((P ++ [x]).drop 1)).getD 0 default).m = (⟨1, 2, oA⟩ : Mq) := by
   have h1 : (means ((P ++ [x]).drop 1))[0]? = some (⟨1, 2, oA⟩ : Mq) := by
     rw [means_drop, means_app, HA3.out.1]
     rfl
   unfold means at h1
   rw [List.getElem?_map, List.getElem?_eq_getElem hl2] at h1
   rw [List.getD_eq_getElem?_getD, List.getElem?_eq_getElem hl2]
   exact Option.some.inj h1
 have HT : Hid (Calls Try.prog 15 #[.pointer (some ⟨g, 0, none⟩), .int .u64 7] w6 (AtOut ⟨1, 2, oA⟩ w6)) := Lib.hid (by
   have h := at_ok w.heap.size g 6 0 7 ((P ++ [x]).drop 1) w6 HA6.out.1 (Nat.le_trans HN5.out.2 HA6.out.2.bel.size) (by rw [List.length_drop, HN5.out.1]; decide) (by decide) rfl hl2
   rw [hmn] at h
   exact h)
 clear hmn hl2
 have HBE := Lib.hid (((HA3.out.2.2.trans (HA4.out.mono HA3.out.2.2.size)).trans HA5.out.2.2.bel).trans HA6.out.2.bel)
 go_upto_region 6 with (first
   | (go_at_call 15; (with_reducible refine HT.out.mono ?_); clear HT; rintro e w7 ⟨⟨xc, xn, xo, xA, xla, xca, xP, xlp, xcp, xC, xlc, xcc⟩, hxm, rfl, _, hb7⟩; dsimp only; have HA7 := Lib.hid (And.intro hxm (HBE.out.trans (hb7.mono HBE.out.size))); clear hxm hb7)
   | (refine wpList_store_rowTo rfl 42 _ _ rfl rfl w7.heap.size (rqCs xc xn xo (.slice xA xla xca) (.slice xP xlp xcp) (.slice xC xlc xcc)) rfl rfl 42 zQ (Blk.new w7 42 zQ) (by kernel_rfl) rfl (by kernel_rfl) ?_))
 have h9 := (Blk.new w7 42 zQ).row (rqCs xc xn xo (.slice xA xla xca) (.slice xP xlp xcp) (.slice xC xlc xcc))
 have h8 := below_setRow (HA7.out.2.alloc HA7.out.2.size (.cells zQ 42)) HA7.out.2.size (rqCs xc xn xo (.slice xA xla xca) (.slice xP xlp xcp) (.slice xC xlc xcc))
 obtain rfl : xn = 2 := by have h := kMap HA7.out.1; exact h
 have a1 := h9.cell 1
 simp only [List.getElem?_toArray, List.getElem?_cons_zero, List.getElem?_cons_succ] at a1
 have H9 := Lib.hid h8
 clear h8 h9
 generalize (w7.alloc (.cells zQ 42)).setRow w7.heap.size (rqCs xc 2 xo (.slice xA xla xca) (.slice xP xlp xcp) (.slice xC xlc xcc)) = w8 at a1 H9 ⊢
 go_wp2
 go_ret
 exact ⟨rfl, H9.out⟩
end Go.Proofs.Ytniaijgejljjbaa.Tlv
