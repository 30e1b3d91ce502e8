/- The law: what is noted rises; a copy goes on apart. -/
import Derived.Test.YtidkpdoiblomjaaZ52
import Derived.Test.YtidkpdoiblomjaaZ50
namespace Go.Proofs.Ytidkpdoiblomjaa.Tlv
open Go.RowKit Go.Maps
set_option maxRecDepth 100000
set_option linter.unusedVariables false
set_option linter.unusedSimpArgs false
set_option maxHeartbeats 64000000 in
theorem lawRise (v0 v1 v2 : Value) (L0 L1 L2 : List Td) (rs0 rs1 rs2 : List Res) (w : World) (h0 : ActsAt w v0 L0 rs0) (h1 : ActsAt w v1 L1 rs1) (h2 : ActsAt w v2 L2 rs2) : Calls Try.prog 4 #[v0, v1, v2] w (LawGoal w) := by
 have HF0 := Lib.hid (few_any v0 L0 rs0 25 w h0)
 have HF1 := Lib.hid (few_any v1 L1 rs1 25 w h1)
 have HF2 := Lib.hid (few_any v2 L2 rs2 25 w h2)
 have HK := Lib.hid (known_c w)
 have H := Lib.hid (And.intro h0 (And.intro h1 h2))
 obtain ⟨A1, c1, rfl, hc1, hr1, hl1, ha1⟩ := h1
 obtain ⟨A2, c2, rfl, hc2, hr2, hl2, ha2⟩ := h2
 obtain ⟨A0, c0, rfl, hc0, hr0, hl0, ha0⟩ := h0
 obtain ⟨n0, hn0⟩ : ∃ n, n = L0.length := ⟨_, rfl⟩
 obtain ⟨n1, hn1⟩ : ∃ n, n = L1.length := ⟨_, rfl⟩
 obtain ⟨n2, hn2⟩ : ∃ n, n = L2.length := ⟨_, rfl⟩
 have hm1 : n1 ≤ 9223372036854775807 := by have := hc1.2; unfold maxLen at this; omega
 have hm2 : n2 ≤ 9223372036854775807 := by have := hc2.2; unfold maxLen at this; omega
 rw [← hn0] at HF0 H ⊢
 rw [← hn1] at HF1 H ⊢
 rw [← hn2] at HF2 H ⊢
 have HR := Lib.hid (And.intro hr0 (And.intro hr1 hr2))
 have HA := Lib.hid (And.intro ha0 (And.intro ha1 ha2))
 have HN := Lib.hid (And.intro hn0 (And.intro hn1 hn2))
 have HE := Lib.hid (And.intro hl0 (And.intro hl1 hl2))
 have HC := Lib.hid (And.intro hc0.1 (And.intro hc1.1 hc2.1))
 clear hr0 hr1 hr2 ha0 ha1 ha2 hn0 hn1 hn2 hl0 hl1 hl2 hc0 hc1 hc2
 go_enter Try.func4, Try.ntmps4
 go_upto_region 1 with fail
 go_wp2_with (first
   | (go_at_call 5; (with_reducible refine HF0.out.mono ?_); rintro e w1 ⟨⟨b0, rfl, hb0⟩, rfl⟩; dsimp only; have HB0 := Lib.hid hb0; clear hb0 HF0; cases b0)
   | (go_at_call 5; (with_reducible refine HF1.out.mono ?_); rintro e w1 ⟨⟨b1, rfl, hb1⟩, rfl⟩; dsimp only; have HB1 := Lib.hid hb1; clear hb1 HF1; cases b1)
   | (go_at_call 5; (with_reducible refine HF2.out.mono ?_); rintro e w1 ⟨⟨b2, rfl, hb2⟩, rfl⟩; dsimp only; have HB2 := Lib.hid hb2; clear hb2 HF2; cases b2)
   | (go_at_call 6; (with_reducible refine HK.out.mono ?_); rintro e w1 ⟨rfl, hbk⟩; dsimp only))
 rotate_right
 · have hg0 := few_good (b := true) H.out.1 (fun _ => HB0.out trivial) rfl
   have hg1 := few_good (b := true) H.out.2.1 (fun _ => HB1.out trivial) rfl
   have hg2 := few_good (b := true) H.out.2.2 (fun _ => HB2.out trivial) rfl
   have HG := Lib.hid (And.intro hg0 (And.intro hg1 hg2))
   have HBG := Lib.hid (begin_any _ L0 rs0 w H.out.1 (by have := hg0.1; omega) hg0.2)
   clear hg0 hg1 hg2 HB0 HB1 HB2 HK
   obtain ⟨s0, hs0⟩ : ∃ s, s = foldP s0P (actsP L0 rs0) := ⟨_, rfl⟩
   rw [← hs0] at HBG
   have HS0 := Lib.hid hs0
   clear hs0
   go_upto_region 6 with (go_at_call 7; (with_reducible refine HBG.out.mono ?_); rintro e w1 ⟨g, m, rb, rfl, ht, hm, hgm, hb1⟩; dsimp only; have H1 := Lib.hid (And.intro ht (And.intro hm (And.intro hgm hb1))); clear ht hm hgm hb1 HBG)
   go_upto_region 7 with (go_at_call 9; (with_reducible refine (copy_tab g m 0 s0.2 s0.1 w1 H1.out.1).mono ?_); rintro e w2 ⟨rfl, ht, hsz, hb2⟩; dsimp only; have H2 := Lib.hid (And.intro (H1.out.1.on hb2) (And.intro ht (And.intro (H1.out.2.2.2.trans (hb2.mono H1.out.2.2.2.size)) (And.intro (show m ≠ w1.heap.size by have := H1.out.1.rep.lt; omega) (And.intro H1.out.2.1 (show w.heap.size ≤ w1.heap.size from H1.out.2.2.2.size)))))); clear ht hsz hb2)
   obtain ⟨mo, hmo⟩ : ∃ b, b = w1.heap.size := ⟨_, rfl⟩
   rw [← hmo] at H2 ⊢
   clear hmo
   have HT := Lib.hid (show Two w w2 g m (mo + 1) mo s0 s0 from ⟨H2.out.1, H2.out.2.1, H2.out.2.2.1⟩)
   clear H1
   go_upto_region 8 with fail
   go_loopw [11] (fun s11 wr => ∃ k : Nat, s11 = .int .i64 k ∧ k ≤ n1 ∧ Hid (Two w wr g m (mo + 1) mo (foldP s0 ((actsP L1 rs1).take k)) s0)) (fun s11 _ => n1 - (intOf s11).toNat)
   case atStart => exact ⟨0, rfl, Nat.zero_le _, Lib.hid HT.out⟩
   case round =>
     obtain ⟨k, rfl, hk, HF⟩ := hrel
     by_cases hlt : k < n1
     · have hkL : k < L1.length := by have := HN.out.2.1; omega
       have hki : (k : Int) < (n1 : Int) := by omega
       have HTS := Lib.hid (foldP_step s0 HE.out.2.1 hkL)
       have HCELL := Lib.hid (acts_cells HR.out.2.1 hkL)
       obtain ⟨b, off, rfl, _, d0, d1, d2, d3, d4, d5⟩ := HCELL.out _ HF.out.bel
       have hact := HA.out.2.1 k hkL
       have HG1 := Lib.hid (HG.out.2.1.2 k hkL)
       unfold CellsAt at HCELL
       generalize L1.getD k default = x at d0 d1 d2 d3 d4 d5 hact HTS HCELL
       obtain ⟨xc, xn, xk, xy, xA, xl, xa, xB, xl2, xa2⟩ := x
       generalize rs1.getD k default = r at hact HTS HG1
       generalize foldP s0 ((actsP L1 rs1).take k) = s at HF HTS
       obtain ⟨T, N⟩ := s
       obtain ⟨hk1, hy1, hc1, hn1, hat1, _⟩ := hact
       dsimp only at d0 d1 d2 d3 d4 d5 HTS HF hk1 hy1 hc1 hn1 hat1 HCELL
       subst hk1 hy1
       have HAT := Lib.hid (And.intro hc1 (And.intro hn1 (fun (W : World) (hb : Below w.heap.size w W) => hat1.on hb)))
       clear hc1 hn1 hat1 hkL
       obtain ⟨pc, hpc⟩ : ∃ pc, putC T N xc xn r = pc := ⟨_, rfl⟩
       have HPC := Lib.hid hpc
       obtain ⟨wa, hwa⟩ : ∃ wa, lateN T xc = wa := ⟨_, rfl⟩
       have hf0 := rise_facts T N xc xn r
       rw [hpc, hwa] at hf0
       clear hpc
       rcases hf0 with hf | hf
       · obtain rfl := hf.1
         cases his : (T xc).isSome with
         | false =>
           have HL1 := Lib.hid (latest_is g m 0 N T xc wr HF.out.a HAT.out.1 false wa his hwa)
           have HL2 := Lib.hid (fun (W : World) (h : Tab W 0 g m (putT T N xc xn r) (putN T N xc xn r)) => latest_is g m 0 _ _ xc W h HAT.out.1 true xn hf.2.1 hf.2.2.1)
           clear his hwa
           go_upto_region 11 with (go_at_call 10; (with_reducible refine HL1.out.mono ?_); rintro e w2 ⟨rfl, hb2⟩; dsimp only; have H3 := Lib.hid (HF.out.on hb2); clear hb2 d0 d1 d2 d3 d4 d5)
           obtain ⟨_, _, e0, _, d0, d1, d2, d3, d4, d5⟩ := HCELL.out _ H3.out.bel
           cases e0
           have HP := Lib.hid (putTab_any g m 0 N T xc xn r _ _ w2.drew (H3.out.a.on (below_drewK (Below.refl _ _))) HAT.out.1 HAT.out.2.1 (HAT.out.2.2 _ (below_drewK H3.out.bel)) HG1.out (Nat.zero_le _))
           go_region_law (first
             | (go_simp; (with_reducible refine HP.out.mono ?_); rintro e w3 ⟨rfl, ht3, hg3⟩; rw [HPC.out]; dsimp only; have H4 := Lib.hid (And.intro ht3 (below_grown (below_drewK (Below.refl _ _)) hg3)); clear ht3 hg3 HP d0 d1 d2 d3 d4 d5))
           all_goals
             have hmm := H3.out.a.rep.map
             have H5 := Lib.hid (show Two w w3 g m (mo + 1) mo (putT T N xc xn r, putN T N xc xn r) s0 from ⟨H4.out.1, H3.out.b.beside H4.out.2 hmm (fun e => H2.out.2.2.2.1 e.symm), H3.out.bel.grown H4.out.2 H3.out.bel.size (fun k e => by cases e; exact H2.out.2.2.2.2.1)⟩)
             clear hmm
             obtain ⟨_, _, e0, _, d0, d1, d2, d3, d4, d5⟩ := HCELL.out _ H5.out.bel
             cases e0
             go_wp2_with (go_at_call 10; (with_reducible refine (HL2.out _ H5.out.a).mono ?_); rintro e w6 ⟨rfl, hb6⟩; dsimp only; have H6 := Lib.hid (H5.out.on hb6); clear hb6 d0 d1 d2 d3 d4 d5)
             go_roundw
             case rel => exact ⟨k + 1, by go_num, by omega, Lib.hid (by rw [HTS.out]; exact H6.out)⟩
             case measure => simp [intOf]; omega
         | true =>
           have hw1 : ¬ xn < wa := by have := hf.2.2.2 his; omega
           have hw2 : ¬ xn ≤ wa := by have := hf.2.2.2 his; omega
           have HL1 := Lib.hid (latest_is g m 0 N T xc wr HF.out.a HAT.out.1 true wa his hwa)
           have HL2 := Lib.hid (fun (W : World) (h : Tab W 0 g m (putT T N xc xn r) (putN T N xc xn r)) => latest_is g m 0 _ _ xc W h HAT.out.1 true xn hf.2.1 hf.2.2.1)
           clear his hwa
           go_upto_region 11 with (go_at_call 10; (with_reducible refine HL1.out.mono ?_); rintro e w2 ⟨rfl, hb2⟩; dsimp only; have H3 := Lib.hid (HF.out.on hb2); clear hb2 d0 d1 d2 d3 d4 d5)
           obtain ⟨_, _, e0, _, d0, d1, d2, d3, d4, d5⟩ := HCELL.out _ H3.out.bel
           cases e0
           have HP := Lib.hid (putTab_any g m 0 N T xc xn r _ _ w2.drew (H3.out.a.on (below_drewK (Below.refl _ _))) HAT.out.1 HAT.out.2.1 (HAT.out.2.2 _ (below_drewK H3.out.bel)) HG1.out (Nat.zero_le _))
           go_region_law (first
             | (go_simp; (with_reducible refine HP.out.mono ?_); rintro e w3 ⟨rfl, ht3, hg3⟩; rw [HPC.out]; dsimp only; have H4 := Lib.hid (And.intro ht3 (below_grown (below_drewK (Below.refl _ _)) hg3)); clear ht3 hg3 HP d0 d1 d2 d3 d4 d5))
           all_goals
             have hmm := H3.out.a.rep.map
             have H5 := Lib.hid (show Two w w3 g m (mo + 1) mo (putT T N xc xn r, putN T N xc xn r) s0 from ⟨H4.out.1, H3.out.b.beside H4.out.2 hmm (fun e => H2.out.2.2.2.1 e.symm), H3.out.bel.grown H4.out.2 H3.out.bel.size (fun k e => by cases e; exact H2.out.2.2.2.2.1)⟩)
             clear hmm
             obtain ⟨_, _, e0, _, d0, d1, d2, d3, d4, d5⟩ := HCELL.out _ H5.out.bel
             cases e0
             go_wp2_with (go_at_call 10; (with_reducible refine (HL2.out _ H5.out.a).mono ?_); rintro e w6 ⟨rfl, hb6⟩; dsimp only; have H6 := Lib.hid (H5.out.on hb6); clear hb6 d0 d1 d2 d3 d4 d5)
             go_roundw
             case rel => exact ⟨k + 1, by go_num, by omega, Lib.hid (by rw [HTS.out]; exact H6.out)⟩
             case measure => simp [intOf]; omega
       · have hp1 : ¬ pc = 0 := hf.1
         have hp2 : (pc != 0) = true := by simpa using hp1
         cases his : (T xc).isSome with
         | false =>
           have HL1 := Lib.hid (latest_is g m 0 N T xc wr HF.out.a HAT.out.1 false wa his hwa)
           have HL2 := Lib.hid (fun (W : World) (h : Tab W 0 g m (putT T N xc xn r) (putN T N xc xn r)) => latest_is g m 0 _ _ xc W h HAT.out.1 false wa (by rw [hf.2]; exact his) (by rw [hf.2]; exact hwa))
           clear his hwa
           go_upto_region 11 with (go_at_call 10; (with_reducible refine HL1.out.mono ?_); rintro e w2 ⟨rfl, hb2⟩; dsimp only; have H3 := Lib.hid (HF.out.on hb2); clear hb2 d0 d1 d2 d3 d4 d5)
           obtain ⟨_, _, e0, _, d0, d1, d2, d3, d4, d5⟩ := HCELL.out _ H3.out.bel
           cases e0
           have HP := Lib.hid (putTab_any g m 0 N T xc xn r _ _ w2.drew (H3.out.a.on (below_drewK (Below.refl _ _))) HAT.out.1 HAT.out.2.1 (HAT.out.2.2 _ (below_drewK H3.out.bel)) HG1.out (Nat.zero_le _))
           go_region_law (first
             | (go_simp; (with_reducible refine HP.out.mono ?_); rintro e w3 ⟨rfl, ht3, hg3⟩; rw [HPC.out]; dsimp only; have H4 := Lib.hid (And.intro ht3 (below_grown (below_drewK (Below.refl _ _)) hg3)); clear ht3 hg3 HP d0 d1 d2 d3 d4 d5))
           all_goals
             have hmm := H3.out.a.rep.map
             have H5 := Lib.hid (show Two w w3 g m (mo + 1) mo (putT T N xc xn r, putN T N xc xn r) s0 from ⟨H4.out.1, H3.out.b.beside H4.out.2 hmm (fun e => H2.out.2.2.2.1 e.symm), H3.out.bel.grown H4.out.2 H3.out.bel.size (fun k e => by cases e; exact H2.out.2.2.2.2.1)⟩)
             clear hmm
             obtain ⟨_, _, e0, _, d0, d1, d2, d3, d4, d5⟩ := HCELL.out _ H5.out.bel
             cases e0
             go_wp2_with (go_at_call 10; (with_reducible refine (HL2.out _ H5.out.a).mono ?_); rintro e w6 ⟨rfl, hb6⟩; dsimp only; have H6 := Lib.hid (H5.out.on hb6); clear hb6 d0 d1 d2 d3 d4 d5)
             go_roundw
             case rel => exact ⟨k + 1, by go_num, by omega, Lib.hid (by rw [HTS.out]; exact H6.out)⟩
             case measure => simp [intOf]; omega
         | true =>
           have HL1 := Lib.hid (latest_is g m 0 N T xc wr HF.out.a HAT.out.1 true wa his hwa)
           have HL2 := Lib.hid (fun (W : World) (h : Tab W 0 g m (putT T N xc xn r) (putN T N xc xn r)) => latest_is g m 0 _ _ xc W h HAT.out.1 true wa (by rw [hf.2]; exact his) (by rw [hf.2]; exact hwa))
           clear his hwa
           go_upto_region 11 with (go_at_call 10; (with_reducible refine HL1.out.mono ?_); rintro e w2 ⟨rfl, hb2⟩; dsimp only; have H3 := Lib.hid (HF.out.on hb2); clear hb2 d0 d1 d2 d3 d4 d5)
           obtain ⟨_, _, e0, _, d0, d1, d2, d3, d4, d5⟩ := HCELL.out _ H3.out.bel
           cases e0
           have HP := Lib.hid (putTab_any g m 0 N T xc xn r _ _ w2.drew (H3.out.a.on (below_drewK (Below.refl _ _))) HAT.out.1 HAT.out.2.1 (HAT.out.2.2 _ (below_drewK H3.out.bel)) HG1.out (Nat.zero_le _))
           go_region_law (first
             | (go_simp; (with_reducible refine HP.out.mono ?_); rintro e w3 ⟨rfl, ht3, hg3⟩; rw [HPC.out]; dsimp only; have H4 := Lib.hid (And.intro ht3 (below_grown (below_drewK (Below.refl _ _)) hg3)); clear ht3 hg3 HP d0 d1 d2 d3 d4 d5))
           all_goals
             have hmm := H3.out.a.rep.map
             have H5 := Lib.hid (show Two w w3 g m (mo + 1) mo (putT T N xc xn r, putN T N xc xn r) s0 from ⟨H4.out.1, H3.out.b.beside H4.out.2 hmm (fun e => H2.out.2.2.2.1 e.symm), H3.out.bel.grown H4.out.2 H3.out.bel.size (fun k e => by cases e; exact H2.out.2.2.2.2.1)⟩)
             clear hmm
             obtain ⟨_, _, e0, _, d0, d1, d2, d3, d4, d5⟩ := HCELL.out _ H5.out.bel
             cases e0
             go_wp2_with (go_at_call 10; (with_reducible refine (HL2.out _ H5.out.a).mono ?_); rintro e w6 ⟨rfl, hb6⟩; dsimp only; have H6 := Lib.hid (H5.out.on hb6); clear hb6 d0 d1 d2 d3 d4 d5)
             go_roundw
             case rel => exact ⟨k + 1, by go_num, by omega, Lib.hid (by rw [HTS.out]; exact H6.out)⟩
             case measure => simp [intOf]; omega
     · have hkn : n1 = k := by omega
       subst hkn
       have HE1 := Lib.hid (foldP_all s0 HE.out.2.1 HN.out.2.1)
       rw [HE1.out] at HF
       obtain ⟨s1, hs1⟩ : ∃ s, s = foldP s0 (actsP L1 rs1) := ⟨_, rfl⟩
       rw [← hs1] at HF
       have HS1 := Lib.hid hs1
       clear hs1 HE1
       go_upto_region 16 with fail
       go_loopw [17] (fun s17 wq => ∃ k : Nat, s17 = .int .i64 k ∧ k ≤ n2 ∧ Hid (Two w wq g m (mo + 1) mo s1 (foldP s0 ((actsP L2 rs2).take k)))) (fun s17 _ => n2 - (intOf s17).toNat)
       case atStart => exact ⟨0, rfl, Nat.zero_le _, Lib.hid HF.out⟩
       case round =>
         clear HF
         obtain ⟨k, rfl, hk, HF⟩ := hrel
         by_cases hlt : k < n2
         · have hkL : k < L2.length := by have := HN.out.2.2; omega
           have hki : (k : Int) < (n2 : Int) := by omega
           have HTS := Lib.hid (foldP_step s0 HE.out.2.2 hkL)
           have HCELL := Lib.hid (acts_cells HR.out.2.2 hkL)
           obtain ⟨b, off, rfl, _, d0, d1, d2, d3, d4, d5⟩ := HCELL.out _ HF.out.bel
           have hact := HA.out.2.2 k hkL
           have HG1 := Lib.hid (HG.out.2.2.2 k hkL)
           unfold CellsAt at HCELL
           generalize L2.getD k default = x at d0 d1 d2 d3 d4 d5 hact HTS HCELL
           obtain ⟨xc, xn, xk, xy, xA, xl, xa, xB, xl2, xa2⟩ := x
           generalize rs2.getD k default = r at hact HTS HG1
           generalize foldP s0 ((actsP L2 rs2).take k) = s at HF HTS
           obtain ⟨T, N⟩ := s
           obtain ⟨hk1, hy1, hc1, hn1, hat1, _⟩ := hact
           dsimp only at d0 d1 d2 d3 d4 d5 HTS HF hk1 hy1 hc1 hn1 hat1 HCELL
           subst hk1 hy1
           have HAT := Lib.hid (And.intro hc1 (And.intro hn1 (fun (W : World) (hb : Below w.heap.size w W) => hat1.on hb)))
           clear hc1 hn1 hat1 hkL
           go_upto_region 18 with fail
           have HP := Lib.hid (putTab_any (mo + 1) mo 0 N T xc xn r _ _ wr.drew (HF.out.b.on (below_drewK (Below.refl _ _))) HAT.out.1 HAT.out.2.1 (HAT.out.2.2 _ (below_drewK HF.out.bel)) HG1.out (Nat.zero_le _))
           go_region_law (first
             | (go_simp; (with_reducible refine HP.out.mono ?_); rintro e w3 ⟨rfl, ht3, hg3⟩; dsimp only; have H4 := Lib.hid (And.intro ht3 (below_grown (below_drewK (Below.refl _ _)) hg3)); clear ht3 hg3 HP d0 d1 d2 d3 d4 d5))
           all_goals
             have hmm := HF.out.b.rep.map
             have H5 := Lib.hid (show Two w w3 g m (mo + 1) mo s1 (putT T N xc xn r, putN T N xc xn r) from ⟨HF.out.a.beside H4.out.2 hmm H2.out.2.2.2.1, H4.out.1, HF.out.bel.grown H4.out.2 HF.out.bel.size (fun k e => by cases e; exact H2.out.2.2.2.2.2)⟩)
             clear hmm
             go_wp2
             go_roundw
             case rel => exact ⟨k + 1, by go_num, by omega, Lib.hid (by rw [HTS.out]; exact H5.out)⟩
             case measure => simp [intOf]; omega
         · have hkn : n2 = k := by omega
           subst hkn
           have HE1 := Lib.hid (foldP_all s0 HE.out.2.2 HN.out.2.2)
           rw [HE1.out] at HF
           obtain ⟨s2, hs2⟩ : ∃ s, s = foldP s0 (actsP L2 rs2) := ⟨_, rfl⟩
           rw [← hs2] at HF
           have HS2 := Lib.hid hs2
           clear hs2 HE1
           go_upto_region 20 with (first
             | (at_builtin; refine wpList_appT kX (n := n0) rfl _ _ rfl L0 HN.out.1 rfl (nil_row kX _ wr.heap.size) rfl (HR.out.1.below HF.out.bel) HC.out.1 (by have := HG.out.1.1; simp; omega) (Nat.le_refl _) ?_; intro v3 w3 hr3 hg3; have H3 := Lib.hid (And.intro hr3 (grown_nil hg3)); clear hr3 hg3)
             | (at_builtin; refine wpList_appT kX (n := n1) rfl _ _ rfl L1 HN.out.2.1 rfl H3.out.1 rfl (HR.out.2.1.below (HF.out.bel.trans (H3.out.2.mono HF.out.bel.size))) HC.out.2.1 (by have := HG.out.1.1; have := HG.out.2.1.1; simp; omega) H3.out.2.size ?_; intro v4 w4 hr4 hg4; have H4 := Lib.hid (And.intro hr4 (H3.out.2.trans (row_below H3.out.1 hg4 H3.out.2.size))); clear hr4 hg4; have hb4 := HF.out.bel.trans (H4.out.2.mono HF.out.bel.size); have HBX := Lib.hid (begin_any v4 (L0 ++ L1) (rs0 ++ rs1) w4 (acts_app (by simpa using H4.out.1) (H.out.1.on hb4) (H.out.2.1.on hb4)) (by have := HG.out.1.1; have := HG.out.2.1.1; simp; omega) (good_app HE.out.1 HG.out.1 HG.out.2.1)); rw [actsP_app HE.out.1, foldP_app, ← HS0.out, ← HS1.out] at HBX; clear hb4)
             | (go_at_call 7; (with_reducible refine HBX.out.mono ?_); rintro e w5 ⟨gx, mx, rx, rfl, ht5, _, _, hb5⟩; dsimp only; have H5 := Lib.hid (And.intro ht5 (HF.out.on (H4.out.2.trans (hb5.mono H4.out.2.size)))); clear ht5 hb5 HBX H3 H4))
           go_upto_region 21 with (first
             | (at_builtin; refine wpList_appT kX (n := n0) rfl _ _ rfl L0 HN.out.1 rfl (nil_row kX _ w5.heap.size) rfl (HR.out.1.below H5.out.2.bel) HC.out.1 (by have := HG.out.1.1; simp; omega) (Nat.le_refl _) ?_; intro v6 w6 hr6 hg6; have H6 := Lib.hid (And.intro hr6 (grown_nil hg6)); clear hr6 hg6)
             | (at_builtin; refine wpList_appT kX (n := n2) rfl _ _ rfl L2 HN.out.2.2 rfl H6.out.1 rfl (HR.out.2.2.below (H5.out.2.bel.trans (H6.out.2.mono H5.out.2.bel.size))) HC.out.2.2 (by have := HG.out.1.1; have := HG.out.2.2.1; simp; omega) H6.out.2.size ?_; intro v7 w7 hr7 hg7; have H7 := Lib.hid (And.intro hr7 (H6.out.2.trans (row_below H6.out.1 hg7 H6.out.2.size))); clear hr7 hg7; have hb7 := H5.out.2.bel.trans (H7.out.2.mono H5.out.2.bel.size); have HBX := Lib.hid (begin_any v7 (L0 ++ L2) (rs0 ++ rs2) w7 (acts_app (by simpa using H7.out.1) (H.out.1.on hb7) (H.out.2.2.on hb7)) (by have := HG.out.1.1; have := HG.out.2.2.1; simp; omega) (good_app HE.out.1 HG.out.1 HG.out.2.2)); rw [actsP_app HE.out.1, foldP_app, ← HS0.out, ← HS2.out] at HBX; clear hb7)
             | (go_at_call 7; (with_reducible refine HBX.out.mono ?_); rintro e w8 ⟨gy, my, ry, rfl, ht8, _, _, hb8⟩; dsimp only; have hq := H7.out.2.trans (hb8.mono H7.out.2.size); have H8 := Lib.hid (And.intro ht8 (And.intro (H5.out.1.on hq) (H5.out.2.on hq))); clear ht8 hb8 hq HBX H6 H7))
           clear H5
           go_wp2_with (first
             | (go_at_call 12; (with_reducible refine (same_tab g m gx mx 0 s1.2 s1.1 w8 H8.out.2.2.a H8.out.2.1).mono ?_); rintro e w9 ⟨rfl, hb9⟩; dsimp only; have H9 := Lib.hid (And.intro (H8.out.1.on hb9) (H8.out.2.2.on hb9)); clear hb9)
             | (go_at_call 12; (with_reducible refine (same_tab (mo + 1) mo gy my 0 s2.2 s2.1 w9 H9.out.2.b H9.out.1).mono ?_); rintro e w10 ⟨rfl, hb10⟩; dsimp only; have H10 := Lib.hid (H9.out.2.bel.trans (hb10.mono H9.out.2.bel.size)); clear hb10)
             | (go_at_call 6; (with_reducible refine (known_c w10).mono ?_); rintro e w11 ⟨rfl, hb11⟩; dsimp only; have H11 := Lib.hid (H10.out.trans (hb11.mono H10.out.size)); clear hb11))
           go_ret
           exact ⟨rfl, H11.out⟩
 all_goals
   go_ret
   exact ⟨rfl, hbk⟩
end Go.Proofs.Ytidkpdoiblomjaa.Tlv
