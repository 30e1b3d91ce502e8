/- The stage's law. -/
import Derived.Test.YtlhbnmaalhainaaTMeanO
namespace Go.Proofs.Ytlhbnmaalhainaa.Tlv
open Go.RowKit Go.Lib Go.Sort
set_option maxRecDepth 100000
set_option linter.unusedVariables false
set_option linter.unusedSimpArgs false

set_option maxHeartbeats 20000000 in
theorem means_1011 (n1 : List UInt8) (l1 : List At) (va : Value) (n2 : List UInt8) (l2 : List At) (vb : Value) (A : Option Addr) (cc : Nat) (cb : List Int) (w : World) (hva : RdV w va l1) (hvb : RdV w vb l2) (hs1 : Sm l1) (hs2 : Sm l2) (hl1 : l1.length ≤ 9223372036854775807) (hl2 : l2.length ≤ 9223372036854775807) (hn1 : n1.length ≤ 9223372036854775807) (hn2 : n2.length ≤ 9223372036854775807) (hr : Rd w w.heap.size A cb) (hby : Byt cb) (hcl : cb.length ≤ 9223372036854775807) (h : AskM n1 l1 n2 l2 cb) (hma : mayE n1 l1 = true) (hmb : mayE n2 l2 = false) (n3 : List UInt8) (l3 : List At) (hmc : mayE n3 l3 = true) (hceq : cb = entB n3 l3) (hch : (changeR l1 l2).2 = 0) :
    KnownM w #[.agg #[.string (sx n1), va], .agg #[.string (sx n2), vb], .slice A cb.length cc] := by
  obtain ⟨q1, q2, q3, q4, q5⟩ := h
  have q6 := much_len q3
  have q7 := much_len q4
  have hb1 := (Below.refl w.heap.size w).alloc (Nat.le_refl _) (.cells #[.string (sx n1), va] 26)
  have hb2 := hb1.alloc hb1.size (.cells #[.string (sx n2), vb] 26)
  have kA0 := (Blk.new w 26 #[.string (sx n1), va]).alloc (.cells #[.string (sx n2), vb] 26)
  have kB0 := Blk.new (w.alloc (.cells #[.string (sx n1), va] 26)) 26 #[.string (sx n2), vb]
  rw [World.size_alloc] at kB0
  have hzW : ((w.alloc (.cells #[.string (sx n1), va] 26)).alloc (.cells #[.string (sx n2), vb] 26)).heap.size = w.heap.size + 2 := by simp
  generalize hW : (w.alloc (.cells #[.string (sx n1), va] 26)).alloc (.cells #[.string (sx n2), vb] 26) = W at hb2 kA0 kB0 hzW
  have HX := Lib.hid fun W' (hb : Below W.heap.size W W') => And.intro ((kA0.on hb).cell 0) (And.intro ((kA0.on hb).cell 1) (And.intro ((kB0.on hb).cell 0) ((kB0.on hb).cell 1)))
  have HK := Lib.hid fun W => known_any W
  have HB := Lib.hid hb2
  have HZ := Lib.hid hzW
  have HM1 := Lib.hid fun W' (hb : Below W.heap.size W W') => much_any l1 va W' ((hva.on hb2).on hb) hs1 hl1
  have HM2 := Lib.hid fun W' (hb : Below W.heap.size W W') => much_any l2 vb W' ((hvb.on hb2).on hb) hs2 hl2
  have z1 := sx_size n1
  have z2 := sx_size n2
  have HBA := Lib.hid fun W' (hb : Below W.heap.size W W') => bytes_yes n1 l1 va W' ((hva.on hb2).on hb) hma
  have HBB := Lib.hid fun W' (hb : Below W.heap.size W W') => bytes_no n2 l2 vb W' ((hvb.on hb2).on hb) hn2 hs2 (by omega) hmb
  have hrc0 := fun W' (hb : Below W.heap.size W W') => (show Rd W' W'.heap.size A cb from (((hr.below hb2).more hb2.size).below hb).more hb.size)
  subst hceq
  have HOC := Lib.hid fun W' (hb : Below W.heap.size W W') => of_yes A cc n3 l3 W' (hrc0 W' hb) hmc
  have HRC := Lib.hid hrc0
  have HCH := Lib.hid fun W' (hb : Below W.heap.size W W') => change_any l1 l2 va vb W' ((hva.on hb2).on hb) ((hvb.on hb2).on hb) hs1 hs2 (by omega) (by omega)
  obtain ⟨hc1, hc2, hc3, hc4⟩ := change_ok hch
  rw [hc1] at HCH
  have HCC := Lib.hid fun v' W' (hb : Below W.heap.size W W') (hv' : RdV W' v' (changeL l1 l2)) => change_any (changeL l1 l2) l2 v' vb W' hv' ((hvb.on hb2).on hb) (sm_may hc2) hs2 (by omega) (by omega)
  rw [hc3] at HCC
  have HCF := Lib.hid (And.intro hc2 hc4)
  have HHY := Lib.hid fun (y : At) (hy : y ∈ l2) => has_by (l := l1) hy
  have HTY := Lib.hid fun (x : At) (hx : x ∈ changeL l1 l2) => typed_in hx
  have HLA := Lib.hid fun y W' (hb : Below W.heap.size W W') => lhas_any l1 y va W' ((hva.on hb2).on hb) hl1
  have HLB := Lib.hid fun y W' (hb : Below W.heap.size W W') => lhas_any l2 y vb W' ((hvb.on hb2).on hb) hl2
  have HVV := Lib.hid fun W' (hb : Below W.heap.size W W') => And.intro ((hva.on hb2).on hb) ((hvb.on hb2).on hb)
  have HSA := Lib.hid (And.intro hma hmb)
  rw [q3] at HM1
  rw [q4] at HM2
  subst hW
  obtain ⟨Aa, ca, rfl, _, hra⟩ := hva
  obtain ⟨Ab, cv, rfl, _, hrb⟩ := hvb
  have HRB := Lib.hid (hrb.on hb2)
  obtain ⟨na, hna⟩ : ∃ na, na = l1.length := ⟨_, rfl⟩
  obtain ⟨nb, hnb⟩ : ∃ nb, nb = l2.length := ⟨_, rfl⟩
  have HNN := Lib.hid (And.intro hna hnb)
  have HQ := Lib.hid (And.intro q6 q7)
  have HQ2 := Lib.hid (And.intro hn1 hn2)
  rw [← hna] at HM1 HBA HBB HCH HX HB HZ HVV HM2 HOC HRB HCC HLA HLB HRC ⊢
  rw [← hnb] at HM1 HBA HBB HCH HX HB HZ HVV HM2 HOC HRB HCC HLA HLB HRC ⊢
  have q6' : na ≤ 120 := by omega
  have q7' : nb ≤ 120 := by omega
  clear hb1 hb2 kA0 kB0 hs1 hs2 hr hby hzW hrc0 hl1 hl2 hn1 hn2 hra hrb hna hnb q3 q4 q6 q7 hch hma hmb hc1 hc2 hc3 hc4
  generalize hW : (w.alloc (.cells #[.string (sx n1), .slice Aa na ca] 26)).alloc (.cells #[.string (sx n2), .slice Ab nb cv] 26) = W at HX HB HZ HVV HM1 HM2 HBA HBB HOC HCH HRB HCC HLA HLB HRC
  subst hW
  go_enter Try.func6, Try.ntmps6
  go_wp2_with (first
    | (go_at_call 10; (with_reducible refine (HK.out _).mono ?_); rintro e w1 ⟨rfl, hb1'⟩; have HB1 := Lib.hid hb1'; clear hb1'; obtain ⟨a0, a1, b0, b1⟩ := HX.out _ HB1.out; simp only [List.getElem?_toArray, List.getElem?_cons_zero, List.getElem?_cons_succ] at a0 a1 b0 b1)
    | (go_at_call 9; (with_reducible refine (HM1.out _ HB1.out).mono ?_); clear HM1 a0 a1 b0 b1; rintro e w2 ⟨rfl, hbx⟩; have HB2 := Lib.hid (HB1.out.trans (hbx.mono HB1.out.size)); clear hbx; obtain ⟨a0, a1, b0, b1⟩ := HX.out _ HB2.out; simp only [List.getElem?_toArray, List.getElem?_cons_zero, List.getElem?_cons_succ] at a0 a1 b0 b1)
    | (go_at_call 9; (with_reducible refine (HM2.out _ HB2.out).mono ?_); clear HM2 a0 a1 b0 b1; rintro e w3 ⟨rfl, hbx⟩; have HB3 := Lib.hid (HB2.out.trans (hbx.mono HB2.out.size)); clear hbx; obtain ⟨a0, a1, b0, b1⟩ := HX.out _ HB3.out; simp only [List.getElem?_toArray, List.getElem?_cons_zero, List.getElem?_cons_succ] at a0 a1 b0 b1)
    | (go_at_call 19; (with_reducible refine (HBA.out _ HB3.out).mono ?_); clear HBA; clear a0 a1 b0 b1; rintro e w4 ⟨Ax, cx, rfl, hrx, hbx⟩; have HRX := Lib.hid hrx; have HB4 := Lib.hid (HB3.out.trans (hbx.mono HB3.out.size)); clear hbx hrx; obtain ⟨a0, a1, b0, b1⟩ := HX.out _ HB4.out; simp only [List.getElem?_toArray, List.getElem?_cons_zero, List.getElem?_cons_succ] at a0 a1 b0 b1)
    | (go_at_call 19; (with_reducible refine (HBB.out _ HB4.out).mono ?_); clear HBB; clear a0 a1 b0 b1; rintro e w5 ⟨rfl, hbx⟩; have HRX5 := Lib.hid (Row.rdX (Row.below HRX.out hbx)); have HOX := Lib.hid (of_yes Ax cx n1 l1 w5 HRX5.out HSA.out.1); have HB5 := Lib.hid (HB4.out.trans (hbx.mono HB4.out.size)); clear hbx; obtain ⟨a0, a1, b0, b1⟩ := HX.out _ HB5.out; simp only [List.getElem?_toArray, List.getElem?_cons_zero, List.getElem?_cons_succ] at a0 a1 b0 b1)
    | (go_at_call 23; (with_reducible refine (num_any _ _).mono ?_); rintro e wn ⟨rfl, rfl⟩)
    | (go_at_call 20; (with_reducible refine HOX.out.mono ?_); clear HOX; clear a0 a1 b0 b1; rintro e w6 ⟨Ad, cd, rfl, hvd, hbx⟩; have HB6 := Lib.hid (HB5.out.trans (hbx.mono HB5.out.size)); have H56 := Lib.hid hbx; have HVD := Lib.hid hvd; clear hbx hvd))
  have hd1 := (Below.refl w6.heap.size w6).alloc (Nat.le_refl _) (.cells #[.string (sx n1), .slice Ad l1.length cd] 26)
  have HB7 := Lib.hid (HB6.out.trans (hd1.mono HB6.out.size))
  have kD := Blk.new w6 26 #[.string (sx n1), .slice Ad l1.length cd]
  have f0 : (w6.alloc (.cells #[.string (sx n1), .slice Ad l1.length cd] 26)).cell? ⟨w6.heap.size, 0, none⟩ = some (.string (sx n1)) := kD.cell 0
  have f1 : (w6.alloc (.cells #[.string (sx n1), .slice Ad l1.length cd] 26)).cell? ⟨w6.heap.size, 1, none⟩ = some (.slice Ad l1.length cd) := kD.cell 1
  have hvd7 := HVD.out.on hd1
  have hrx7 : Rd _ _ Ax (entB n1 l1) := ((HRX5.out.below H56.out).more H56.out.size).below hd1 |>.more hd1.size

  generalize w6.alloc (.cells #[.string (sx n1), .slice Ad l1.length cd] 26) = W7 at HB7 f0 f1 hvd7 hrx7  ⊢
  obtain ⟨a0, a1, b0, b1⟩ := HX.out _ HB7.out; simp only [List.getElem?_toArray, List.getElem?_cons_zero, List.getElem?_cons_succ] at a0 a1 b0 b1
  have e0 := cell_regrown a0
  have e1 := cell_regrown a1
  have e2 := cell_regrown b0
  have e3 := cell_regrown b1
  have e4 := cell_regrown f0
  have e5 := cell_regrown f1
  have hvv := HVV.out _ HB7.out
  have h22 := fun W' (hb : Below W7.heap.size W7 W') => refSameE_any n1 n1 l1 l1 _ _ W' (hvd7.on hb) (hvv.1.on hb) (by have := HNN.out; omega) (by have := HNN.out; omega)
  rw [decide_eq_true rfl, decide_eq_true rfl, Bool.true_and] at h22
  have cS := fun d os => Calls.regrown_of (h22 (grow (redrawn W7 d) os) (below_regrown _ _ _))
  have cN := fun (x : Int) d os => Calls.regrown_of ((num_any x (grow (redrawn W7 d) os)).mono fun e w' (h : _ ∧ _ = w') => (⟨h.1, h.2 ▸ Below.refl _ _⟩ : e = .returned (.int .i64 x) ∧ Below (grow (redrawn W7 d) os).heap.size (grow (redrawn W7 d) os) w'))
  clear hd1 kD f0 f1 h22 hvd7 hrx7 hvv a0 a1 b0 b1
  go_wp2_with fail
  refine wp_region_quiet_below (by kernel_rfl) (by kernel_rfl) ?_
  repeat
    with_reducible refine wpQuiet_step (fun K hK => ?_)
    go_simp
    first
      | (with_reducible refine hK _ ?_; clear hK K)
      | (rw [if_neg (by first | decide | (intro h; cases h))]; with_reducible refine hK _ ?_; clear hK K)
      | (apply Exists.intro; refine ⟨fun _ => ?_, hK _ ?_⟩; (first | with_reducible exact cN _ _ _ | with_reducible exact cS _ _); clear hK K)
  with_reducible refine wpQuiet_nil ?_
  rintro _ ⟨⟨dq, osq⟩, rfl⟩
  have HB8 := Lib.hid (HB7.out.trans ((below_regrown W7 dq osq).mono HB7.out.size))
  clear e0 e1 e2 e3 e4 e5 cS cN
  generalize grow (redrawn W7 dq) osq = w8 at HB8 ⊢
  go_wp2_with (first
    | (go_at_call 20; (with_reducible refine (HOC.out _ HB8.out).mono ?_); clear HOC; rintro e w9 ⟨Ae, ce, rfl, hve, hbx⟩; have HB9 := Lib.hid (HB8.out.trans (hbx.mono HB8.out.size)); have hba := (Below.refl w9.heap.size w9).alloc (Nat.le_refl _) (.cells #[.string (sx n3), .slice Ae l3.length ce] 26); have HBZ := Lib.hid (bytes_yes n3 l3 _ _ (hve.on hba) hmc); have HB10 := Lib.hid (HB9.out.trans (hba.mono HB9.out.size)); have g0 : (w9.alloc (.cells #[.string (sx n3), .slice Ae l3.length ce] 26)).cell? ⟨w9.heap.size, 0, none⟩ = some (.string (sx n3)) := (Blk.new w9 26 #[.string (sx n3), .slice Ae l3.length ce]).cell 0; have g1 : (w9.alloc (.cells #[.string (sx n3), .slice Ae l3.length ce] 26)).cell? ⟨w9.heap.size, 1, none⟩ = some (.slice Ae l3.length ce) := (Blk.new w9 26 #[.string (sx n3), .slice Ae l3.length ce]).cell 1; clear hbx hba hve)
    | (go_at_call 23; (with_reducible refine (num_any _ _).mono ?_); rintro e wn ⟨rfl, rfl⟩)
    | (go_at_call 19; (with_reducible refine HBZ.out.mono ?_); clear HBZ g0 g1; rintro e w11 ⟨Az, cz, rfl, hrz, hbx⟩; have HB11 := Lib.hid (HB10.out.trans (hbx.mono HB10.out.size)); have hcz := conv_of w11 Az cz _ _ (Row.rdX hrz) (by cases Az <;> simp); have hcc := conv_of w11 A cc _ _ (HRC.out _ HB11.out) (by cases A <;> simp); clear hbx hrz; obtain ⟨a0, a1, b0, b1⟩ := HX.out _ HB11.out; simp only [List.getElem?_toArray, List.getElem?_cons_zero, List.getElem?_cons_succ] at a0 a1 b0 b1)
    | (go_at_call 32; (with_reducible refine (HCH.out _ HB11.out).mono ?_); clear HCH; clear a0 a1 b0 b1; rintro e w12 ⟨v12, rfl, hv12, hbx⟩; have HB12 := Lib.hid (HB11.out.trans (hbx.mono HB11.out.size)); have HV12 := Lib.hid hv12; have HC2 := Lib.hid (HCC.out v12 w12 HB12.out hv12); obtain ⟨A12, c12, rfl, _, _⟩ := hv12; clear hbx HCC; obtain ⟨a0, a1, b0, b1⟩ := HX.out _ HB12.out; simp only [List.getElem?_toArray, List.getElem?_cons_zero, List.getElem?_cons_succ] at a0 a1 b0 b1)
    | (go_at_call 32; (with_reducible refine HC2.out.mono ?_); clear HC2; clear a0 a1 b0 b1; rintro e w13 ⟨v13, rfl, hv13, hbx⟩; have HB13 := Lib.hid (HB12.out.trans (hbx.mono HB12.out.size)); have HV13 := Lib.hid (HV12.out.on hbx); have hs13 := refSame_any (changeL l1 l2) (changeL l1 l2) _ _ w13 HV13.out hv13 (by have := HCF.out.2; omega) (by have := HCF.out.2; omega); rw [decide_eq_true rfl] at hs13; have HS13 := Lib.hid hs13; obtain ⟨A13, c13, rfl, _, _⟩ := hv13; clear hbx hs13)
    | (go_at_call 30; (with_reducible refine HS13.out.mono ?_); clear HS13; rintro e w14 ⟨rfl, hbx⟩; have HB14 := Lib.hid (HB13.out.trans (hbx.mono HB13.out.size)); have HV14 := Lib.hid (HV13.out.on hbx); have hma14 := mayAttrs_any (changeL l1 l2) _ w14 HV14.out (sm_may HCF.out.1) (by have := HCF.out.2; omega); rw [HCF.out.1] at hma14; have HMA14 := Lib.hid hma14; clear hbx hma14)
    | (go_at_call 15; (with_reducible refine HMA14.out.mono ?_); clear HMA14; rintro e w15 ⟨rfl, hbx⟩; have HB15 := Lib.hid (HB14.out.trans (hbx.mono HB14.out.size)); have HV15 := Lib.hid (HV14.out.on hbx); clear hbx; obtain ⟨a0, a1, b0, b1⟩ := HX.out _ HB15.out; simp only [List.getElem?_toArray, List.getElem?_cons_zero, List.getElem?_cons_succ] at a0 a1 b0 b1))
  have HVC : Hid (Ytlhbnmaalhainaa.RdK kA w15 w15.heap.size A12 (changeL l1 l2)) := Lib.hid (by
    obtain ⟨A', c', e', _, hr'⟩ := HV15.out
    injection e' with e1 e2 e3
    subst e1
    exact hr')
  have hq50 := HCF.out.2
  generalize changeL l1 l2 = cl at HVC HV15 HHY HTY hq50 ⊢
  obtain ⟨q, hq⟩ : ∃ q, q = cl.length := ⟨_, rfl⟩
  have HQC := Lib.hid hq
  rw [← hq] at HV15 hq50 ⊢
  clear hq
  go_loopw [21] (fun s21 wr => ∃ k : Nat, s21 = .int .i64 k ∧ k ≤ nb ∧ Hid (Below w15.heap.size w15 wr)) (fun s21 _ => nb - (intOf s21).toNat)
  case atStart => exact ⟨0, rfl, Nat.zero_le _, Lib.hid (Below.refl _ _)⟩
  case round =>
    obtain ⟨k, rfl, hk, HL⟩ := hrel
    have HBr := Lib.hid (HB15.out.trans (HL.out.mono HB15.out.size))
    clear a0 a1 b0 b1
    obtain ⟨a0, a1, b0, b1⟩ := HX.out _ HBr.out; simp only [List.getElem?_toArray, List.getElem?_cons_zero, List.getElem?_cons_succ] at a0 a1 b0 b1
    by_cases hlt : k < nb
    · have hkl : k < l2.length := by have := HNN.out; omega
      obtain ⟨bb, off, rfl, _, c0, c1⟩ := at_cells HRB.out HBr.out hkl
      have hmem : l2.getD k default ∈ l2 := by rw [getD_at l2 k hkl]; exact List.getElem_mem _
      have hhy := HHY.out _ hmem
      generalize l2.getD k default = y at c0 c1 hhy
      have h38 := fun W' (hb : Below wr.heap.size wr W') => has_any cl y _ W' ((HV15.out.on HL.out).on hb) (by have := HQC.out; omega)
      rw [hhy] at h38
      have hem := sx_empty y.v
      generalize decide (y.v = []) = rr at hem h38
      have e0 := cell_regrown c0
      have e1 := cell_regrown c1
      have e2 := cell_regrown b0
      have e3 := cell_regrown b1
      have cA := fun d os => Calls.regrown_of (h38 (grow (redrawn wr d) os) (below_regrown _ _ _))
      clear hmem hhy h38 c0 c1 a0 a1
      go_wp2_with fail
      refine wp_region_quiet_below (by kernel_rfl) (by kernel_rfl) ?_
      repeat
        with_reducible refine wpQuiet_step (fun K hK => ?_)
        go_simp
        first
          | (with_reducible refine hK _ ?_; clear hK K)
          | (rw [if_neg (by first | decide | (intro h; cases h))]; with_reducible refine hK _ ?_; clear hK K)
          | (apply Exists.intro; refine ⟨fun _ => ?_, hK _ ?_⟩; (first | with_reducible exact cA _ _); clear hK K)
      with_reducible refine wpQuiet_nil ?_
      rintro _ ⟨⟨dq, osq⟩, rfl⟩
      have HY1 := Lib.hid (HL.out.trans ((below_regrown wr dq osq).mono HL.out.size))
      clear e0 e1 e2 e3 cA hem
      generalize grow (redrawn wr dq) osq = y1 at HY1 ⊢
      go_wp2
      go_roundw
      case rel => exact ⟨k + 1, by go_num, by omega, HY1⟩
      case measure => simp [intOf]; omega
    · have hkn : k = nb := by omega
      subst hkn
      go_wp2
      obtain ⟨wq, hwq⟩ : ∃ wq : World, wq = wr := ⟨_, rfl⟩
      subst hwq
      clear a0 a1 b0 b1
      go_loopw [22] (fun s22 wr => ∃ i : Nat, s22 = .int .i64 i ∧ i ≤ q ∧ Hid (Below w15.heap.size w15 wr)) (fun s22 _ => q - (intOf s22).toNat)
      case atStart => exact ⟨0, rfl, Nat.zero_le _, HL⟩
      case round =>
        obtain ⟨i, rfl, hi, HL2⟩ := hrel
        have HBs := Lib.hid (HB15.out.trans (HL2.out.mono HB15.out.size))
        by_cases hlt2 : i < q
        · have hil : i < cl.length := by have := HQC.out; omega
          have hmx : cl.getD i default ∈ cl := by rw [getD_at cl i hil]; exact List.getElem_mem _
          have HTX := Lib.hid (HTY.out _ hmx)
          have HNB : Hid (l2.length = k) := Lib.hid HNN.out.2.symm
          generalize hgx : cl.getD i default = x at HTX
          have HGX := Lib.hid hgx
          clear hgx hmx
          go_wp2
          obtain ⟨wp, hwp⟩ : ∃ wp : World, wp = wr := ⟨_, rfl⟩
          subst hwp
          go_loopw [23, 24] (fun s23 s24 wr => ∃ j : Nat, s24 = .int .i64 j ∧ j ≤ k ∧ s23 = .bool (anyT l2 x j) ∧ Hid (Below w15.heap.size w15 wr)) (fun _ s24 _ => k - (intOf s24).toNat)
          case atStart => exact ⟨0, rfl, Nat.zero_le _, rfl, HL2⟩
          case round =>
            obtain ⟨j, rfl, hj, rfl, HL3⟩ := hrel
            have HBt := Lib.hid (HB15.out.trans (HL3.out.mono HB15.out.size))
            obtain ⟨a0, a1, b0, b1⟩ := HX.out _ HBt.out; simp only [List.getElem?_toArray, List.getElem?_cons_zero, List.getElem?_cons_succ] at a0 a1 b0 b1
            obtain ⟨bc, oc, rfl, _, x0, x1⟩ := at_cells HVC.out HL3.out hil
            rw [HGX.out] at x0 x1
            by_cases hlt3 : j < k
            · have hjl : j < l2.length := by have := HNN.out; omega
              obtain ⟨bb, off, rfl, _, c0, c1⟩ := at_cells HRB.out HBt.out hjl
              have HS := Lib.hid (anyT_succ (a := x) hjl)
              generalize l2.getD j default = y at c0 HS
              have hd := sx_beq y.t x.t
              have e0 := cell_regrown c0
              have e2 := cell_regrown b0
              have e3 := cell_regrown b1
              have e4 := cell_regrown x0
              generalize anyT l2 x j = r0 at HS ⊢
              generalize decide (y.t = x.t) = r1 at HS hd
              clear c0 c1 a0 a1 x0 x1
              cases r0 with
              | true =>
                go_wp2_with fail
                refine wp_region_quiet_below (by kernel_rfl) (by kernel_rfl) ?_
                repeat
                  with_reducible refine wpQuiet_step (fun K hK => ?_)
                  go_simp
                  first
                    | (with_reducible refine hK _ ?_; clear hK K)
                    | (rw [if_neg (by first | decide | (intro h; cases h))]; with_reducible refine hK _ ?_; clear hK K)
                with_reducible refine wpQuiet_nil ?_
                rintro _ ⟨⟨dq, osq⟩, rfl⟩
                have HY2 := Lib.hid (HL3.out.trans ((below_regrown wr dq osq).mono HL3.out.size))
                clear e0 e2 e3 e4 hd
                generalize grow (redrawn wr dq) osq = y2 at HY2 ⊢
                go_wp2
                go_roundw
                case rel => exact ⟨j + 1, by go_num, by omega, by rw [HS.out]; rfl, HY2⟩
                case measure => simp [intOf]; omega
              | false =>
                go_wp2_with fail
                refine wp_region_quiet_below (by kernel_rfl) (by kernel_rfl) ?_
                repeat
                  with_reducible refine wpQuiet_step (fun K hK => ?_)
                  go_simp
                  first
                    | (with_reducible refine hK _ ?_; clear hK K)
                    | (rw [if_neg (by first | decide | (intro h; cases h))]; with_reducible refine hK _ ?_; clear hK K)
                with_reducible refine wpQuiet_nil ?_
                rintro _ ⟨⟨dq, osq⟩, rfl⟩
                have HY2 := Lib.hid (HL3.out.trans ((below_regrown wr dq osq).mono HL3.out.size))
                clear e0 e2 e3 e4 hd
                generalize grow (redrawn wr dq) osq = y2 at HY2 ⊢
                go_wp2
                go_roundw
                case rel => exact ⟨j + 1, by go_num, by omega, by rw [HS.out]; simp, HY2⟩
                case measure => simp [intOf]; omega
            · have hjk : j = k := by omega
              subst hjk
              have HT1 := HTX
              rw [HNB.out] at HT1
              generalize anyT l2 x j = ty at HT1 ⊢
              have hlb := fun W' (hb : Below wr.heap.size wr W') => HLB.out x W' (HBt.out.trans (hb.mono HBt.out.size))
              have hla := fun W' (hb : Below wr.heap.size wr W') => HLA.out x W' (HBt.out.trans (hb.mono HBt.out.size))
              have e1 := cell_regrown a1
              have e2 := cell_regrown b0
              have e3 := cell_regrown b1
              have e4 := cell_regrown x0
              have e5 := cell_regrown x1
              cases ty with
              | true =>
                rw [decide_eq_true (HT1.out.1 rfl)] at hlb
                have cA := fun d os => Calls.regrown_of (hlb (grow (redrawn wr d) os) (below_regrown _ _ _))
                clear hlb hla a0 x0 x1
                go_wp2_with fail
                refine wp_region_quiet_below (by kernel_rfl) (by kernel_rfl) ?_
                repeat
                  with_reducible refine wpQuiet_step (fun K hK => ?_)
                  go_simp
                  first
                    | (with_reducible refine hK _ ?_; clear hK K)
                    | (rw [if_neg (by first | decide | (intro h; cases h))]; with_reducible refine hK _ ?_; clear hK K)
                    | (apply Exists.intro; refine ⟨fun _ => ?_, hK _ ?_⟩; (first | with_reducible exact cA _ _); clear hK K)
                with_reducible refine wpQuiet_nil ?_
                rintro _ ⟨⟨dq, osq⟩, rfl⟩
                have HY3 := Lib.hid (HL3.out.trans ((below_regrown wr dq osq).mono HL3.out.size))
                clear e1 e2 e3 e4 e5 cA
                generalize grow (redrawn wr dq) osq = y3 at HY3 ⊢
                go_wp2
                go_roundw
                case rel => exact ⟨i + 1, by go_num, by omega, HY3⟩
                case measure => simp [intOf]; omega
              | false =>
                rw [decide_eq_true (HT1.out.2 rfl)] at hla
                have cA := fun d os => Calls.regrown_of (hla (grow (redrawn wr d) os) (below_regrown _ _ _))
                clear hlb hla a0 x0 x1
                go_wp2_with fail
                refine wp_region_quiet_below (by kernel_rfl) (by kernel_rfl) ?_
                repeat
                  with_reducible refine wpQuiet_step (fun K hK => ?_)
                  go_simp
                  first
                    | (with_reducible refine hK _ ?_; clear hK K)
                    | (rw [if_neg (by first | decide | (intro h; cases h))]; with_reducible refine hK _ ?_; clear hK K)
                    | (apply Exists.intro; refine ⟨fun _ => ?_, hK _ ?_⟩; (first | with_reducible exact cA _ _); clear hK K)
                with_reducible refine wpQuiet_nil ?_
                rintro _ ⟨⟨dq, osq⟩, rfl⟩
                have HY3 := Lib.hid (HL3.out.trans ((below_regrown wr dq osq).mono HL3.out.size))
                clear e1 e2 e3 e4 e5 cA
                generalize grow (redrawn wr dq) osq = y3 at HY3 ⊢
                go_wp2
                go_roundw
                case rel => exact ⟨i + 1, by go_num, by omega, HY3⟩
                case measure => simp [intOf]; omega
        · go_wp2
          go_ret
          exact ⟨rfl, HB.out.trans (HBs.out.mono HB.out.size)⟩

set_option maxHeartbeats 20000000 in
theorem means_1101 (n1 : List UInt8) (l1 : List At) (va : Value) (n2 : List UInt8) (l2 : List At) (vb : Value) (A : Option Addr) (cc : Nat) (cb : List Int) (w : World) (hva : RdV w va l1) (hvb : RdV w vb l2) (hs1 : Sm l1) (hs2 : Sm l2) (hl1 : l1.length ≤ 9223372036854775807) (hl2 : l2.length ≤ 9223372036854775807) (hn1 : n1.length ≤ 9223372036854775807) (hn2 : n2.length ≤ 9223372036854775807) (hr : Rd w w.heap.size A cb) (hby : Byt cb) (hcl : cb.length ≤ 9223372036854775807) (h : AskM n1 l1 n2 l2 cb) (hma : mayE n1 l1 = true) (hmb : mayE n2 l2 = true) (hno : ∀ name at', mayE name at' = true → cb ≠ entB name at') (hch : (changeR l1 l2).2 = 0) :
    KnownM w #[.agg #[.string (sx n1), va], .agg #[.string (sx n2), vb], .slice A cb.length cc] := by
  obtain ⟨q1, q2, q3, q4, q5⟩ := h
  have q6 := much_len q3
  have q7 := much_len q4
  have hb1 := (Below.refl w.heap.size w).alloc (Nat.le_refl _) (.cells #[.string (sx n1), va] 26)
  have hb2 := hb1.alloc hb1.size (.cells #[.string (sx n2), vb] 26)
  have kA0 := (Blk.new w 26 #[.string (sx n1), va]).alloc (.cells #[.string (sx n2), vb] 26)
  have kB0 := Blk.new (w.alloc (.cells #[.string (sx n1), va] 26)) 26 #[.string (sx n2), vb]
  rw [World.size_alloc] at kB0
  have hzW : ((w.alloc (.cells #[.string (sx n1), va] 26)).alloc (.cells #[.string (sx n2), vb] 26)).heap.size = w.heap.size + 2 := by simp
  generalize hW : (w.alloc (.cells #[.string (sx n1), va] 26)).alloc (.cells #[.string (sx n2), vb] 26) = W at hb2 kA0 kB0 hzW
  have HX := Lib.hid fun W' (hb : Below W.heap.size W W') => And.intro ((kA0.on hb).cell 0) (And.intro ((kA0.on hb).cell 1) (And.intro ((kB0.on hb).cell 0) ((kB0.on hb).cell 1)))
  have HK := Lib.hid fun W => known_any W
  have HB := Lib.hid hb2
  have HZ := Lib.hid hzW
  have HM1 := Lib.hid fun W' (hb : Below W.heap.size W W') => much_any l1 va W' ((hva.on hb2).on hb) hs1 hl1
  have HM2 := Lib.hid fun W' (hb : Below W.heap.size W W') => much_any l2 vb W' ((hvb.on hb2).on hb) hs2 hl2
  have z1 := sx_size n1
  have z2 := sx_size n2
  have HBA := Lib.hid fun W' (hb : Below W.heap.size W W') => bytes_yes n1 l1 va W' ((hva.on hb2).on hb) hma
  have HBB := Lib.hid fun W' (hb : Below W.heap.size W W') => bytes_yes n2 l2 vb W' ((hvb.on hb2).on hb) hmb
  have hrc0 := fun W' (hb : Below W.heap.size W W') => (show Rd W' W'.heap.size A cb from (((hr.below hb2).more hb2.size).below hb).more hb.size)
  have HOC := Lib.hid fun W' (hb : Below W.heap.size W W') => of_no A cc cb W' (hrc0 W' hb) hby (by omega) hno
  have HCH := Lib.hid fun W' (hb : Below W.heap.size W W') => change_any l1 l2 va vb W' ((hva.on hb2).on hb) ((hvb.on hb2).on hb) hs1 hs2 (by omega) (by omega)
  obtain ⟨hc1, hc2, hc3, hc4⟩ := change_ok hch
  rw [hc1] at HCH
  have HCC := Lib.hid fun v' W' (hb : Below W.heap.size W W') (hv' : RdV W' v' (changeL l1 l2)) => change_any (changeL l1 l2) l2 v' vb W' hv' ((hvb.on hb2).on hb) (sm_may hc2) hs2 (by omega) (by omega)
  rw [hc3] at HCC
  have HCF := Lib.hid (And.intro hc2 hc4)
  have HHY := Lib.hid fun (y : At) (hy : y ∈ l2) => has_by (l := l1) hy
  have HTY := Lib.hid fun (x : At) (hx : x ∈ changeL l1 l2) => typed_in hx
  have HLA := Lib.hid fun y W' (hb : Below W.heap.size W W') => lhas_any l1 y va W' ((hva.on hb2).on hb) hl1
  have HLB := Lib.hid fun y W' (hb : Below W.heap.size W W') => lhas_any l2 y vb W' ((hvb.on hb2).on hb) hl2
  have HVV := Lib.hid fun W' (hb : Below W.heap.size W W') => And.intro ((hva.on hb2).on hb) ((hvb.on hb2).on hb)
  have HSA := Lib.hid (And.intro hma hmb)
  rw [q3] at HM1
  rw [q4] at HM2
  subst hW
  obtain ⟨Aa, ca, rfl, _, hra⟩ := hva
  obtain ⟨Ab, cv, rfl, _, hrb⟩ := hvb
  have HRB := Lib.hid (hrb.on hb2)
  obtain ⟨na, hna⟩ : ∃ na, na = l1.length := ⟨_, rfl⟩
  obtain ⟨nb, hnb⟩ : ∃ nb, nb = l2.length := ⟨_, rfl⟩
  have HNN := Lib.hid (And.intro hna hnb)
  have HQ := Lib.hid (And.intro q6 q7)
  have HQ2 := Lib.hid (And.intro hn1 hn2)
  rw [← hna] at HM1 HBA HBB HCH HX HB HZ HVV HM2 HOC HRB HCC HLA HLB ⊢
  rw [← hnb] at HM1 HBA HBB HCH HX HB HZ HVV HM2 HOC HRB HCC HLA HLB ⊢
  have q6' : na ≤ 120 := by omega
  have q7' : nb ≤ 120 := by omega
  clear hb1 hb2 kA0 kB0 hs1 hs2 hr hby hzW hrc0 hl1 hl2 hn1 hn2 hra hrb hna hnb q3 q4 q6 q7 hch hma hmb hc1 hc2 hc3 hc4
  generalize hW : (w.alloc (.cells #[.string (sx n1), .slice Aa na ca] 26)).alloc (.cells #[.string (sx n2), .slice Ab nb cv] 26) = W at HX HB HZ HVV HM1 HM2 HBA HBB HOC HCH HRB HCC HLA HLB
  subst hW
  go_enter Try.func6, Try.ntmps6
  go_wp2_with (first
    | (go_at_call 10; (with_reducible refine (HK.out _).mono ?_); rintro e w1 ⟨rfl, hb1'⟩; have HB1 := Lib.hid hb1'; clear hb1'; obtain ⟨a0, a1, b0, b1⟩ := HX.out _ HB1.out; simp only [List.getElem?_toArray, List.getElem?_cons_zero, List.getElem?_cons_succ] at a0 a1 b0 b1)
    | (go_at_call 9; (with_reducible refine (HM1.out _ HB1.out).mono ?_); clear HM1 a0 a1 b0 b1; rintro e w2 ⟨rfl, hbx⟩; have HB2 := Lib.hid (HB1.out.trans (hbx.mono HB1.out.size)); clear hbx; obtain ⟨a0, a1, b0, b1⟩ := HX.out _ HB2.out; simp only [List.getElem?_toArray, List.getElem?_cons_zero, List.getElem?_cons_succ] at a0 a1 b0 b1)
    | (go_at_call 9; (with_reducible refine (HM2.out _ HB2.out).mono ?_); clear HM2 a0 a1 b0 b1; rintro e w3 ⟨rfl, hbx⟩; have HB3 := Lib.hid (HB2.out.trans (hbx.mono HB2.out.size)); clear hbx; obtain ⟨a0, a1, b0, b1⟩ := HX.out _ HB3.out; simp only [List.getElem?_toArray, List.getElem?_cons_zero, List.getElem?_cons_succ] at a0 a1 b0 b1)
    | (go_at_call 19; (with_reducible refine (HBA.out _ HB3.out).mono ?_); clear HBA; clear a0 a1 b0 b1; rintro e w4 ⟨Ax, cx, rfl, hrx, hbx⟩; have HRX := Lib.hid hrx; have HB4 := Lib.hid (HB3.out.trans (hbx.mono HB3.out.size)); clear hbx hrx; obtain ⟨a0, a1, b0, b1⟩ := HX.out _ HB4.out; simp only [List.getElem?_toArray, List.getElem?_cons_zero, List.getElem?_cons_succ] at a0 a1 b0 b1)
    | (go_at_call 19; (with_reducible refine (HBB.out _ HB4.out).mono ?_); clear HBB; clear a0 a1 b0 b1; rintro e w5 ⟨Ay, cy, rfl, hry, hbx⟩; have HRY := Lib.hid (Row.rdX hry); have HRX5 := Lib.hid (Row.rdX (Row.below HRX.out hbx)); have HOX := Lib.hid (of_yes Ax cx n1 l1 w5 HRX5.out HSA.out.1); have HB5 := Lib.hid (HB4.out.trans (hbx.mono HB4.out.size)); clear hbx hry; obtain ⟨a0, a1, b0, b1⟩ := HX.out _ HB5.out; simp only [List.getElem?_toArray, List.getElem?_cons_zero, List.getElem?_cons_succ] at a0 a1 b0 b1)
    | (go_at_call 23; (with_reducible refine (num_any _ _).mono ?_); rintro e wn ⟨rfl, rfl⟩)
    | (go_at_call 20; (with_reducible refine HOX.out.mono ?_); clear HOX; clear a0 a1 b0 b1; rintro e w6 ⟨Ad, cd, rfl, hvd, hbx⟩; have HB6 := Lib.hid (HB5.out.trans (hbx.mono HB5.out.size)); have H56 := Lib.hid hbx; have HVD := Lib.hid hvd; clear hbx hvd))
  have hd1 := (Below.refl w6.heap.size w6).alloc (Nat.le_refl _) (.cells #[.string (sx n1), .slice Ad l1.length cd] 26)
  have HB7 := Lib.hid (HB6.out.trans (hd1.mono HB6.out.size))
  have kD := Blk.new w6 26 #[.string (sx n1), .slice Ad l1.length cd]
  have f0 : (w6.alloc (.cells #[.string (sx n1), .slice Ad l1.length cd] 26)).cell? ⟨w6.heap.size, 0, none⟩ = some (.string (sx n1)) := kD.cell 0
  have f1 : (w6.alloc (.cells #[.string (sx n1), .slice Ad l1.length cd] 26)).cell? ⟨w6.heap.size, 1, none⟩ = some (.slice Ad l1.length cd) := kD.cell 1
  have hvd7 := HVD.out.on hd1
  have hrx7 : Rd _ _ Ax (entB n1 l1) := ((HRX5.out.below H56.out).more H56.out.size).below hd1 |>.more hd1.size
  have hry7 : Rd _ _ Ay (entB n2 l2) := ((HRY.out.below H56.out).more H56.out.size).below hd1 |>.more hd1.size
  generalize w6.alloc (.cells #[.string (sx n1), .slice Ad l1.length cd] 26) = W7 at HB7 f0 f1 hvd7 hrx7 hry7 ⊢
  obtain ⟨a0, a1, b0, b1⟩ := HX.out _ HB7.out; simp only [List.getElem?_toArray, List.getElem?_cons_zero, List.getElem?_cons_succ] at a0 a1 b0 b1
  have e0 := cell_regrown a0
  have e1 := cell_regrown a1
  have e2 := cell_regrown b0
  have e3 := cell_regrown b1
  have e4 := cell_regrown f0
  have e5 := cell_regrown f1
  have hvv := HVV.out _ HB7.out
  have h22 := fun W' (hb : Below W7.heap.size W7 W') => refSameE_any n1 n1 l1 l1 _ _ W' (hvd7.on hb) (hvv.1.on hb) (by have := HNN.out; omega) (by have := HNN.out; omega)
  rw [decide_eq_true rfl, decide_eq_true rfl, Bool.true_and] at h22
  have cS := fun d os => Calls.regrown_of (h22 (grow (redrawn W7 d) os) (below_regrown _ _ _))
  have cN := fun (x : Int) d os => Calls.regrown_of ((num_any x (grow (redrawn W7 d) os)).mono fun e w' (h : _ ∧ _ = w') => (⟨h.1, h.2 ▸ Below.refl _ _⟩ : e = .returned (.int .i64 x) ∧ Below (grow (redrawn W7 d) os).heap.size (grow (redrawn W7 d) os) w'))
  have h22b := fun W' (hb : Below W7.heap.size W7 W') => refSameE_any n1 n2 l1 l2 _ _ W' (hvv.1.on hb) (hvv.2.on hb) (by have := HNN.out; omega) (by have := HNN.out; omega)
  have hbeq := ent_beq HSA.out.1 HSA.out.2
  generalize (decide (n1 = n2) && decide (l1 = l2)) = rs at h22b hbeq
  have cT := fun d os => Calls.regrown_of (h22b (grow (redrawn W7 d) os) (below_regrown _ _ _))
  have hcx := fun d os => conv_of (grow (redrawn W7 d) os) Ax cx _ _ ((hrx7.below (below_regrown W7 d os)).more (below_regrown W7 d os).size) (by cases Ax <;> simp)
  have hcy := fun d os => conv_of (grow (redrawn W7 d) os) Ay cy _ _ ((hry7.below (below_regrown W7 d os)).more (below_regrown W7 d os).size) (by cases Ay <;> simp)
  clear h22b hry7
  clear hd1 kD f0 f1 h22 hvd7 hrx7 hvv a0 a1 b0 b1
  go_wp2_with fail
  refine wp_region_quiet_below (by kernel_rfl) (by kernel_rfl) ?_
  repeat
    with_reducible refine wpQuiet_step (fun K hK => ?_)
    go_simp
    first
      | (with_reducible refine hK _ ?_; clear hK K)
      | (rw [if_neg (by first | decide | (intro h; cases h))]; with_reducible refine hK _ ?_; clear hK K)
      | (apply Exists.intro; refine ⟨fun _ => ?_, hK _ ?_⟩; (first | with_reducible exact cN _ _ _ | with_reducible exact cS _ _ | with_reducible exact cT _ _); clear hK K)
  with_reducible refine wpQuiet_nil ?_
  rintro _ ⟨⟨dq, osq⟩, rfl⟩
  have HB8 := Lib.hid (HB7.out.trans ((below_regrown W7 dq osq).mono HB7.out.size))
  clear e0 e1 e2 e3 e4 e5 cS cN cT hcx hcy hbeq
  generalize grow (redrawn W7 dq) osq = w8 at HB8 ⊢
  go_wp2_with (first
    | (go_at_call 20; (with_reducible refine (HOC.out _ HB8.out).mono ?_); clear HOC; rintro e w9 ⟨rfl, hbx⟩; have HB9 := Lib.hid (HB8.out.trans (hbx.mono HB8.out.size)); have hba := (Below.refl w9.heap.size w9).alloc (Nat.le_refl _) (.cells #[.string ⟨#[]⟩, .slice none 0 0] 26); have HB11 := Lib.hid (HB9.out.trans (hba.mono HB9.out.size)); clear hbx hba; obtain ⟨a0, a1, b0, b1⟩ := HX.out _ HB11.out; simp only [List.getElem?_toArray, List.getElem?_cons_zero, List.getElem?_cons_succ] at a0 a1 b0 b1)
    | (go_at_call 23; (with_reducible refine (num_any _ _).mono ?_); rintro e wn ⟨rfl, rfl⟩)
    | (go_at_call 32; (with_reducible refine (HCH.out _ HB11.out).mono ?_); clear HCH; clear a0 a1 b0 b1; rintro e w12 ⟨v12, rfl, hv12, hbx⟩; have HB12 := Lib.hid (HB11.out.trans (hbx.mono HB11.out.size)); have HV12 := Lib.hid hv12; have HC2 := Lib.hid (HCC.out v12 w12 HB12.out hv12); obtain ⟨A12, c12, rfl, _, _⟩ := hv12; clear hbx HCC; obtain ⟨a0, a1, b0, b1⟩ := HX.out _ HB12.out; simp only [List.getElem?_toArray, List.getElem?_cons_zero, List.getElem?_cons_succ] at a0 a1 b0 b1)
    | (go_at_call 32; (with_reducible refine HC2.out.mono ?_); clear HC2; clear a0 a1 b0 b1; rintro e w13 ⟨v13, rfl, hv13, hbx⟩; have HB13 := Lib.hid (HB12.out.trans (hbx.mono HB12.out.size)); have HV13 := Lib.hid (HV12.out.on hbx); have hs13 := refSame_any (changeL l1 l2) (changeL l1 l2) _ _ w13 HV13.out hv13 (by have := HCF.out.2; omega) (by have := HCF.out.2; omega); rw [decide_eq_true rfl] at hs13; have HS13 := Lib.hid hs13; obtain ⟨A13, c13, rfl, _, _⟩ := hv13; clear hbx hs13)
    | (go_at_call 30; (with_reducible refine HS13.out.mono ?_); clear HS13; rintro e w14 ⟨rfl, hbx⟩; have HB14 := Lib.hid (HB13.out.trans (hbx.mono HB13.out.size)); have HV14 := Lib.hid (HV13.out.on hbx); have hma14 := mayAttrs_any (changeL l1 l2) _ w14 HV14.out (sm_may HCF.out.1) (by have := HCF.out.2; omega); rw [HCF.out.1] at hma14; have HMA14 := Lib.hid hma14; clear hbx hma14)
    | (go_at_call 15; (with_reducible refine HMA14.out.mono ?_); clear HMA14; rintro e w15 ⟨rfl, hbx⟩; have HB15 := Lib.hid (HB14.out.trans (hbx.mono HB14.out.size)); have HV15 := Lib.hid (HV14.out.on hbx); clear hbx; obtain ⟨a0, a1, b0, b1⟩ := HX.out _ HB15.out; simp only [List.getElem?_toArray, List.getElem?_cons_zero, List.getElem?_cons_succ] at a0 a1 b0 b1))
  have HVC : Hid (Ytlhbnmaalhainaa.RdK kA w15 w15.heap.size A12 (changeL l1 l2)) := Lib.hid (by
    obtain ⟨A', c', e', _, hr'⟩ := HV15.out
    injection e' with e1 e2 e3
    subst e1
    exact hr')
  have hq50 := HCF.out.2
  generalize changeL l1 l2 = cl at HVC HV15 HHY HTY hq50 ⊢
  obtain ⟨q, hq⟩ : ∃ q, q = cl.length := ⟨_, rfl⟩
  have HQC := Lib.hid hq
  rw [← hq] at HV15 hq50 ⊢
  clear hq
  go_loopw [21] (fun s21 wr => ∃ k : Nat, s21 = .int .i64 k ∧ k ≤ nb ∧ Hid (Below w15.heap.size w15 wr)) (fun s21 _ => nb - (intOf s21).toNat)
  case atStart => exact ⟨0, rfl, Nat.zero_le _, Lib.hid (Below.refl _ _)⟩
  case round =>
    obtain ⟨k, rfl, hk, HL⟩ := hrel
    have HBr := Lib.hid (HB15.out.trans (HL.out.mono HB15.out.size))
    clear a0 a1 b0 b1
    obtain ⟨a0, a1, b0, b1⟩ := HX.out _ HBr.out; simp only [List.getElem?_toArray, List.getElem?_cons_zero, List.getElem?_cons_succ] at a0 a1 b0 b1
    by_cases hlt : k < nb
    · have hkl : k < l2.length := by have := HNN.out; omega
      obtain ⟨bb, off, rfl, _, c0, c1⟩ := at_cells HRB.out HBr.out hkl
      have hmem : l2.getD k default ∈ l2 := by rw [getD_at l2 k hkl]; exact List.getElem_mem _
      have hhy := HHY.out _ hmem
      generalize l2.getD k default = y at c0 c1 hhy
      have h38 := fun W' (hb : Below wr.heap.size wr W') => has_any cl y _ W' ((HV15.out.on HL.out).on hb) (by have := HQC.out; omega)
      rw [hhy] at h38
      have hem := sx_empty y.v
      generalize decide (y.v = []) = rr at hem h38
      have e0 := cell_regrown c0
      have e1 := cell_regrown c1
      have e2 := cell_regrown b0
      have e3 := cell_regrown b1
      have cA := fun d os => Calls.regrown_of (h38 (grow (redrawn wr d) os) (below_regrown _ _ _))
      clear hmem hhy h38 c0 c1 a0 a1
      go_wp2_with fail
      refine wp_region_quiet_below (by kernel_rfl) (by kernel_rfl) ?_
      repeat
        with_reducible refine wpQuiet_step (fun K hK => ?_)
        go_simp
        first
          | (with_reducible refine hK _ ?_; clear hK K)
          | (rw [if_neg (by first | decide | (intro h; cases h))]; with_reducible refine hK _ ?_; clear hK K)
          | (apply Exists.intro; refine ⟨fun _ => ?_, hK _ ?_⟩; (first | with_reducible exact cA _ _); clear hK K)
      with_reducible refine wpQuiet_nil ?_
      rintro _ ⟨⟨dq, osq⟩, rfl⟩
      have HY1 := Lib.hid (HL.out.trans ((below_regrown wr dq osq).mono HL.out.size))
      clear e0 e1 e2 e3 cA hem
      generalize grow (redrawn wr dq) osq = y1 at HY1 ⊢
      go_wp2
      go_roundw
      case rel => exact ⟨k + 1, by go_num, by omega, HY1⟩
      case measure => simp [intOf]; omega
    · have hkn : k = nb := by omega
      subst hkn
      go_wp2
      obtain ⟨wq, hwq⟩ : ∃ wq : World, wq = wr := ⟨_, rfl⟩
      subst hwq
      clear a0 a1 b0 b1
      go_loopw [22] (fun s22 wr => ∃ i : Nat, s22 = .int .i64 i ∧ i ≤ q ∧ Hid (Below w15.heap.size w15 wr)) (fun s22 _ => q - (intOf s22).toNat)
      case atStart => exact ⟨0, rfl, Nat.zero_le _, HL⟩
      case round =>
        obtain ⟨i, rfl, hi, HL2⟩ := hrel
        have HBs := Lib.hid (HB15.out.trans (HL2.out.mono HB15.out.size))
        by_cases hlt2 : i < q
        · have hil : i < cl.length := by have := HQC.out; omega
          have hmx : cl.getD i default ∈ cl := by rw [getD_at cl i hil]; exact List.getElem_mem _
          have HTX := Lib.hid (HTY.out _ hmx)
          have HNB : Hid (l2.length = k) := Lib.hid HNN.out.2.symm
          generalize hgx : cl.getD i default = x at HTX
          have HGX := Lib.hid hgx
          clear hgx hmx
          go_wp2
          obtain ⟨wp, hwp⟩ : ∃ wp : World, wp = wr := ⟨_, rfl⟩
          subst hwp
          go_loopw [23, 24] (fun s23 s24 wr => ∃ j : Nat, s24 = .int .i64 j ∧ j ≤ k ∧ s23 = .bool (anyT l2 x j) ∧ Hid (Below w15.heap.size w15 wr)) (fun _ s24 _ => k - (intOf s24).toNat)
          case atStart => exact ⟨0, rfl, Nat.zero_le _, rfl, HL2⟩
          case round =>
            obtain ⟨j, rfl, hj, rfl, HL3⟩ := hrel
            have HBt := Lib.hid (HB15.out.trans (HL3.out.mono HB15.out.size))
            obtain ⟨a0, a1, b0, b1⟩ := HX.out _ HBt.out; simp only [List.getElem?_toArray, List.getElem?_cons_zero, List.getElem?_cons_succ] at a0 a1 b0 b1
            obtain ⟨bc, oc, rfl, _, x0, x1⟩ := at_cells HVC.out HL3.out hil
            rw [HGX.out] at x0 x1
            by_cases hlt3 : j < k
            · have hjl : j < l2.length := by have := HNN.out; omega
              obtain ⟨bb, off, rfl, _, c0, c1⟩ := at_cells HRB.out HBt.out hjl
              have HS := Lib.hid (anyT_succ (a := x) hjl)
              generalize l2.getD j default = y at c0 HS
              have hd := sx_beq y.t x.t
              have e0 := cell_regrown c0
              have e2 := cell_regrown b0
              have e3 := cell_regrown b1
              have e4 := cell_regrown x0
              generalize anyT l2 x j = r0 at HS ⊢
              generalize decide (y.t = x.t) = r1 at HS hd
              clear c0 c1 a0 a1 x0 x1
              cases r0 with
              | true =>
                go_wp2_with fail
                refine wp_region_quiet_below (by kernel_rfl) (by kernel_rfl) ?_
                repeat
                  with_reducible refine wpQuiet_step (fun K hK => ?_)
                  go_simp
                  first
                    | (with_reducible refine hK _ ?_; clear hK K)
                    | (rw [if_neg (by first | decide | (intro h; cases h))]; with_reducible refine hK _ ?_; clear hK K)
                with_reducible refine wpQuiet_nil ?_
                rintro _ ⟨⟨dq, osq⟩, rfl⟩
                have HY2 := Lib.hid (HL3.out.trans ((below_regrown wr dq osq).mono HL3.out.size))
                clear e0 e2 e3 e4 hd
                generalize grow (redrawn wr dq) osq = y2 at HY2 ⊢
                go_wp2
                go_roundw
                case rel => exact ⟨j + 1, by go_num, by omega, by rw [HS.out]; rfl, HY2⟩
                case measure => simp [intOf]; omega
              | false =>
                go_wp2_with fail
                refine wp_region_quiet_below (by kernel_rfl) (by kernel_rfl) ?_
                repeat
                  with_reducible refine wpQuiet_step (fun K hK => ?_)
                  go_simp
                  first
                    | (with_reducible refine hK _ ?_; clear hK K)
                    | (rw [if_neg (by first | decide | (intro h; cases h))]; with_reducible refine hK _ ?_; clear hK K)
                with_reducible refine wpQuiet_nil ?_
                rintro _ ⟨⟨dq, osq⟩, rfl⟩
                have HY2 := Lib.hid (HL3.out.trans ((below_regrown wr dq osq).mono HL3.out.size))
                clear e0 e2 e3 e4 hd
                generalize grow (redrawn wr dq) osq = y2 at HY2 ⊢
                go_wp2
                go_roundw
                case rel => exact ⟨j + 1, by go_num, by omega, by rw [HS.out]; simp, HY2⟩
                case measure => simp [intOf]; omega
            · have hjk : j = k := by omega
              subst hjk
              have HT1 := HTX
              rw [HNB.out] at HT1
              generalize anyT l2 x j = ty at HT1 ⊢
              have hlb := fun W' (hb : Below wr.heap.size wr W') => HLB.out x W' (HBt.out.trans (hb.mono HBt.out.size))
              have hla := fun W' (hb : Below wr.heap.size wr W') => HLA.out x W' (HBt.out.trans (hb.mono HBt.out.size))
              have e1 := cell_regrown a1
              have e2 := cell_regrown b0
              have e3 := cell_regrown b1
              have e4 := cell_regrown x0
              have e5 := cell_regrown x1
              cases ty with
              | true =>
                rw [decide_eq_true (HT1.out.1 rfl)] at hlb
                have cA := fun d os => Calls.regrown_of (hlb (grow (redrawn wr d) os) (below_regrown _ _ _))
                clear hlb hla a0 x0 x1
                go_wp2_with fail
                refine wp_region_quiet_below (by kernel_rfl) (by kernel_rfl) ?_
                repeat
                  with_reducible refine wpQuiet_step (fun K hK => ?_)
                  go_simp
                  first
                    | (with_reducible refine hK _ ?_; clear hK K)
                    | (rw [if_neg (by first | decide | (intro h; cases h))]; with_reducible refine hK _ ?_; clear hK K)
                    | (apply Exists.intro; refine ⟨fun _ => ?_, hK _ ?_⟩; (first | with_reducible exact cA _ _); clear hK K)
                with_reducible refine wpQuiet_nil ?_
                rintro _ ⟨⟨dq, osq⟩, rfl⟩
                have HY3 := Lib.hid (HL3.out.trans ((below_regrown wr dq osq).mono HL3.out.size))
                clear e1 e2 e3 e4 e5 cA
                generalize grow (redrawn wr dq) osq = y3 at HY3 ⊢
                go_wp2
                go_roundw
                case rel => exact ⟨i + 1, by go_num, by omega, HY3⟩
                case measure => simp [intOf]; omega
              | false =>
                rw [decide_eq_true (HT1.out.2 rfl)] at hla
                have cA := fun d os => Calls.regrown_of (hla (grow (redrawn wr d) os) (below_regrown _ _ _))
                clear hlb hla a0 x0 x1
                go_wp2_with fail
                refine wp_region_quiet_below (by kernel_rfl) (by kernel_rfl) ?_
                repeat
                  with_reducible refine wpQuiet_step (fun K hK => ?_)
                  go_simp
                  first
                    | (with_reducible refine hK _ ?_; clear hK K)
                    | (rw [if_neg (by first | decide | (intro h; cases h))]; with_reducible refine hK _ ?_; clear hK K)
                    | (apply Exists.intro; refine ⟨fun _ => ?_, hK _ ?_⟩; (first | with_reducible exact cA _ _); clear hK K)
                with_reducible refine wpQuiet_nil ?_
                rintro _ ⟨⟨dq, osq⟩, rfl⟩
                have HY3 := Lib.hid (HL3.out.trans ((below_regrown wr dq osq).mono HL3.out.size))
                clear e1 e2 e3 e4 e5 cA
                generalize grow (redrawn wr dq) osq = y3 at HY3 ⊢
                go_wp2
                go_roundw
                case rel => exact ⟨i + 1, by go_num, by omega, HY3⟩
                case measure => simp [intOf]; omega
        · go_wp2
          go_ret
          exact ⟨rfl, HB.out.trans (HBs.out.mono HB.out.size)⟩

set_option maxHeartbeats 20000000 in
theorem means_1111 (n1 : List UInt8) (l1 : List At) (va : Value) (n2 : List UInt8) (l2 : List At) (vb : Value) (A : Option Addr) (cc : Nat) (cb : List Int) (w : World) (hva : RdV w va l1) (hvb : RdV w vb l2) (hs1 : Sm l1) (hs2 : Sm l2) (hl1 : l1.length ≤ 9223372036854775807) (hl2 : l2.length ≤ 9223372036854775807) (hn1 : n1.length ≤ 9223372036854775807) (hn2 : n2.length ≤ 9223372036854775807) (hr : Rd w w.heap.size A cb) (hby : Byt cb) (hcl : cb.length ≤ 9223372036854775807) (h : AskM n1 l1 n2 l2 cb) (hma : mayE n1 l1 = true) (hmb : mayE n2 l2 = true) (n3 : List UInt8) (l3 : List At) (hmc : mayE n3 l3 = true) (hceq : cb = entB n3 l3) (hch : (changeR l1 l2).2 = 0) :
    KnownM w #[.agg #[.string (sx n1), va], .agg #[.string (sx n2), vb], .slice A cb.length cc] := by
  obtain ⟨q1, q2, q3, q4, q5⟩ := h
  have q6 := much_len q3
  have q7 := much_len q4
  have hb1 := (Below.refl w.heap.size w).alloc (Nat.le_refl _) (.cells #[.string (sx n1), va] 26)
  have hb2 := hb1.alloc hb1.size (.cells #[.string (sx n2), vb] 26)
  have kA0 := (Blk.new w 26 #[.string (sx n1), va]).alloc (.cells #[.string (sx n2), vb] 26)
  have kB0 := Blk.new (w.alloc (.cells #[.string (sx n1), va] 26)) 26 #[.string (sx n2), vb]
  rw [World.size_alloc] at kB0
  have hzW : ((w.alloc (.cells #[.string (sx n1), va] 26)).alloc (.cells #[.string (sx n2), vb] 26)).heap.size = w.heap.size + 2 := by simp
  generalize hW : (w.alloc (.cells #[.string (sx n1), va] 26)).alloc (.cells #[.string (sx n2), vb] 26) = W at hb2 kA0 kB0 hzW
  have HX := Lib.hid fun W' (hb : Below W.heap.size W W') => And.intro ((kA0.on hb).cell 0) (And.intro ((kA0.on hb).cell 1) (And.intro ((kB0.on hb).cell 0) ((kB0.on hb).cell 1)))
  have HK := Lib.hid fun W => known_any W
  have HB := Lib.hid hb2
  have HZ := Lib.hid hzW
  have HM1 := Lib.hid fun W' (hb : Below W.heap.size W W') => much_any l1 va W' ((hva.on hb2).on hb) hs1 hl1
  have HM2 := Lib.hid fun W' (hb : Below W.heap.size W W') => much_any l2 vb W' ((hvb.on hb2).on hb) hs2 hl2
  have z1 := sx_size n1
  have z2 := sx_size n2
  have HBA := Lib.hid fun W' (hb : Below W.heap.size W W') => bytes_yes n1 l1 va W' ((hva.on hb2).on hb) hma
  have HBB := Lib.hid fun W' (hb : Below W.heap.size W W') => bytes_yes n2 l2 vb W' ((hvb.on hb2).on hb) hmb
  have hrc0 := fun W' (hb : Below W.heap.size W W') => (show Rd W' W'.heap.size A cb from (((hr.below hb2).more hb2.size).below hb).more hb.size)
  subst hceq
  have HOC := Lib.hid fun W' (hb : Below W.heap.size W W') => of_yes A cc n3 l3 W' (hrc0 W' hb) hmc
  have HRC := Lib.hid hrc0
  have HCH := Lib.hid fun W' (hb : Below W.heap.size W W') => change_any l1 l2 va vb W' ((hva.on hb2).on hb) ((hvb.on hb2).on hb) hs1 hs2 (by omega) (by omega)
  obtain ⟨hc1, hc2, hc3, hc4⟩ := change_ok hch
  rw [hc1] at HCH
  have HCC := Lib.hid fun v' W' (hb : Below W.heap.size W W') (hv' : RdV W' v' (changeL l1 l2)) => change_any (changeL l1 l2) l2 v' vb W' hv' ((hvb.on hb2).on hb) (sm_may hc2) hs2 (by omega) (by omega)
  rw [hc3] at HCC
  have HCF := Lib.hid (And.intro hc2 hc4)
  have HHY := Lib.hid fun (y : At) (hy : y ∈ l2) => has_by (l := l1) hy
  have HTY := Lib.hid fun (x : At) (hx : x ∈ changeL l1 l2) => typed_in hx
  have HLA := Lib.hid fun y W' (hb : Below W.heap.size W W') => lhas_any l1 y va W' ((hva.on hb2).on hb) hl1
  have HLB := Lib.hid fun y W' (hb : Below W.heap.size W W') => lhas_any l2 y vb W' ((hvb.on hb2).on hb) hl2
  have HVV := Lib.hid fun W' (hb : Below W.heap.size W W') => And.intro ((hva.on hb2).on hb) ((hvb.on hb2).on hb)
  have HSA := Lib.hid (And.intro hma hmb)
  rw [q3] at HM1
  rw [q4] at HM2
  subst hW
  obtain ⟨Aa, ca, rfl, _, hra⟩ := hva
  obtain ⟨Ab, cv, rfl, _, hrb⟩ := hvb
  have HRB := Lib.hid (hrb.on hb2)
  obtain ⟨na, hna⟩ : ∃ na, na = l1.length := ⟨_, rfl⟩
  obtain ⟨nb, hnb⟩ : ∃ nb, nb = l2.length := ⟨_, rfl⟩
  have HNN := Lib.hid (And.intro hna hnb)
  have HQ := Lib.hid (And.intro q6 q7)
  have HQ2 := Lib.hid (And.intro hn1 hn2)
  rw [← hna] at HM1 HBA HBB HCH HX HB HZ HVV HM2 HOC HRB HCC HLA HLB HRC ⊢
  rw [← hnb] at HM1 HBA HBB HCH HX HB HZ HVV HM2 HOC HRB HCC HLA HLB HRC ⊢
  have q6' : na ≤ 120 := by omega
  have q7' : nb ≤ 120 := by omega
  clear hb1 hb2 kA0 kB0 hs1 hs2 hr hby hzW hrc0 hl1 hl2 hn1 hn2 hra hrb hna hnb q3 q4 q6 q7 hch hma hmb hc1 hc2 hc3 hc4
  generalize hW : (w.alloc (.cells #[.string (sx n1), .slice Aa na ca] 26)).alloc (.cells #[.string (sx n2), .slice Ab nb cv] 26) = W at HX HB HZ HVV HM1 HM2 HBA HBB HOC HCH HRB HCC HLA HLB HRC
  subst hW
  go_enter Try.func6, Try.ntmps6
  go_wp2_with (first
    | (go_at_call 10; (with_reducible refine (HK.out _).mono ?_); rintro e w1 ⟨rfl, hb1'⟩; have HB1 := Lib.hid hb1'; clear hb1'; obtain ⟨a0, a1, b0, b1⟩ := HX.out _ HB1.out; simp only [List.getElem?_toArray, List.getElem?_cons_zero, List.getElem?_cons_succ] at a0 a1 b0 b1)
    | (go_at_call 9; (with_reducible refine (HM1.out _ HB1.out).mono ?_); clear HM1 a0 a1 b0 b1; rintro e w2 ⟨rfl, hbx⟩; have HB2 := Lib.hid (HB1.out.trans (hbx.mono HB1.out.size)); clear hbx; obtain ⟨a0, a1, b0, b1⟩ := HX.out _ HB2.out; simp only [List.getElem?_toArray, List.getElem?_cons_zero, List.getElem?_cons_succ] at a0 a1 b0 b1)
    | (go_at_call 9; (with_reducible refine (HM2.out _ HB2.out).mono ?_); clear HM2 a0 a1 b0 b1; rintro e w3 ⟨rfl, hbx⟩; have HB3 := Lib.hid (HB2.out.trans (hbx.mono HB2.out.size)); clear hbx; obtain ⟨a0, a1, b0, b1⟩ := HX.out _ HB3.out; simp only [List.getElem?_toArray, List.getElem?_cons_zero, List.getElem?_cons_succ] at a0 a1 b0 b1)
    | (go_at_call 19; (with_reducible refine (HBA.out _ HB3.out).mono ?_); clear HBA; clear a0 a1 b0 b1; rintro e w4 ⟨Ax, cx, rfl, hrx, hbx⟩; have HRX := Lib.hid hrx; have HB4 := Lib.hid (HB3.out.trans (hbx.mono HB3.out.size)); clear hbx hrx; obtain ⟨a0, a1, b0, b1⟩ := HX.out _ HB4.out; simp only [List.getElem?_toArray, List.getElem?_cons_zero, List.getElem?_cons_succ] at a0 a1 b0 b1)
    | (go_at_call 19; (with_reducible refine (HBB.out _ HB4.out).mono ?_); clear HBB; clear a0 a1 b0 b1; rintro e w5 ⟨Ay, cy, rfl, hry, hbx⟩; have HRY := Lib.hid (Row.rdX hry); have HRX5 := Lib.hid (Row.rdX (Row.below HRX.out hbx)); have HOX := Lib.hid (of_yes Ax cx n1 l1 w5 HRX5.out HSA.out.1); have HB5 := Lib.hid (HB4.out.trans (hbx.mono HB4.out.size)); clear hbx hry; obtain ⟨a0, a1, b0, b1⟩ := HX.out _ HB5.out; simp only [List.getElem?_toArray, List.getElem?_cons_zero, List.getElem?_cons_succ] at a0 a1 b0 b1)
    | (go_at_call 23; (with_reducible refine (num_any _ _).mono ?_); rintro e wn ⟨rfl, rfl⟩)
    | (go_at_call 20; (with_reducible refine HOX.out.mono ?_); clear HOX; clear a0 a1 b0 b1; rintro e w6 ⟨Ad, cd, rfl, hvd, hbx⟩; have HB6 := Lib.hid (HB5.out.trans (hbx.mono HB5.out.size)); have H56 := Lib.hid hbx; have HVD := Lib.hid hvd; clear hbx hvd))
  have hd1 := (Below.refl w6.heap.size w6).alloc (Nat.le_refl _) (.cells #[.string (sx n1), .slice Ad l1.length cd] 26)
  have HB7 := Lib.hid (HB6.out.trans (hd1.mono HB6.out.size))
  have kD := Blk.new w6 26 #[.string (sx n1), .slice Ad l1.length cd]
  have f0 : (w6.alloc (.cells #[.string (sx n1), .slice Ad l1.length cd] 26)).cell? ⟨w6.heap.size, 0, none⟩ = some (.string (sx n1)) := kD.cell 0
  have f1 : (w6.alloc (.cells #[.string (sx n1), .slice Ad l1.length cd] 26)).cell? ⟨w6.heap.size, 1, none⟩ = some (.slice Ad l1.length cd) := kD.cell 1
  have hvd7 := HVD.out.on hd1
  have hrx7 : Rd _ _ Ax (entB n1 l1) := ((HRX5.out.below H56.out).more H56.out.size).below hd1 |>.more hd1.size
  have hry7 : Rd _ _ Ay (entB n2 l2) := ((HRY.out.below H56.out).more H56.out.size).below hd1 |>.more hd1.size
  generalize w6.alloc (.cells #[.string (sx n1), .slice Ad l1.length cd] 26) = W7 at HB7 f0 f1 hvd7 hrx7 hry7 ⊢
  obtain ⟨a0, a1, b0, b1⟩ := HX.out _ HB7.out; simp only [List.getElem?_toArray, List.getElem?_cons_zero, List.getElem?_cons_succ] at a0 a1 b0 b1
  have e0 := cell_regrown a0
  have e1 := cell_regrown a1
  have e2 := cell_regrown b0
  have e3 := cell_regrown b1
  have e4 := cell_regrown f0
  have e5 := cell_regrown f1
  have hvv := HVV.out _ HB7.out
  have h22 := fun W' (hb : Below W7.heap.size W7 W') => refSameE_any n1 n1 l1 l1 _ _ W' (hvd7.on hb) (hvv.1.on hb) (by have := HNN.out; omega) (by have := HNN.out; omega)
  rw [decide_eq_true rfl, decide_eq_true rfl, Bool.true_and] at h22
  have cS := fun d os => Calls.regrown_of (h22 (grow (redrawn W7 d) os) (below_regrown _ _ _))
  have cN := fun (x : Int) d os => Calls.regrown_of ((num_any x (grow (redrawn W7 d) os)).mono fun e w' (h : _ ∧ _ = w') => (⟨h.1, h.2 ▸ Below.refl _ _⟩ : e = .returned (.int .i64 x) ∧ Below (grow (redrawn W7 d) os).heap.size (grow (redrawn W7 d) os) w'))
  have h22b := fun W' (hb : Below W7.heap.size W7 W') => refSameE_any n1 n2 l1 l2 _ _ W' (hvv.1.on hb) (hvv.2.on hb) (by have := HNN.out; omega) (by have := HNN.out; omega)
  have hbeq := ent_beq HSA.out.1 HSA.out.2
  generalize (decide (n1 = n2) && decide (l1 = l2)) = rs at h22b hbeq
  have cT := fun d os => Calls.regrown_of (h22b (grow (redrawn W7 d) os) (below_regrown _ _ _))
  have hcx := fun d os => conv_of (grow (redrawn W7 d) os) Ax cx _ _ ((hrx7.below (below_regrown W7 d os)).more (below_regrown W7 d os).size) (by cases Ax <;> simp)
  have hcy := fun d os => conv_of (grow (redrawn W7 d) os) Ay cy _ _ ((hry7.below (below_regrown W7 d os)).more (below_regrown W7 d os).size) (by cases Ay <;> simp)
  clear h22b hry7
  clear hd1 kD f0 f1 h22 hvd7 hrx7 hvv a0 a1 b0 b1
  go_wp2_with fail
  refine wp_region_quiet_below (by kernel_rfl) (by kernel_rfl) ?_
  repeat
    with_reducible refine wpQuiet_step (fun K hK => ?_)
    go_simp
    first
      | (with_reducible refine hK _ ?_; clear hK K)
      | (rw [if_neg (by first | decide | (intro h; cases h))]; with_reducible refine hK _ ?_; clear hK K)
      | (apply Exists.intro; refine ⟨fun _ => ?_, hK _ ?_⟩; (first | with_reducible exact cN _ _ _ | with_reducible exact cS _ _ | with_reducible exact cT _ _); clear hK K)
  with_reducible refine wpQuiet_nil ?_
  rintro _ ⟨⟨dq, osq⟩, rfl⟩
  have HB8 := Lib.hid (HB7.out.trans ((below_regrown W7 dq osq).mono HB7.out.size))
  clear e0 e1 e2 e3 e4 e5 cS cN cT hcx hcy hbeq
  generalize grow (redrawn W7 dq) osq = w8 at HB8 ⊢
  go_wp2_with (first
    | (go_at_call 20; (with_reducible refine (HOC.out _ HB8.out).mono ?_); clear HOC; rintro e w9 ⟨Ae, ce, rfl, hve, hbx⟩; have HB9 := Lib.hid (HB8.out.trans (hbx.mono HB8.out.size)); have hba := (Below.refl w9.heap.size w9).alloc (Nat.le_refl _) (.cells #[.string (sx n3), .slice Ae l3.length ce] 26); have HBZ := Lib.hid (bytes_yes n3 l3 _ _ (hve.on hba) hmc); have HB10 := Lib.hid (HB9.out.trans (hba.mono HB9.out.size)); have g0 : (w9.alloc (.cells #[.string (sx n3), .slice Ae l3.length ce] 26)).cell? ⟨w9.heap.size, 0, none⟩ = some (.string (sx n3)) := (Blk.new w9 26 #[.string (sx n3), .slice Ae l3.length ce]).cell 0; have g1 : (w9.alloc (.cells #[.string (sx n3), .slice Ae l3.length ce] 26)).cell? ⟨w9.heap.size, 1, none⟩ = some (.slice Ae l3.length ce) := (Blk.new w9 26 #[.string (sx n3), .slice Ae l3.length ce]).cell 1; clear hbx hba hve)
    | (go_at_call 23; (with_reducible refine (num_any _ _).mono ?_); rintro e wn ⟨rfl, rfl⟩)
    | (go_at_call 19; (with_reducible refine HBZ.out.mono ?_); clear HBZ g0 g1; rintro e w11 ⟨Az, cz, rfl, hrz, hbx⟩; have HB11 := Lib.hid (HB10.out.trans (hbx.mono HB10.out.size)); have hcz := conv_of w11 Az cz _ _ (Row.rdX hrz) (by cases Az <;> simp); have hcc := conv_of w11 A cc _ _ (HRC.out _ HB11.out) (by cases A <;> simp); clear hbx hrz; obtain ⟨a0, a1, b0, b1⟩ := HX.out _ HB11.out; simp only [List.getElem?_toArray, List.getElem?_cons_zero, List.getElem?_cons_succ] at a0 a1 b0 b1)
    | (go_at_call 32; (with_reducible refine (HCH.out _ HB11.out).mono ?_); clear HCH; clear a0 a1 b0 b1; rintro e w12 ⟨v12, rfl, hv12, hbx⟩; have HB12 := Lib.hid (HB11.out.trans (hbx.mono HB11.out.size)); have HV12 := Lib.hid hv12; have HC2 := Lib.hid (HCC.out v12 w12 HB12.out hv12); obtain ⟨A12, c12, rfl, _, _⟩ := hv12; clear hbx HCC; obtain ⟨a0, a1, b0, b1⟩ := HX.out _ HB12.out; simp only [List.getElem?_toArray, List.getElem?_cons_zero, List.getElem?_cons_succ] at a0 a1 b0 b1)
    | (go_at_call 32; (with_reducible refine HC2.out.mono ?_); clear HC2; clear a0 a1 b0 b1; rintro e w13 ⟨v13, rfl, hv13, hbx⟩; have HB13 := Lib.hid (HB12.out.trans (hbx.mono HB12.out.size)); have HV13 := Lib.hid (HV12.out.on hbx); have hs13 := refSame_any (changeL l1 l2) (changeL l1 l2) _ _ w13 HV13.out hv13 (by have := HCF.out.2; omega) (by have := HCF.out.2; omega); rw [decide_eq_true rfl] at hs13; have HS13 := Lib.hid hs13; obtain ⟨A13, c13, rfl, _, _⟩ := hv13; clear hbx hs13)
    | (go_at_call 30; (with_reducible refine HS13.out.mono ?_); clear HS13; rintro e w14 ⟨rfl, hbx⟩; have HB14 := Lib.hid (HB13.out.trans (hbx.mono HB13.out.size)); have HV14 := Lib.hid (HV13.out.on hbx); have hma14 := mayAttrs_any (changeL l1 l2) _ w14 HV14.out (sm_may HCF.out.1) (by have := HCF.out.2; omega); rw [HCF.out.1] at hma14; have HMA14 := Lib.hid hma14; clear hbx hma14)
    | (go_at_call 15; (with_reducible refine HMA14.out.mono ?_); clear HMA14; rintro e w15 ⟨rfl, hbx⟩; have HB15 := Lib.hid (HB14.out.trans (hbx.mono HB14.out.size)); have HV15 := Lib.hid (HV14.out.on hbx); clear hbx; obtain ⟨a0, a1, b0, b1⟩ := HX.out _ HB15.out; simp only [List.getElem?_toArray, List.getElem?_cons_zero, List.getElem?_cons_succ] at a0 a1 b0 b1))
  have HVC : Hid (Ytlhbnmaalhainaa.RdK kA w15 w15.heap.size A12 (changeL l1 l2)) := Lib.hid (by
    obtain ⟨A', c', e', _, hr'⟩ := HV15.out
    injection e' with e1 e2 e3
    subst e1
    exact hr')
  have hq50 := HCF.out.2
  generalize changeL l1 l2 = cl at HVC HV15 HHY HTY hq50 ⊢
  obtain ⟨q, hq⟩ : ∃ q, q = cl.length := ⟨_, rfl⟩
  have HQC := Lib.hid hq
  rw [← hq] at HV15 hq50 ⊢
  clear hq
  go_loopw [21] (fun s21 wr => ∃ k : Nat, s21 = .int .i64 k ∧ k ≤ nb ∧ Hid (Below w15.heap.size w15 wr)) (fun s21 _ => nb - (intOf s21).toNat)
  case atStart => exact ⟨0, rfl, Nat.zero_le _, Lib.hid (Below.refl _ _)⟩
  case round =>
    obtain ⟨k, rfl, hk, HL⟩ := hrel
    have HBr := Lib.hid (HB15.out.trans (HL.out.mono HB15.out.size))
    clear a0 a1 b0 b1
    obtain ⟨a0, a1, b0, b1⟩ := HX.out _ HBr.out; simp only [List.getElem?_toArray, List.getElem?_cons_zero, List.getElem?_cons_succ] at a0 a1 b0 b1
    by_cases hlt : k < nb
    · have hkl : k < l2.length := by have := HNN.out; omega
      obtain ⟨bb, off, rfl, _, c0, c1⟩ := at_cells HRB.out HBr.out hkl
      have hmem : l2.getD k default ∈ l2 := by rw [getD_at l2 k hkl]; exact List.getElem_mem _
      have hhy := HHY.out _ hmem
      generalize l2.getD k default = y at c0 c1 hhy
      have h38 := fun W' (hb : Below wr.heap.size wr W') => has_any cl y _ W' ((HV15.out.on HL.out).on hb) (by have := HQC.out; omega)
      rw [hhy] at h38
      have hem := sx_empty y.v
      generalize decide (y.v = []) = rr at hem h38
      have e0 := cell_regrown c0
      have e1 := cell_regrown c1
      have e2 := cell_regrown b0
      have e3 := cell_regrown b1
      have cA := fun d os => Calls.regrown_of (h38 (grow (redrawn wr d) os) (below_regrown _ _ _))
      clear hmem hhy h38 c0 c1 a0 a1
      go_wp2_with fail
      refine wp_region_quiet_below (by kernel_rfl) (by kernel_rfl) ?_
      repeat
        with_reducible refine wpQuiet_step (fun K hK => ?_)
        go_simp
        first
          | (with_reducible refine hK _ ?_; clear hK K)
          | (rw [if_neg (by first | decide | (intro h; cases h))]; with_reducible refine hK _ ?_; clear hK K)
          | (apply Exists.intro; refine ⟨fun _ => ?_, hK _ ?_⟩; (first | with_reducible exact cA _ _); clear hK K)
      with_reducible refine wpQuiet_nil ?_
      rintro _ ⟨⟨dq, osq⟩, rfl⟩
      have HY1 := Lib.hid (HL.out.trans ((below_regrown wr dq osq).mono HL.out.size))
      clear e0 e1 e2 e3 cA hem
      generalize grow (redrawn wr dq) osq = y1 at HY1 ⊢
      go_wp2
      go_roundw
      case rel => exact ⟨k + 1, by go_num, by omega, HY1⟩
      case measure => simp [intOf]; omega
    · have hkn : k = nb := by omega
      subst hkn
      go_wp2
      obtain ⟨wq, hwq⟩ : ∃ wq : World, wq = wr := ⟨_, rfl⟩
      subst hwq
      clear a0 a1 b0 b1
      go_loopw [22] (fun s22 wr => ∃ i : Nat, s22 = .int .i64 i ∧ i ≤ q ∧ Hid (Below w15.heap.size w15 wr)) (fun s22 _ => q - (intOf s22).toNat)
      case atStart => exact ⟨0, rfl, Nat.zero_le _, HL⟩
      case round =>
        obtain ⟨i, rfl, hi, HL2⟩ := hrel
        have HBs := Lib.hid (HB15.out.trans (HL2.out.mono HB15.out.size))
        by_cases hlt2 : i < q
        · have hil : i < cl.length := by have := HQC.out; omega
          have hmx : cl.getD i default ∈ cl := by rw [getD_at cl i hil]; exact List.getElem_mem _
          have HTX := Lib.hid (HTY.out _ hmx)
          have HNB : Hid (l2.length = k) := Lib.hid HNN.out.2.symm
          generalize hgx : cl.getD i default = x at HTX
          have HGX := Lib.hid hgx
          clear hgx hmx
          go_wp2
          obtain ⟨wp, hwp⟩ : ∃ wp : World, wp = wr := ⟨_, rfl⟩
          subst hwp
          go_loopw [23, 24] (fun s23 s24 wr => ∃ j : Nat, s24 = .int .i64 j ∧ j ≤ k ∧ s23 = .bool (anyT l2 x j) ∧ Hid (Below w15.heap.size w15 wr)) (fun _ s24 _ => k - (intOf s24).toNat)
          case atStart => exact ⟨0, rfl, Nat.zero_le _, rfl, HL2⟩
          case round =>
            obtain ⟨j, rfl, hj, rfl, HL3⟩ := hrel
            have HBt := Lib.hid (HB15.out.trans (HL3.out.mono HB15.out.size))
            obtain ⟨a0, a1, b0, b1⟩ := HX.out _ HBt.out; simp only [List.getElem?_toArray, List.getElem?_cons_zero, List.getElem?_cons_succ] at a0 a1 b0 b1
            obtain ⟨bc, oc, rfl, _, x0, x1⟩ := at_cells HVC.out HL3.out hil
            rw [HGX.out] at x0 x1
            by_cases hlt3 : j < k
            · have hjl : j < l2.length := by have := HNN.out; omega
              obtain ⟨bb, off, rfl, _, c0, c1⟩ := at_cells HRB.out HBt.out hjl
              have HS := Lib.hid (anyT_succ (a := x) hjl)
              generalize l2.getD j default = y at c0 HS
              have hd := sx_beq y.t x.t
              have e0 := cell_regrown c0
              have e2 := cell_regrown b0
              have e3 := cell_regrown b1
              have e4 := cell_regrown x0
              generalize anyT l2 x j = r0 at HS ⊢
              generalize decide (y.t = x.t) = r1 at HS hd
              clear c0 c1 a0 a1 x0 x1
              cases r0 with
              | true =>
                go_wp2_with fail
                refine wp_region_quiet_below (by kernel_rfl) (by kernel_rfl) ?_
                repeat
                  with_reducible refine wpQuiet_step (fun K hK => ?_)
                  go_simp
                  first
                    | (with_reducible refine hK _ ?_; clear hK K)
                    | (rw [if_neg (by first | decide | (intro h; cases h))]; with_reducible refine hK _ ?_; clear hK K)
                with_reducible refine wpQuiet_nil ?_
                rintro _ ⟨⟨dq, osq⟩, rfl⟩
                have HY2 := Lib.hid (HL3.out.trans ((below_regrown wr dq osq).mono HL3.out.size))
                clear e0 e2 e3 e4 hd
                generalize grow (redrawn wr dq) osq = y2 at HY2 ⊢
                go_wp2
                go_roundw
                case rel => exact ⟨j + 1, by go_num, by omega, by rw [HS.out]; rfl, HY2⟩
                case measure => simp [intOf]; omega
              | false =>
                go_wp2_with fail
                refine wp_region_quiet_below (by kernel_rfl) (by kernel_rfl) ?_
                repeat
                  with_reducible refine wpQuiet_step (fun K hK => ?_)
                  go_simp
                  first
                    | (with_reducible refine hK _ ?_; clear hK K)
                    | (rw [if_neg (by first | decide | (intro h; cases h))]; with_reducible refine hK _ ?_; clear hK K)
                with_reducible refine wpQuiet_nil ?_
                rintro _ ⟨⟨dq, osq⟩, rfl⟩
                have HY2 := Lib.hid (HL3.out.trans ((below_regrown wr dq osq).mono HL3.out.size))
                clear e0 e2 e3 e4 hd
                generalize grow (redrawn wr dq) osq = y2 at HY2 ⊢
                go_wp2
                go_roundw
                case rel => exact ⟨j + 1, by go_num, by omega, by rw [HS.out]; simp, HY2⟩
                case measure => simp [intOf]; omega
            · have hjk : j = k := by omega
              subst hjk
              have HT1 := HTX
              rw [HNB.out] at HT1
              generalize anyT l2 x j = ty at HT1 ⊢
              have hlb := fun W' (hb : Below wr.heap.size wr W') => HLB.out x W' (HBt.out.trans (hb.mono HBt.out.size))
              have hla := fun W' (hb : Below wr.heap.size wr W') => HLA.out x W' (HBt.out.trans (hb.mono HBt.out.size))
              have e1 := cell_regrown a1
              have e2 := cell_regrown b0
              have e3 := cell_regrown b1
              have e4 := cell_regrown x0
              have e5 := cell_regrown x1
              cases ty with
              | true =>
                rw [decide_eq_true (HT1.out.1 rfl)] at hlb
                have cA := fun d os => Calls.regrown_of (hlb (grow (redrawn wr d) os) (below_regrown _ _ _))
                clear hlb hla a0 x0 x1
                go_wp2_with fail
                refine wp_region_quiet_below (by kernel_rfl) (by kernel_rfl) ?_
                repeat
                  with_reducible refine wpQuiet_step (fun K hK => ?_)
                  go_simp
                  first
                    | (with_reducible refine hK _ ?_; clear hK K)
                    | (rw [if_neg (by first | decide | (intro h; cases h))]; with_reducible refine hK _ ?_; clear hK K)
                    | (apply Exists.intro; refine ⟨fun _ => ?_, hK _ ?_⟩; (first | with_reducible exact cA _ _); clear hK K)
                with_reducible refine wpQuiet_nil ?_
                rintro _ ⟨⟨dq, osq⟩, rfl⟩
                have HY3 := Lib.hid (HL3.out.trans ((below_regrown wr dq osq).mono HL3.out.size))
                clear e1 e2 e3 e4 e5 cA
                generalize grow (redrawn wr dq) osq = y3 at HY3 ⊢
                go_wp2
                go_roundw
                case rel => exact ⟨i + 1, by go_num, by omega, HY3⟩
                case measure => simp [intOf]; omega
              | false =>
                rw [decide_eq_true (HT1.out.2 rfl)] at hla
                have cA := fun d os => Calls.regrown_of (hla (grow (redrawn wr d) os) (below_regrown _ _ _))
                clear hlb hla a0 x0 x1
                go_wp2_with fail
                refine wp_region_quiet_below (by kernel_rfl) (by kernel_rfl) ?_
                repeat
                  with_reducible refine wpQuiet_step (fun K hK => ?_)
                  go_simp
                  first
                    | (with_reducible refine hK _ ?_; clear hK K)
                    | (rw [if_neg (by first | decide | (intro h; cases h))]; with_reducible refine hK _ ?_; clear hK K)
                    | (apply Exists.intro; refine ⟨fun _ => ?_, hK _ ?_⟩; (first | with_reducible exact cA _ _); clear hK K)
                with_reducible refine wpQuiet_nil ?_
                rintro _ ⟨⟨dq, osq⟩, rfl⟩
                have HY3 := Lib.hid (HL3.out.trans ((below_regrown wr dq osq).mono HL3.out.size))
                clear e1 e2 e3 e4 e5 cA
                generalize grow (redrawn wr dq) osq = y3 at HY3 ⊢
                go_wp2
                go_roundw
                case rel => exact ⟨i + 1, by go_num, by omega, HY3⟩
                case measure => simp [intOf]; omega
        · go_wp2
          go_ret
          exact ⟨rfl, HB.out.trans (HBs.out.mono HB.out.size)⟩
end Go.Proofs.Ytlhbnmaalhainaa.Tlv
