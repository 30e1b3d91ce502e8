/- The law on bytes: its walks. -/
import Derived.Test.YtlhbnmaalhainaaTEB1
import Derived.Deep.RegionLaw
import Derived.Deep.DeepCutAuto
namespace Go.Proofs.Ytlhbnmaalhainaa.Tlv
open Go.RowKit Go.Lib Go.Sort
set_option maxRecDepth 100000
set_option linter.unusedVariables false
set_option linter.unusedSimpArgs false

set_option maxHeartbeats 40000000 in
theorem bytes_001 (n1 : List UInt8) (l1 : List At) (va : Value) (A : Option Addr) (c : Nat) (cb : List Int) (tag : Int) (w : World) (hva : RdV w va l1) (hs1 : Sm l1) (hn1 : n1.length ≤ 9000) (hm : muchV l1 = false) (hr : Rd w w.heap.size A cb) (hc : cb.length ≤ c) (hcm : c ≤ 9223372036854775807) (hcl : cb.length ≤ 20000) (ht0 : 0 < tag) (ht : tag ≤ 255) (hma : mayE n1 l1 = false) (hml : mayL l1 = true) (hby : Byt cb) (hno : ∀ name at', mayE name at' = true → cb ≠ entB name at') :
    KnownB w #[.agg #[.string (sx n1), va], .slice A cb.length c, .int .u8 tag] := by
  have q6 := much_len hm
  obtain ⟨hfew, hsm⟩ := few_much hm
  have hb1 := (Below.refl w.heap.size w).alloc (Nat.le_refl _) (.cells #[.string (sx n1), va] 26)
  have k0 := Blk.new w 26 #[.string (sx n1), va]
  have hzW : (w.alloc (.cells #[.string (sx n1), va] 26)).heap.size = w.heap.size + 1 := by simp
  generalize hW : w.alloc (.cells #[.string (sx n1), va] 26) = W0 at hb1 k0 hzW
  have HX := Lib.hid fun W (hb : Below W0.heap.size W0 W) => And.intro ((k0.on hb).cell 0) ((k0.on hb).cell 1)
  have HV := Lib.hid fun W (hb : Below W0.heap.size W0 W) => (hva.on hb1).on hb
  have HK := Lib.hid fun W => known_any W
  have HB := Lib.hid hb1
  have HM := Lib.hid fun W (hb : Below W0.heap.size W0 W) => much_any l1 va W ((hva.on hb1).on hb) hs1 (by omega)
  rw [hm] at HM
  have HMA := Lib.hid fun W (hb : Below W0.heap.size W0 W) => refMayAttrs_any l1 va W ((hva.on hb1).on hb) hs1 (by omega)
  have HME := Lib.hid fun W (hb : Below W0.heap.size W0 W) => refMayEntry_any n1 l1 va W ((hva.on hb1).on hb) (by omega) hs1 (by omega)
  rw [hml] at HMA
  rw [hma] at HME
  have hrc0 := fun W (hb : Below W0.heap.size W0 W) => (show Rd W W.heap.size A cb from (((hr.below hb1).more hb1.size).below hb).more hb.size)
  have HBA := Lib.hid fun W (hb : Below W0.heap.size W0 W) => bytes_no n1 l1 va W ((hva.on hb1).on hb) (by omega) hs1 (by omega) hma
  have HOC := Lib.hid fun W (hb : Below W0.heap.size W0 W) => of_no A c cb W (hrc0 W hb) hby (by omega) hno
  have HSN := Lib.hid same_nil
  have HRO := Lib.hid fun W (hb : Below W0.heap.size W0 W) => refOf_no A c cb W (hrc0 W hb) hby (by omega) hc hcm hno
  have HFEW := Lib.hid (And.intro hfew hsm)
  have z1 := sx_size n1
  have hlB : (valB tag (atsB l1)).length ≤ 300000 := by
    rw [valB_length, atsB_len]
    have h5 := hfew.many
    have h6 := hfew.sum
    omega
  have HLB := Lib.hid hlB
  have HBYB := Lib.hid (byt_valB (Int.le_of_lt ht0) ht (byt_ats l1 hsm) (by have := hlB; rw [valB_length] at this; omega))
  have hmn : (n1.length ≤ 9000) := hn1
  have hva2 := hva
  obtain ⟨Aa, ca, rfl, _, _⟩ := hva2
  obtain ⟨na, hna⟩ : ∃ na, na = l1.length := ⟨_, rfl⟩
  obtain ⟨nb, hnb⟩ : ∃ nb, nb = cb.length := ⟨_, rfl⟩
  rw [← hna] at HX HV HM HMA HME HBA hW ⊢
  rw [← hnb] at HOC HRO hcl hc ⊢
  have HNA := Lib.hid hna
  have hna2 : na ≤ 120 := by omega
  have htz : (tag == 0) = false := by simp; omega
  have HML := Lib.hid hml
  clear hb1 k0 hs1 hr hzW hrc0 hlB hna hnb q6 hfew hsm hva hma hml hm hn1 hby hno
  subst hW
  go_enter Try.func4, Try.ntmps4
  go_upto_region 11 with (first
    | (go_at_call 9; (with_reducible refine (HM.out _ (Below.refl _ _)).mono ?_); clear HM; rintro e w2 ⟨rfl, hbx⟩; have HB2 := Lib.hid hbx; clear hbx; obtain ⟨a0, a1⟩ := HX.out _ HB2.out; simp only [List.getElem?_toArray, List.getElem?_cons_zero, List.getElem?_cons_succ] at a0 a1)
    | (go_at_call 19; (with_reducible refine (HBA.out _ HB2.out).mono ?_); clear HBA a0 a1; rintro e w3 ⟨rfl, hbx⟩; have HB3 := Lib.hid (HB2.out.trans (hbx.mono HB2.out.size)); clear hbx; obtain ⟨a0, a1⟩ := HX.out _ HB3.out; simp only [List.getElem?_toArray, List.getElem?_cons_zero, List.getElem?_cons_succ] at a0 a1)
    | (go_at_call 20; (with_reducible refine (HOC.out _ HB3.out).mono ?_); clear HOC a0 a1; rintro e w4 ⟨rfl, hbx⟩; have hba := (Below.refl w4.heap.size w4).alloc (Nat.le_refl _) (.cells #[.string ⟨#[]⟩, .slice none 0 0] 26); have HBk4 := Lib.hid (hbx.trans (hba.mono hbx.size)); have HY := Lib.hid (Blk.new w4 26 #[.string ⟨#[]⟩, .slice none 0 0]); clear hbx hba; have hbw := HB3.out.trans (HBk4.out.mono HB3.out.size); have HB4 := Lib.hid hbw; clear hbw; obtain ⟨a0, a1⟩ := HX.out _ HB4.out; simp only [List.getElem?_toArray, List.getElem?_cons_zero, List.getElem?_cons_succ] at a0 a1)
    | (go_at_call 21; (with_reducible refine (HRO.out _ HB4.out).mono ?_); clear HRO a0 a1; rintro e w5 ⟨rfl, hbx⟩; have hba := (Below.refl w5.heap.size w5).alloc (Nat.le_refl _) (.cells #[.string ⟨#[]⟩, .slice none 0 0] 26); have hbz := hbx.trans (hba.mono hbx.size); have HY2 := Lib.hid (HY.out.on hbz); have HZ := Lib.hid (Blk.new w5 26 #[.string ⟨#[]⟩, .slice none 0 0]); have HBk5 := Lib.hid (HBk4.out.trans (hbz.mono HBk4.out.size)); have y0 := HY2.out.cell 0; have y1 := HY2.out.cell 1; have x0 := HZ.out.cell 0; have x1 := HZ.out.cell 1; clear hbx hba hbz; have HB5 := Lib.hid (HB3.out.trans (HBk5.out.mono HB3.out.size)); have HSE := HSN.out (w5.alloc (.cells #[.string ⟨#[]⟩, .slice none 0 0] 26)); have HSE := Lib.hid HSE; simp only [List.getElem?_toArray, List.getElem?_cons_zero, List.getElem?_cons_succ] at y0 y1 x0 x1)
    | (go_at_call 22; (with_reducible refine HSE.out.mono ?_); clear HSE y0 y1 x0 x1; rintro e w6 ⟨rfl, hbx⟩; have HBk6 := Lib.hid (HBk5.out.trans (hbx.mono HBk5.out.size)); clear hbx; have hba := (Below.refl w6.heap.size w6).alloc (Nat.le_refl _) (.cells #[.slice none 0 0, .int .i64 0, .int .i64 0] 45); have HBk6a := Lib.hid (HBk6.out.trans (hba.mono HBk6.out.size)); clear hba; have HB6 := Lib.hid (HB3.out.trans (HBk6a.out.mono HB3.out.size)); have hws : WS (w6.alloc (.cells #[.slice none 0 0, .int .i64 0, .int .i64 0] 45)) w6.heap.size w6.heap.size (some []) 0 := ⟨_, Blk.new w6 45 #[.slice none 0 0, .int .i64 0, .int .i64 0], World.ownsRow_nil _ _ _ _⟩; have HP := Lib.hid (put_any w6.heap.size w6.heap.size 0 (some []) tag l1 _ _ hws (by simp) (HV.out _ HB6.out) HFEW.out.1 (Nat.le_refl _) (Int.le_of_lt ht0) ht (fun q e => by injection e with e; subst e; simp) (by omega)); clear hws; obtain ⟨a0, a1⟩ := HX.out _ HB6.out; simp only [List.getElem?_toArray, List.getElem?_cons_zero, List.getElem?_cons_succ] at a0 a1)
    | (go_at_call 23; (with_reducible refine (num_any _ _).mono ?_); rintro e wn ⟨rfl, rfl⟩)
    | (go_at_call 24; (with_reducible refine HP.out.mono ?_); clear HP a0 a1; rintro e w8 ⟨⟨u8, rfl⟩, hs8, hwb8⟩; have HWB8 := Lib.hid ((Below.refl w6.heap.size w6).alloc (Nat.le_refl _) (.cells #[.slice none 0 0, .int .i64 0, .int .i64 0] 45) |>.trans hwb8.bel); have HBk8 := Lib.hid (HBk6.out.trans (HWB8.out.mono HBk6.out.size)); have HB8 := Lib.hid (HB3.out.trans (HBk8.out.mono HB3.out.size)); rw [puts_ok (by omega)] at hs8; obtain ⟨v8, hblk8, hrow8⟩ := hs8; have HE8 := Lib.hid (end_ok _ _ _ _ _ _ hblk8 hrow8 (Nat.le_trans HLB.out (by decide))); clear hwb8 hblk8 hrow8; obtain ⟨a0, a1⟩ := HX.out _ HB8.out; simp only [List.getElem?_toArray, List.getElem?_cons_zero, List.getElem?_cons_succ] at a0 a1)
    | (go_at_call 25; (with_reducible refine HE8.out.mono ?_); clear HE8 a0 a1; rintro e w9 ⟨v9, rfl, hr9, hbx⟩; have HBk9 := Lib.hid (HBk8.out.trans (hbx.mono HBk8.out.size)); have HB9 := Lib.hid (HB3.out.trans (HBk9.out.mono HB3.out.size)); obtain ⟨A9, c9, rfl, h9c, hrd9⟩ := hr9.rd; have HR9 := Lib.hid hrd9; clear hbx hr9 hrd9 h9c; obtain ⟨a0, a1⟩ := HX.out _ HB9.out; simp only [List.getElem?_toArray, List.getElem?_cons_zero, List.getElem?_cons_succ] at a0 a1))
  have HLL := Lib.hid (show (valB tag (atsB l1)).length = (valB tag (atsB l1)).length from rfl)
  obtain ⟨L, hL⟩ : ∃ L, L = valB tag (atsB l1) := ⟨_, rfl⟩
  have HL := Lib.hid hL
  rw [← hL] at HR9 HLB HBYB ⊢
  clear hL HLL
  have hlL := HLB.out
  obtain ⟨kL, hkL⟩ : ∃ k, k = L.length := ⟨_, rfl⟩
  have HKL := Lib.hid hkL
  have hcq0 := conv_of w9 A9 c9 _ L HR9.out (by cases A9 <;> simp)
  have hcq1 := conv_of w9.drew A9 c9 _ L HR9.out (by cases A9 <;> simp)
  have hd9 : Below w9.heap.size w9 w9.drew := below_drew (Below.refl _ _)
  have HRA : Hid (Calls Try.prog 26 #[.int .u8 tag, .slice Aa na ca] w9.drew fun e w' => ∃ A c, e = .returned (.slice A kL c) ∧ Below w9.heap.size w9 w' ∧ (∀ s, s = mkS L → ((convert 33 9 (.slice A9 kL c9)).run Try.prog w' = .ok (.string s) w') ∧ ((convert 33 9 (.slice A kL c)).run Try.prog w' = .ok (.string s) w'))) := Lib.hid (by
    refine (refAttrs_any tag l1 _ w9.drew (HV.out _ (HB9.out.trans (hd9.mono HB9.out.size))) HFEW.out.1).mono fun e w' h => ?_
    obtain ⟨u, he, hrow, hb⟩ := h
    rw [← HL.out] at hrow
    obtain ⟨A', c', e1, _, hrd⟩ := hrow.rd
    have hb2 := hd9.trans (hb.mono hd9.size)
    refine ⟨A', c', by rw [he, e1, HKL.out], hb2, fun s hs => ?_⟩
    rw [hs, HKL.out]
    exact ⟨conv_of w' A9 c9 _ L (HR9.out.below hb2) (by cases A9 <;> simp), conv_of w' A' c' _ L hrd (by cases A' <;> simp)⟩)
  rw [← hkL] at hcq0 hcq1 hlL ⊢
  obtain ⟨sq, hsq⟩ : ∃ s, s = mkS L := ⟨_, rfl⟩
  rw [← hsq] at hcq0 hcq1
  have HSQ := Lib.hid hsq
  have HHD := Lib.hid hd9
  clear hsq hkL hlL hd9
  go_cut [97] from 85 (fun s97 wc => s97 = .bool false ∧ Hid (Below w9.heap.size w9 wc))
  case first =>
    go_region_law (first
      | (go_simp; (with_reducible refine (num_any _ _).mono ?_); rintro e wn ⟨rfl, rfl⟩; dsimp only)
      | (go_simp; (with_reducible refine HRA.out.mono ?_); clear HRA a0 a1; rintro e w10 ⟨A10, c10, rfl, hb10, hs10⟩; dsimp only; obtain ⟨hcq2, hcr2⟩ := hs10 sq HSQ.out; have HB10 := Lib.hid hb10; clear hs10 hb10))
    all_goals
      go_wp2_with fail
      go_meet
      exact ⟨rfl, Lib.hid HB10.out⟩
  case rest =>
    obtain ⟨rfl, hbc'⟩ := hcut
    have hbc := hbc'.out
    have HBkc := Lib.hid (HBk9.out.trans (hbc.mono HBk9.out.size))
    have HBc := Lib.hid (HB3.out.trans (HBkc.out.mono HB3.out.size))
    have hre := read_any A9 c9 L wc ((HR9.out.below hbc).more hbc.size) HBYB.out (Nat.le_trans HLB.out (by decide))
    rw [← HKL.out] at hre
    have HRE := Lib.hid hre
    clear hbc hbc' hre hcq0 hcq1 a0 a1 HRA
    obtain ⟨a0, a1⟩ := HX.out _ HBc.out; simp only [List.getElem?_toArray, List.getElem?_cons_zero, List.getElem?_cons_succ] at a0 a1
    go_wp2_with (first
      | (go_at_call 27; (with_reducible refine HRE.out.mono ?_); clear HRE a0 a1; rintro e w11 ⟨g11, rfl, hrs11, hg11, hbx⟩; rw [HL.out] at hrs11; have HT := Lib.hid (take_put g11 g11 tag l1 w11 hrs11 (by omega) HFEW.out.1 HFEW.out.2); have HBk11 := Lib.hid (HBkc.out.trans (hbx.mono HBkc.out.size)); have HG11 := Lib.hid (And.intro hg11 (And.intro hbx.size hrs11.lt)); clear hbx hrs11 hg11; have HB11 := Lib.hid (HB3.out.trans (HBk11.out.mono HB3.out.size)); obtain ⟨a0, a1⟩ := HX.out _ HB11.out; simp only [List.getElem?_toArray, List.getElem?_cons_zero, List.getElem?_cons_succ] at a0 a1)
      | (go_at_call 28; (with_reducible refine HT.out.mono ?_); clear HT a0 a1; rintro e w12 ⟨f12, r12, acc, A12, c12, rfl, hv12, hrs12, hg12, hif⟩; rw [if_pos HML.out] at hif; obtain ⟨hal, rfl, rfl⟩ := hif; obtain rfl : l1 = acc := hal.symm; clear hal; have HBk12 := Lib.hid (HBk11.out.trans (below_grown hg12 (Nat.le_trans HBkc.out.size HG11.out.1) (Nat.le_trans HBkc.out.size HG11.out.2.1))); have HV12 := Lib.hid (And.intro hv12 hrs12); clear hv12 hrs12 hg12; have HB12 := Lib.hid (HB3.out.trans (HBk12.out.mono HB3.out.size)); rw [← HNA.out]; obtain ⟨a0, a1⟩ := HX.out _ HB12.out; simp only [List.getElem?_toArray, List.getElem?_cons_zero, List.getElem?_cons_succ] at a0 a1)
      | (go_at_call 16; (with_reducible refine (HMA.out _ HB12.out).mono ?_); clear HMA a0 a1; rintro e w13 ⟨rfl, hbx⟩; have HBk13 := Lib.hid (HBk12.out.trans (hbx.mono HBk12.out.size)); have HB13 := Lib.hid (HB3.out.trans (HBk13.out.mono HB3.out.size)); have HEN := Lib.hid (rend_any g11 g11 _ _ _ (HV12.out.2.on hbx)); have hv13 := HV12.out.1.on hbx; have hsa := refSame_any l1 l1 _ _ _ hv13 (HV.out _ HB13.out) (by have := HNA.out; omega) (by have := HNA.out; omega); rw [← HNA.out] at hsa; simp only [decide_true] at hsa; have HSA := Lib.hid hsa; clear hsa; clear hv13 hbx; obtain ⟨a0, a1⟩ := HX.out _ HB13.out; simp only [List.getElem?_toArray, List.getElem?_cons_zero, List.getElem?_cons_succ] at a0 a1)
      | (go_at_call 29; (with_reducible refine HEN.out.mono ?_); clear HEN; rintro e wE ⟨⟨n29, rfl, h29⟩, rfl⟩; obtain rfl : n29 = 0 := h29.2 (by simp); clear h29)
      | (go_at_call 23; (with_reducible refine (num_any _ _).mono ?_); rintro e wn ⟨rfl, rfl⟩)
      | (go_at_call 30; (with_reducible refine HSA.out.mono ?_); clear HSA a0 a1; rintro e w14 ⟨rfl, hbx⟩; have HBk14 := Lib.hid (HBk13.out.trans (hbx.mono HBk13.out.size)); have HB14 := Lib.hid (HB3.out.trans (HBk14.out.mono HB3.out.size)); clear hbx; obtain ⟨a0, a1⟩ := HX.out _ HB14.out; simp only [List.getElem?_toArray, List.getElem?_cons_zero, List.getElem?_cons_succ] at a0 a1)
      | (go_at_call 18; (with_reducible refine (HME.out _ HB14.out).mono ?_); clear HME a0 a1; rintro e wF ⟨rfl, hbx⟩; have HBF := Lib.hid (HB14.out.trans (hbx.mono HB14.out.size)); clear hbx)
      | (go_at_call 10; (with_reducible refine (HK.out _).mono ?_); clear HK; rintro e w16 ⟨rfl, hbx⟩; have HB16 := Lib.hid (HBF.out.trans (hbx.mono HBF.out.size)); clear hbx))
    go_ret
    exact ⟨rfl, HB.out.trans (HB16.out.mono HB.out.size)⟩
set_option maxHeartbeats 40000000 in
theorem bytes_010 (n1 : List UInt8) (l1 : List At) (va : Value) (A : Option Addr) (c : Nat) (n3 : List UInt8) (l3 : List At) (tag : Int) (w : World) (hva : RdV w va l1) (hs1 : Sm l1) (hn1 : n1.length ≤ 9000) (hm : muchV l1 = false) (hr : Rd w w.heap.size A (entB n3 l3)) (hc : (entB n3 l3).length ≤ c) (hcm : c ≤ 9223372036854775807) (hcl : (entB n3 l3).length ≤ 20000) (ht0 : 0 < tag) (ht : tag ≤ 255) (hma : mayE n1 l1 = false) (hml : mayL l1 = false) (hmc : mayE n3 l3 = true) :
    KnownB w #[.agg #[.string (sx n1), va], .slice A (entB n3 l3).length c, .int .u8 tag] := by
  have q6 := much_len hm
  obtain ⟨hfew, hsm⟩ := few_much hm
  have hb1 := (Below.refl w.heap.size w).alloc (Nat.le_refl _) (.cells #[.string (sx n1), va] 26)
  have k0 := Blk.new w 26 #[.string (sx n1), va]
  have hzW : (w.alloc (.cells #[.string (sx n1), va] 26)).heap.size = w.heap.size + 1 := by simp
  generalize hW : w.alloc (.cells #[.string (sx n1), va] 26) = W0 at hb1 k0 hzW
  have HX := Lib.hid fun W (hb : Below W0.heap.size W0 W) => And.intro ((k0.on hb).cell 0) ((k0.on hb).cell 1)
  have HV := Lib.hid fun W (hb : Below W0.heap.size W0 W) => (hva.on hb1).on hb
  have HK := Lib.hid fun W => known_any W
  have HB := Lib.hid hb1
  have HM := Lib.hid fun W (hb : Below W0.heap.size W0 W) => much_any l1 va W ((hva.on hb1).on hb) hs1 (by omega)
  rw [hm] at HM
  have HMA := Lib.hid fun W (hb : Below W0.heap.size W0 W) => refMayAttrs_any l1 va W ((hva.on hb1).on hb) hs1 (by omega)
  have HME := Lib.hid fun W (hb : Below W0.heap.size W0 W) => refMayEntry_any n1 l1 va W ((hva.on hb1).on hb) (by omega) hs1 (by omega)
  rw [hml] at HMA
  rw [hma] at HME
  have hrc0 := fun W (hb : Below W0.heap.size W0 W) => (show Rd W W.heap.size A (entB n3 l3) from (((hr.below hb1).more hb1.size).below hb).more hb.size)
  have HBA := Lib.hid fun W (hb : Below W0.heap.size W0 W) => bytes_no n1 l1 va W ((hva.on hb1).on hb) (by omega) hs1 (by omega) hma
  have HOC := Lib.hid fun W (hb : Below W0.heap.size W0 W) => of_yes A c n3 l3 W (hrc0 W hb) hmc
  have HRO := Lib.hid fun W (hb : Below W0.heap.size W0 W) => refOf_yes A c n3 l3 W (hrc0 W hb) hmc hc hcm
  have HFEW := Lib.hid (And.intro hfew hsm)
  have z1 := sx_size n1
  have hlB : (valB tag (atsB l1)).length ≤ 300000 := by
    rw [valB_length, atsB_len]
    have h5 := hfew.many
    have h6 := hfew.sum
    omega
  have HLB := Lib.hid hlB
  have HBYB := Lib.hid (byt_valB (Int.le_of_lt ht0) ht (byt_ats l1 hsm) (by have := hlB; rw [valB_length] at this; omega))
  have hmn : (n1.length ≤ 9000) := hn1
  have hl3 : l3.length ≤ 50 := (mayL_iff.1 (Bool.and_eq_true_iff.1 hmc).2).1
  have hva2 := hva
  obtain ⟨Aa, ca, rfl, _, _⟩ := hva2
  obtain ⟨na, hna⟩ : ∃ na, na = l1.length := ⟨_, rfl⟩
  obtain ⟨nb, hnb⟩ : ∃ nb, nb = (entB n3 l3).length := ⟨_, rfl⟩
  rw [← hna] at HX HV HM HMA HME HBA hW ⊢
  rw [← hnb] at HOC HRO hcl hc ⊢
  have HNA := Lib.hid hna
  have hna2 : na ≤ 120 := by omega
  have htz : (tag == 0) = false := by simp; omega
  have HML := Lib.hid hml
  clear hb1 k0 hs1 hr hzW hrc0 hlB hna hnb q6 hfew hsm hva hma hml hm hn1 hmc
  subst hW
  go_enter Try.func4, Try.ntmps4
  go_upto_region 11 with (first
    | (go_at_call 9; (with_reducible refine (HM.out _ (Below.refl _ _)).mono ?_); clear HM; rintro e w2 ⟨rfl, hbx⟩; have HB2 := Lib.hid hbx; clear hbx; obtain ⟨a0, a1⟩ := HX.out _ HB2.out; simp only [List.getElem?_toArray, List.getElem?_cons_zero, List.getElem?_cons_succ] at a0 a1)
    | (go_at_call 19; (with_reducible refine (HBA.out _ HB2.out).mono ?_); clear HBA a0 a1; rintro e w3 ⟨rfl, hbx⟩; have HB3 := Lib.hid (HB2.out.trans (hbx.mono HB2.out.size)); clear hbx; obtain ⟨a0, a1⟩ := HX.out _ HB3.out; simp only [List.getElem?_toArray, List.getElem?_cons_zero, List.getElem?_cons_succ] at a0 a1)
    | (go_at_call 20; (with_reducible refine (HOC.out _ HB3.out).mono ?_); clear HOC a0 a1; rintro e w4 ⟨A4, c4, rfl, hv4, hbx⟩; have hba := (Below.refl w4.heap.size w4).alloc (Nat.le_refl _) (.cells #[.string (sx n3), .slice A4 l3.length c4] 26); have HBk4 := Lib.hid (hbx.trans (hba.mono hbx.size)); have HY := Lib.hid (And.intro (Blk.new w4 26 #[.string (sx n3), .slice A4 l3.length c4]) (hv4.on hba)); clear hbx hba hv4; have hbw := HB3.out.trans (HBk4.out.mono HB3.out.size); have HB4 := Lib.hid hbw; clear hbw; obtain ⟨a0, a1⟩ := HX.out _ HB4.out; simp only [List.getElem?_toArray, List.getElem?_cons_zero, List.getElem?_cons_succ] at a0 a1)
    | (go_at_call 21; (with_reducible refine (HRO.out _ HB4.out).mono ?_); clear HRO a0 a1; rintro e w5 ⟨A5, c5, rfl, hv5, hbx⟩; have hba := (Below.refl w5.heap.size w5).alloc (Nat.le_refl _) (.cells #[.string (sx n3), .slice A5 l3.length c5] 26); have hbz := hbx.trans (hba.mono hbx.size); have HY2 := Lib.hid (And.intro (HY.out.1.on hbz) (HY.out.2.on hbz)); have HZ := Lib.hid (And.intro (Blk.new w5 26 #[.string (sx n3), .slice A5 l3.length c5]) (hv5.on hba)); have HBk5 := Lib.hid (HBk4.out.trans (hbz.mono HBk4.out.size)); have y0 := HY2.out.1.cell 0; have y1 := HY2.out.1.cell 1; have x0 := HZ.out.1.cell 0; have x1 := HZ.out.1.cell 1; clear hbx hba hbz hv5; have HB5 := Lib.hid (HB3.out.trans (HBk5.out.mono HB3.out.size)); have HSE := Lib.hid (refSameE_any n3 n3 l3 l3 _ _ _ HY2.out.2 HZ.out.2 (by omega) (by omega)); simp only [List.getElem?_toArray, List.getElem?_cons_zero, List.getElem?_cons_succ] at y0 y1 x0 x1; simp only [decide_true, Bool.and_self] at HSE)
    | (go_at_call 22; (with_reducible refine HSE.out.mono ?_); clear HSE y0 y1 x0 x1; rintro e w6 ⟨rfl, hbx⟩; have HBk6 := Lib.hid (HBk5.out.trans (hbx.mono HBk5.out.size)); clear hbx; have hba := (Below.refl w6.heap.size w6).alloc (Nat.le_refl _) (.cells #[.slice none 0 0, .int .i64 0, .int .i64 0] 45); have HBk6a := Lib.hid (HBk6.out.trans (hba.mono HBk6.out.size)); clear hba; have HB6 := Lib.hid (HB3.out.trans (HBk6a.out.mono HB3.out.size)); have hws : WS (w6.alloc (.cells #[.slice none 0 0, .int .i64 0, .int .i64 0] 45)) w6.heap.size w6.heap.size (some []) 0 := ⟨_, Blk.new w6 45 #[.slice none 0 0, .int .i64 0, .int .i64 0], World.ownsRow_nil _ _ _ _⟩; have HP := Lib.hid (put_any w6.heap.size w6.heap.size 0 (some []) tag l1 _ _ hws (by simp) (HV.out _ HB6.out) HFEW.out.1 (Nat.le_refl _) (Int.le_of_lt ht0) ht (fun q e => by injection e with e; subst e; simp) (by omega)); clear hws; obtain ⟨a0, a1⟩ := HX.out _ HB6.out; simp only [List.getElem?_toArray, List.getElem?_cons_zero, List.getElem?_cons_succ] at a0 a1)
    | (go_at_call 23; (with_reducible refine (num_any _ _).mono ?_); rintro e wn ⟨rfl, rfl⟩)
    | (go_at_call 24; (with_reducible refine HP.out.mono ?_); clear HP a0 a1; rintro e w8 ⟨⟨u8, rfl⟩, hs8, hwb8⟩; have HWB8 := Lib.hid ((Below.refl w6.heap.size w6).alloc (Nat.le_refl _) (.cells #[.slice none 0 0, .int .i64 0, .int .i64 0] 45) |>.trans hwb8.bel); have HBk8 := Lib.hid (HBk6.out.trans (HWB8.out.mono HBk6.out.size)); have HB8 := Lib.hid (HB3.out.trans (HBk8.out.mono HB3.out.size)); rw [puts_ok (by omega)] at hs8; obtain ⟨v8, hblk8, hrow8⟩ := hs8; have HE8 := Lib.hid (end_ok _ _ _ _ _ _ hblk8 hrow8 (Nat.le_trans HLB.out (by decide))); clear hwb8 hblk8 hrow8; obtain ⟨a0, a1⟩ := HX.out _ HB8.out; simp only [List.getElem?_toArray, List.getElem?_cons_zero, List.getElem?_cons_succ] at a0 a1)
    | (go_at_call 25; (with_reducible refine HE8.out.mono ?_); clear HE8 a0 a1; rintro e w9 ⟨v9, rfl, hr9, hbx⟩; have HBk9 := Lib.hid (HBk8.out.trans (hbx.mono HBk8.out.size)); have HB9 := Lib.hid (HB3.out.trans (HBk9.out.mono HB3.out.size)); obtain ⟨A9, c9, rfl, h9c, hrd9⟩ := hr9.rd; have HR9 := Lib.hid hrd9; clear hbx hr9 hrd9 h9c; obtain ⟨a0, a1⟩ := HX.out _ HB9.out; simp only [List.getElem?_toArray, List.getElem?_cons_zero, List.getElem?_cons_succ] at a0 a1))
  have HLL := Lib.hid (show (valB tag (atsB l1)).length = (valB tag (atsB l1)).length from rfl)
  obtain ⟨L, hL⟩ : ∃ L, L = valB tag (atsB l1) := ⟨_, rfl⟩
  have HL := Lib.hid hL
  rw [← hL] at HR9 HLB HBYB ⊢
  clear hL HLL
  have hlL := HLB.out
  obtain ⟨kL, hkL⟩ : ∃ k, k = L.length := ⟨_, rfl⟩
  have HKL := Lib.hid hkL
  have hcq0 := conv_of w9 A9 c9 _ L HR9.out (by cases A9 <;> simp)
  have hcq1 := conv_of w9.drew A9 c9 _ L HR9.out (by cases A9 <;> simp)
  have hd9 : Below w9.heap.size w9 w9.drew := below_drew (Below.refl _ _)
  have HRA : Hid (Calls Try.prog 26 #[.int .u8 tag, .slice Aa na ca] w9.drew fun e w' => ∃ A c, e = .returned (.slice A kL c) ∧ Below w9.heap.size w9 w' ∧ (∀ s, s = mkS L → ((convert 33 9 (.slice A9 kL c9)).run Try.prog w' = .ok (.string s) w') ∧ ((convert 33 9 (.slice A kL c)).run Try.prog w' = .ok (.string s) w'))) := Lib.hid (by
    refine (refAttrs_any tag l1 _ w9.drew (HV.out _ (HB9.out.trans (hd9.mono HB9.out.size))) HFEW.out.1).mono fun e w' h => ?_
    obtain ⟨u, he, hrow, hb⟩ := h
    rw [← HL.out] at hrow
    obtain ⟨A', c', e1, _, hrd⟩ := hrow.rd
    have hb2 := hd9.trans (hb.mono hd9.size)
    refine ⟨A', c', by rw [he, e1, HKL.out], hb2, fun s hs => ?_⟩
    rw [hs, HKL.out]
    exact ⟨conv_of w' A9 c9 _ L (HR9.out.below hb2) (by cases A9 <;> simp), conv_of w' A' c' _ L hrd (by cases A' <;> simp)⟩)
  rw [← hkL] at hcq0 hcq1 hlL ⊢
  obtain ⟨sq, hsq⟩ : ∃ s, s = mkS L := ⟨_, rfl⟩
  rw [← hsq] at hcq0 hcq1
  have HSQ := Lib.hid hsq
  have HHD := Lib.hid hd9
  clear hsq hkL hlL hd9
  go_cut [97] from 85 (fun s97 wc => s97 = .bool false ∧ Hid (Below w9.heap.size w9 wc))
  case first =>
    go_region_law (first
      | (go_simp; (with_reducible refine (num_any _ _).mono ?_); rintro e wn ⟨rfl, rfl⟩; dsimp only)
      | (go_simp; (with_reducible refine HRA.out.mono ?_); clear HRA a0 a1; rintro e w10 ⟨A10, c10, rfl, hb10, hs10⟩; dsimp only; obtain ⟨hcq2, hcr2⟩ := hs10 sq HSQ.out; have HB10 := Lib.hid hb10; clear hs10 hb10))
    all_goals
      go_wp2_with fail
      go_meet
      exact ⟨rfl, Lib.hid HB10.out⟩
  case rest =>
    obtain ⟨rfl, hbc'⟩ := hcut
    have hbc := hbc'.out
    have HBkc := Lib.hid (HBk9.out.trans (hbc.mono HBk9.out.size))
    have HBc := Lib.hid (HB3.out.trans (HBkc.out.mono HB3.out.size))
    have hre := read_any A9 c9 L wc ((HR9.out.below hbc).more hbc.size) HBYB.out (Nat.le_trans HLB.out (by decide))
    rw [← HKL.out] at hre
    have HRE := Lib.hid hre
    clear hbc hbc' hre hcq0 hcq1 a0 a1 HRA
    obtain ⟨a0, a1⟩ := HX.out _ HBc.out; simp only [List.getElem?_toArray, List.getElem?_cons_zero, List.getElem?_cons_succ] at a0 a1
    go_wp2_with (first
      | (go_at_call 27; (with_reducible refine HRE.out.mono ?_); clear HRE a0 a1; rintro e w11 ⟨g11, rfl, hrs11, hg11, hbx⟩; rw [HL.out] at hrs11; have HT := Lib.hid (take_put g11 g11 tag l1 w11 hrs11 (by omega) HFEW.out.1 HFEW.out.2); have HBk11 := Lib.hid (HBkc.out.trans (hbx.mono HBkc.out.size)); have HG11 := Lib.hid (And.intro hg11 (And.intro hbx.size hrs11.lt)); clear hbx hrs11 hg11; have HB11 := Lib.hid (HB3.out.trans (HBk11.out.mono HB3.out.size)); obtain ⟨a0, a1⟩ := HX.out _ HB11.out; simp only [List.getElem?_toArray, List.getElem?_cons_zero, List.getElem?_cons_succ] at a0 a1)
      | (go_at_call 28; (with_reducible refine HT.out.mono ?_); clear HT a0 a1; rintro e w12 ⟨f12, r12, acc, A12, c12, rfl, hv12, hrs12, hg12, hif⟩; rw [if_neg (by rw [HML.out]; decide)] at hif; obtain ⟨rfl, rfl⟩ := hif; have HBk12 := Lib.hid (HBk11.out.trans (below_grown hg12 (Nat.le_trans HBkc.out.size HG11.out.1) (Nat.le_trans HBkc.out.size HG11.out.2.1))); have HV12 := Lib.hid (And.intro hv12 hrs12); clear hv12 hrs12 hg12; have HB12 := Lib.hid (HB3.out.trans (HBk12.out.mono HB3.out.size)); obtain ⟨a0, a1⟩ := HX.out _ HB12.out; simp only [List.getElem?_toArray, List.getElem?_cons_zero, List.getElem?_cons_succ] at a0 a1)
      | (go_at_call 16; (with_reducible refine (HMA.out _ HB12.out).mono ?_); clear HMA a0 a1; rintro e w13 ⟨rfl, hbx⟩; have HBk13 := Lib.hid (HBk12.out.trans (hbx.mono HBk12.out.size)); have HB13 := Lib.hid (HB3.out.trans (HBk13.out.mono HB3.out.size)); have HEN := Lib.hid (rend_any g11 g11 _ _ _ (HV12.out.2.on hbx)); have hv13 := HV12.out.1.on hbx; clear hv13 hbx; obtain ⟨a0, a1⟩ := HX.out _ HB13.out; simp only [List.getElem?_toArray, List.getElem?_cons_zero, List.getElem?_cons_succ] at a0 a1)
      | (go_at_call 29; (with_reducible refine HEN.out.mono ?_); clear HEN; rintro e wE ⟨⟨n29, rfl, h29⟩, rfl⟩; have hnz : (n29 == 0) = false := (by have : n29 ≠ 0 := fun e => absurd (h29.1 e).1 (by decide); simpa using this); clear h29)
      | (go_at_call 23; (with_reducible refine (num_any _ _).mono ?_); rintro e wn ⟨rfl, rfl⟩)
      | (go_at_call 18; (with_reducible refine (HME.out _ HB13.out).mono ?_); clear HME a0 a1; rintro e wF ⟨rfl, hbx⟩; have HBF := Lib.hid (HB13.out.trans (hbx.mono HB13.out.size)); clear hbx)
      | (go_at_call 10; (with_reducible refine (HK.out _).mono ?_); clear HK; rintro e w16 ⟨rfl, hbx⟩; have HB16 := Lib.hid (HBF.out.trans (hbx.mono HBF.out.size)); clear hbx))
    go_ret
    exact ⟨rfl, HB.out.trans (HB16.out.mono HB.out.size)⟩
set_option maxHeartbeats 40000000 in
theorem bytes_000 (n1 : List UInt8) (l1 : List At) (va : Value) (A : Option Addr) (c : Nat) (cb : List Int) (tag : Int) (w : World) (hva : RdV w va l1) (hs1 : Sm l1) (hn1 : n1.length ≤ 9000) (hm : muchV l1 = false) (hr : Rd w w.heap.size A cb) (hc : cb.length ≤ c) (hcm : c ≤ 9223372036854775807) (hcl : cb.length ≤ 20000) (ht0 : 0 < tag) (ht : tag ≤ 255) (hma : mayE n1 l1 = false) (hml : mayL l1 = false) (hby : Byt cb) (hno : ∀ name at', mayE name at' = true → cb ≠ entB name at') :
    KnownB w #[.agg #[.string (sx n1), va], .slice A cb.length c, .int .u8 tag] := by
  have q6 := much_len hm
  obtain ⟨hfew, hsm⟩ := few_much hm
  have hb1 := (Below.refl w.heap.size w).alloc (Nat.le_refl _) (.cells #[.string (sx n1), va] 26)
  have k0 := Blk.new w 26 #[.string (sx n1), va]
  have hzW : (w.alloc (.cells #[.string (sx n1), va] 26)).heap.size = w.heap.size + 1 := by simp
  generalize hW : w.alloc (.cells #[.string (sx n1), va] 26) = W0 at hb1 k0 hzW
  have HX := Lib.hid fun W (hb : Below W0.heap.size W0 W) => And.intro ((k0.on hb).cell 0) ((k0.on hb).cell 1)
  have HV := Lib.hid fun W (hb : Below W0.heap.size W0 W) => (hva.on hb1).on hb
  have HK := Lib.hid fun W => known_any W
  have HB := Lib.hid hb1
  have HM := Lib.hid fun W (hb : Below W0.heap.size W0 W) => much_any l1 va W ((hva.on hb1).on hb) hs1 (by omega)
  rw [hm] at HM
  have HMA := Lib.hid fun W (hb : Below W0.heap.size W0 W) => refMayAttrs_any l1 va W ((hva.on hb1).on hb) hs1 (by omega)
  have HME := Lib.hid fun W (hb : Below W0.heap.size W0 W) => refMayEntry_any n1 l1 va W ((hva.on hb1).on hb) (by omega) hs1 (by omega)
  rw [hml] at HMA
  rw [hma] at HME
  have hrc0 := fun W (hb : Below W0.heap.size W0 W) => (show Rd W W.heap.size A cb from (((hr.below hb1).more hb1.size).below hb).more hb.size)
  have HBA := Lib.hid fun W (hb : Below W0.heap.size W0 W) => bytes_no n1 l1 va W ((hva.on hb1).on hb) (by omega) hs1 (by omega) hma
  have HOC := Lib.hid fun W (hb : Below W0.heap.size W0 W) => of_no A c cb W (hrc0 W hb) hby (by omega) hno
  have HSN := Lib.hid same_nil
  have HRO := Lib.hid fun W (hb : Below W0.heap.size W0 W) => refOf_no A c cb W (hrc0 W hb) hby (by omega) hc hcm hno
  have HFEW := Lib.hid (And.intro hfew hsm)
  have z1 := sx_size n1
  have hlB : (valB tag (atsB l1)).length ≤ 300000 := by
    rw [valB_length, atsB_len]
    have h5 := hfew.many
    have h6 := hfew.sum
    omega
  have HLB := Lib.hid hlB
  have HBYB := Lib.hid (byt_valB (Int.le_of_lt ht0) ht (byt_ats l1 hsm) (by have := hlB; rw [valB_length] at this; omega))
  have hmn : (n1.length ≤ 9000) := hn1
  have hva2 := hva
  obtain ⟨Aa, ca, rfl, _, _⟩ := hva2
  obtain ⟨na, hna⟩ : ∃ na, na = l1.length := ⟨_, rfl⟩
  obtain ⟨nb, hnb⟩ : ∃ nb, nb = cb.length := ⟨_, rfl⟩
  rw [← hna] at HX HV HM HMA HME HBA hW ⊢
  rw [← hnb] at HOC HRO hcl hc ⊢
  have HNA := Lib.hid hna
  have hna2 : na ≤ 120 := by omega
  have htz : (tag == 0) = false := by simp; omega
  have HML := Lib.hid hml
  clear hb1 k0 hs1 hr hzW hrc0 hlB hna hnb q6 hfew hsm hva hma hml hm hn1 hby hno
  subst hW
  go_enter Try.func4, Try.ntmps4
  go_upto_region 11 with (first
    | (go_at_call 9; (with_reducible refine (HM.out _ (Below.refl _ _)).mono ?_); clear HM; rintro e w2 ⟨rfl, hbx⟩; have HB2 := Lib.hid hbx; clear hbx; obtain ⟨a0, a1⟩ := HX.out _ HB2.out; simp only [List.getElem?_toArray, List.getElem?_cons_zero, List.getElem?_cons_succ] at a0 a1)
    | (go_at_call 19; (with_reducible refine (HBA.out _ HB2.out).mono ?_); clear HBA a0 a1; rintro e w3 ⟨rfl, hbx⟩; have HB3 := Lib.hid (HB2.out.trans (hbx.mono HB2.out.size)); clear hbx; obtain ⟨a0, a1⟩ := HX.out _ HB3.out; simp only [List.getElem?_toArray, List.getElem?_cons_zero, List.getElem?_cons_succ] at a0 a1)
    | (go_at_call 20; (with_reducible refine (HOC.out _ HB3.out).mono ?_); clear HOC a0 a1; rintro e w4 ⟨rfl, hbx⟩; have hba := (Below.refl w4.heap.size w4).alloc (Nat.le_refl _) (.cells #[.string ⟨#[]⟩, .slice none 0 0] 26); have HBk4 := Lib.hid (hbx.trans (hba.mono hbx.size)); have HY := Lib.hid (Blk.new w4 26 #[.string ⟨#[]⟩, .slice none 0 0]); clear hbx hba; have hbw := HB3.out.trans (HBk4.out.mono HB3.out.size); have HB4 := Lib.hid hbw; clear hbw; obtain ⟨a0, a1⟩ := HX.out _ HB4.out; simp only [List.getElem?_toArray, List.getElem?_cons_zero, List.getElem?_cons_succ] at a0 a1)
    | (go_at_call 21; (with_reducible refine (HRO.out _ HB4.out).mono ?_); clear HRO a0 a1; rintro e w5 ⟨rfl, hbx⟩; have hba := (Below.refl w5.heap.size w5).alloc (Nat.le_refl _) (.cells #[.string ⟨#[]⟩, .slice none 0 0] 26); have hbz := hbx.trans (hba.mono hbx.size); have HY2 := Lib.hid (HY.out.on hbz); have HZ := Lib.hid (Blk.new w5 26 #[.string ⟨#[]⟩, .slice none 0 0]); have HBk5 := Lib.hid (HBk4.out.trans (hbz.mono HBk4.out.size)); have y0 := HY2.out.cell 0; have y1 := HY2.out.cell 1; have x0 := HZ.out.cell 0; have x1 := HZ.out.cell 1; clear hbx hba hbz; have HB5 := Lib.hid (HB3.out.trans (HBk5.out.mono HB3.out.size)); have HSE := HSN.out (w5.alloc (.cells #[.string ⟨#[]⟩, .slice none 0 0] 26)); have HSE := Lib.hid HSE; simp only [List.getElem?_toArray, List.getElem?_cons_zero, List.getElem?_cons_succ] at y0 y1 x0 x1)
    | (go_at_call 22; (with_reducible refine HSE.out.mono ?_); clear HSE y0 y1 x0 x1; rintro e w6 ⟨rfl, hbx⟩; have HBk6 := Lib.hid (HBk5.out.trans (hbx.mono HBk5.out.size)); clear hbx; have hba := (Below.refl w6.heap.size w6).alloc (Nat.le_refl _) (.cells #[.slice none 0 0, .int .i64 0, .int .i64 0] 45); have HBk6a := Lib.hid (HBk6.out.trans (hba.mono HBk6.out.size)); clear hba; have HB6 := Lib.hid (HB3.out.trans (HBk6a.out.mono HB3.out.size)); have hws : WS (w6.alloc (.cells #[.slice none 0 0, .int .i64 0, .int .i64 0] 45)) w6.heap.size w6.heap.size (some []) 0 := ⟨_, Blk.new w6 45 #[.slice none 0 0, .int .i64 0, .int .i64 0], World.ownsRow_nil _ _ _ _⟩; have HP := Lib.hid (put_any w6.heap.size w6.heap.size 0 (some []) tag l1 _ _ hws (by simp) (HV.out _ HB6.out) HFEW.out.1 (Nat.le_refl _) (Int.le_of_lt ht0) ht (fun q e => by injection e with e; subst e; simp) (by omega)); clear hws; obtain ⟨a0, a1⟩ := HX.out _ HB6.out; simp only [List.getElem?_toArray, List.getElem?_cons_zero, List.getElem?_cons_succ] at a0 a1)
    | (go_at_call 23; (with_reducible refine (num_any _ _).mono ?_); rintro e wn ⟨rfl, rfl⟩)
    | (go_at_call 24; (with_reducible refine HP.out.mono ?_); clear HP a0 a1; rintro e w8 ⟨⟨u8, rfl⟩, hs8, hwb8⟩; have HWB8 := Lib.hid ((Below.refl w6.heap.size w6).alloc (Nat.le_refl _) (.cells #[.slice none 0 0, .int .i64 0, .int .i64 0] 45) |>.trans hwb8.bel); have HBk8 := Lib.hid (HBk6.out.trans (HWB8.out.mono HBk6.out.size)); have HB8 := Lib.hid (HB3.out.trans (HBk8.out.mono HB3.out.size)); rw [puts_ok (by omega)] at hs8; obtain ⟨v8, hblk8, hrow8⟩ := hs8; have HE8 := Lib.hid (end_ok _ _ _ _ _ _ hblk8 hrow8 (Nat.le_trans HLB.out (by decide))); clear hwb8 hblk8 hrow8; obtain ⟨a0, a1⟩ := HX.out _ HB8.out; simp only [List.getElem?_toArray, List.getElem?_cons_zero, List.getElem?_cons_succ] at a0 a1)
    | (go_at_call 25; (with_reducible refine HE8.out.mono ?_); clear HE8 a0 a1; rintro e w9 ⟨v9, rfl, hr9, hbx⟩; have HBk9 := Lib.hid (HBk8.out.trans (hbx.mono HBk8.out.size)); have HB9 := Lib.hid (HB3.out.trans (HBk9.out.mono HB3.out.size)); obtain ⟨A9, c9, rfl, h9c, hrd9⟩ := hr9.rd; have HR9 := Lib.hid hrd9; clear hbx hr9 hrd9 h9c; obtain ⟨a0, a1⟩ := HX.out _ HB9.out; simp only [List.getElem?_toArray, List.getElem?_cons_zero, List.getElem?_cons_succ] at a0 a1))
  have HLL := Lib.hid (show (valB tag (atsB l1)).length = (valB tag (atsB l1)).length from rfl)
  obtain ⟨L, hL⟩ : ∃ L, L = valB tag (atsB l1) := ⟨_, rfl⟩
  have HL := Lib.hid hL
  rw [← hL] at HR9 HLB HBYB ⊢
  clear hL HLL
  have hlL := HLB.out
  obtain ⟨kL, hkL⟩ : ∃ k, k = L.length := ⟨_, rfl⟩
  have HKL := Lib.hid hkL
  have hcq0 := conv_of w9 A9 c9 _ L HR9.out (by cases A9 <;> simp)
  have hcq1 := conv_of w9.drew A9 c9 _ L HR9.out (by cases A9 <;> simp)
  have hd9 : Below w9.heap.size w9 w9.drew := below_drew (Below.refl _ _)
  have HRA : Hid (Calls Try.prog 26 #[.int .u8 tag, .slice Aa na ca] w9.drew fun e w' => ∃ A c, e = .returned (.slice A kL c) ∧ Below w9.heap.size w9 w' ∧ (∀ s, s = mkS L → ((convert 33 9 (.slice A9 kL c9)).run Try.prog w' = .ok (.string s) w') ∧ ((convert 33 9 (.slice A kL c)).run Try.prog w' = .ok (.string s) w'))) := Lib.hid (by
    refine (refAttrs_any tag l1 _ w9.drew (HV.out _ (HB9.out.trans (hd9.mono HB9.out.size))) HFEW.out.1).mono fun e w' h => ?_
    obtain ⟨u, he, hrow, hb⟩ := h
    rw [← HL.out] at hrow
    obtain ⟨A', c', e1, _, hrd⟩ := hrow.rd
    have hb2 := hd9.trans (hb.mono hd9.size)
    refine ⟨A', c', by rw [he, e1, HKL.out], hb2, fun s hs => ?_⟩
    rw [hs, HKL.out]
    exact ⟨conv_of w' A9 c9 _ L (HR9.out.below hb2) (by cases A9 <;> simp), conv_of w' A' c' _ L hrd (by cases A' <;> simp)⟩)
  rw [← hkL] at hcq0 hcq1 hlL ⊢
  obtain ⟨sq, hsq⟩ : ∃ s, s = mkS L := ⟨_, rfl⟩
  rw [← hsq] at hcq0 hcq1
  have HSQ := Lib.hid hsq
  have HHD := Lib.hid hd9
  clear hsq hkL hlL hd9
  go_cut [97] from 85 (fun s97 wc => s97 = .bool false ∧ Hid (Below w9.heap.size w9 wc))
  case first =>
    go_region_law (first
      | (go_simp; (with_reducible refine (num_any _ _).mono ?_); rintro e wn ⟨rfl, rfl⟩; dsimp only)
      | (go_simp; (with_reducible refine HRA.out.mono ?_); clear HRA a0 a1; rintro e w10 ⟨A10, c10, rfl, hb10, hs10⟩; dsimp only; obtain ⟨hcq2, hcr2⟩ := hs10 sq HSQ.out; have HB10 := Lib.hid hb10; clear hs10 hb10))
    all_goals
      go_wp2_with fail
      go_meet
      exact ⟨rfl, Lib.hid HB10.out⟩
  case rest =>
    obtain ⟨rfl, hbc'⟩ := hcut
    have hbc := hbc'.out
    have HBkc := Lib.hid (HBk9.out.trans (hbc.mono HBk9.out.size))
    have HBc := Lib.hid (HB3.out.trans (HBkc.out.mono HB3.out.size))
    have hre := read_any A9 c9 L wc ((HR9.out.below hbc).more hbc.size) HBYB.out (Nat.le_trans HLB.out (by decide))
    rw [← HKL.out] at hre
    have HRE := Lib.hid hre
    clear hbc hbc' hre hcq0 hcq1 a0 a1 HRA
    obtain ⟨a0, a1⟩ := HX.out _ HBc.out; simp only [List.getElem?_toArray, List.getElem?_cons_zero, List.getElem?_cons_succ] at a0 a1
    go_wp2_with (first
      | (go_at_call 27; (with_reducible refine HRE.out.mono ?_); clear HRE a0 a1; rintro e w11 ⟨g11, rfl, hrs11, hg11, hbx⟩; rw [HL.out] at hrs11; have HT := Lib.hid (take_put g11 g11 tag l1 w11 hrs11 (by omega) HFEW.out.1 HFEW.out.2); have HBk11 := Lib.hid (HBkc.out.trans (hbx.mono HBkc.out.size)); have HG11 := Lib.hid (And.intro hg11 (And.intro hbx.size hrs11.lt)); clear hbx hrs11 hg11; have HB11 := Lib.hid (HB3.out.trans (HBk11.out.mono HB3.out.size)); obtain ⟨a0, a1⟩ := HX.out _ HB11.out; simp only [List.getElem?_toArray, List.getElem?_cons_zero, List.getElem?_cons_succ] at a0 a1)
      | (go_at_call 28; (with_reducible refine HT.out.mono ?_); clear HT a0 a1; rintro e w12 ⟨f12, r12, acc, A12, c12, rfl, hv12, hrs12, hg12, hif⟩; rw [if_neg (by rw [HML.out]; decide)] at hif; obtain ⟨rfl, rfl⟩ := hif; have HBk12 := Lib.hid (HBk11.out.trans (below_grown hg12 (Nat.le_trans HBkc.out.size HG11.out.1) (Nat.le_trans HBkc.out.size HG11.out.2.1))); have HV12 := Lib.hid (And.intro hv12 hrs12); clear hv12 hrs12 hg12; have HB12 := Lib.hid (HB3.out.trans (HBk12.out.mono HB3.out.size)); obtain ⟨a0, a1⟩ := HX.out _ HB12.out; simp only [List.getElem?_toArray, List.getElem?_cons_zero, List.getElem?_cons_succ] at a0 a1)
      | (go_at_call 16; (with_reducible refine (HMA.out _ HB12.out).mono ?_); clear HMA a0 a1; rintro e w13 ⟨rfl, hbx⟩; have HBk13 := Lib.hid (HBk12.out.trans (hbx.mono HBk12.out.size)); have HB13 := Lib.hid (HB3.out.trans (HBk13.out.mono HB3.out.size)); have HEN := Lib.hid (rend_any g11 g11 _ _ _ (HV12.out.2.on hbx)); have hv13 := HV12.out.1.on hbx; clear hv13 hbx; obtain ⟨a0, a1⟩ := HX.out _ HB13.out; simp only [List.getElem?_toArray, List.getElem?_cons_zero, List.getElem?_cons_succ] at a0 a1)
      | (go_at_call 29; (with_reducible refine HEN.out.mono ?_); clear HEN; rintro e wE ⟨⟨n29, rfl, h29⟩, rfl⟩; have hnz : (n29 == 0) = false := (by have : n29 ≠ 0 := fun e => absurd (h29.1 e).1 (by decide); simpa using this); clear h29)
      | (go_at_call 23; (with_reducible refine (num_any _ _).mono ?_); rintro e wn ⟨rfl, rfl⟩)
      | (go_at_call 18; (with_reducible refine (HME.out _ HB13.out).mono ?_); clear HME a0 a1; rintro e wF ⟨rfl, hbx⟩; have HBF := Lib.hid (HB13.out.trans (hbx.mono HB13.out.size)); clear hbx)
      | (go_at_call 10; (with_reducible refine (HK.out _).mono ?_); clear HK; rintro e w16 ⟨rfl, hbx⟩; have HB16 := Lib.hid (HBF.out.trans (hbx.mono HBF.out.size)); clear hbx))
    go_ret
    exact ⟨rfl, HB.out.trans (HB16.out.mono HB.out.size)⟩
end Go.Proofs.Ytlhbnmaalhainaa.Tlv
