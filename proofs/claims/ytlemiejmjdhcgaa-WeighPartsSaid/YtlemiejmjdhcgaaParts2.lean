/- WeighParts: the walk, where the law asks. -/
import Derived.Test.YtlemiejmjdhcgaaParts
namespace Go.Proofs.Ytlemiejmjdhcgaa
open Go.RowKit
set_option linter.unusedVariables false
set_option linter.unusedSimpArgs false

theorem of_row {A : Option Addr} {c : Nat} {l : List El} {sh : Bool} {lv : Int} {W0 W : World} (hr : RdK kE W W.heap.size A l) (hl : l.length ≤ 1000) (h : Below W0.heap.size W0 W) (n : Nat) (hn : n = l.length) :
    Calls Try.prog 10 #[.agg #[.bool sh, .int .i64 lv], .slice A n c] W fun e w' => ∃ A9 n9 c9, e = .returned (.slice A9 n9 c9) ∧ Hid (n9 = (weighL sh lv l).length) ∧ RdK kW w' w'.heap.size A9 (weighL sh lv l) ∧ (A9 = none → c9 = 0) ∧ Below W0.heap.size W0 w' ∧ Below W.heap.size W w' := by
  subst hn
  refine (of_any A c l sh lv W hr (by omega)).mono ?_
  rintro e w' ⟨v, rfl, hrow, hb⟩
  obtain ⟨A9, c9, n9, hn9, rfl, hA9, hrd⟩ := hrow.rdn
  exact ⟨A9, n9, c9, rfl, hn9, hrd, hA9, h.trans (hb.mono h.size), hb⟩

set_option maxHeartbeats 16000000 in
set_option maxRecDepth 100000 in
theorem parts_in (lv : Int) (A : Option Addr) (c : Nat) (a : List El) (B : Option Addr) (d : Nat) (b : List El) (e : El) (w : World) (ha : RdK kE w w.heap.size A a) (hA : A = none → c = 0) (hb : RdK kE w w.heap.size B b) (hB : B = none → d = 0) (h : Asked lv a b) :
    Calls Try.prog 5 #[.int .i64 lv, .slice A a.length c, .slice B b.length d, e.agg] w fun e w' => e = .returned (.bool true) ∧ Below w.heap.size w w' := by
  obtain ⟨s1, s2, g1, g2, g3, g4⟩ := h
  have hb0 : Below w.heap.size w (w.alloc (.cells #[.int .u16 e.p, .int .u16 e.s, .int .u16 e.t, .bool e.var] 42)) := (Below.refl _ _).alloc (Nat.le_refl _) _
  have be := Blk.new w 42 #[.int .u16 e.p, .int .u16 e.s, .int .u16 e.t, .bool e.var]
  have hsa := sound_any A c a _ (ha.on hb0) (by unfold maxLen; omega)
  have hsb := fun W h => sound_any B d b W ((hb.on hb0).on h) (by unfold maxLen; omega)
  rw [s1] at hsa
  simp only [s2] at hsb
  have HSA := Lib.hid hsa
  have HSB := Lib.hid hsb
  have HB0 := Lib.hid hb0
  have HRA := Lib.hid (ha.on hb0)
  have HRB := Lib.hid (hb.on hb0)
  have HE := Lib.hid be
  clear hsa hsb ha hb hb0 s1 s2 be
  have d1 : decide ((100 : Int) < a.length) = false := by simp only [decide_eq_false_iff_not]; omega
  have e1 : decide (100 < a.length) = false := by simp only [decide_eq_false_iff_not]; omega
  have d2 : decide ((100 : Int) < b.length) = false := by simp only [decide_eq_false_iff_not]; omega
  have e2 : decide (100 < b.length) = false := by simp only [decide_eq_false_iff_not]; omega
  have d3 : decide (lv < 1) = false := by simp only [decide_eq_false_iff_not]; omega
  have d4 : decide (4 < lv) = false := by simp only [decide_eq_false_iff_not]; omega
  have hn1 : ([] : List El).length + a.length ≤ 1000000000 := by simp; omega
  have hn2 : ([] ++ a).length + b.length ≤ 1000000000 := by simp; omega
  go_enter Try.func5, Try.ntmps5
  go_wp2_with fail
  refine HSA.out.mono ?_
  rintro e' w2 ⟨rfl, hb2⟩
  go_wp2_with fail
  refine (HSB.out _ hb2).mono ?_
  rintro e' w3 ⟨rfl, hb3⟩
  have hb23 := hb2.trans (hb3.mono hb2.size)
  have HB3 := Lib.hid (HB0.out.trans (hb23.mono HB0.out.size))
  have HRA3 := Lib.hid (HRA.out.on hb23)
  have HRB3 := Lib.hid (HRB.out.on hb23)
  have HE3 := Lib.hid (HE.out.on hb23)
  clear HSA HSB HB0 HRA HRB HE hb2 hb3 hb23 d1 d2 d3 d4 e1 e2
  have hbo : Below w3.heap.size w3 (w3.alloc (.cells #[.bool false, .int .i64 lv] 23)) := (Below.refl _ _).alloc (Nat.le_refl _) _
  have HB4 := Lib.hid (HB3.out.trans (hbo.mono HB3.out.size))
  have HRA4 := Lib.hid (HRA3.out.on hbo)
  have HRB4 := Lib.hid (HRB3.out.on hbo)
  have HE4 := Lib.hid (HE3.out.on hbo)
  have HP := Lib.hid (Blk.new w3 23 #[.bool false, .int .i64 lv])
  clear HB3 HRA3 HRB3 HE3 hbo
  go_wp2_with (at_builtin; first
    | (refine wpList_app kE (v := .slice none 0 0) rfl _ _ rfl a rfl (nil_row kE _ (w3.heap.size + 1)) rfl HRA4.out hA hn1 (by simp) ?_; intro v5 w5 hrow5 hgr5; have hb5 := grown_none (B := (w3.alloc (.cells #[.bool false, .int .i64 lv] 23)).heap.size) hgr5 (Nat.le_refl _))
    | (refine wpList_app kE rfl _ _ rfl b rfl hrow5 rfl (HRB4.out.on hb5) hB hn2 (by have := hb5.size; simp at this; omega) ?_; intro v6 w6 hrow6 hgr6; have hb6 := row_below hrow5 hgr6 (by have := hb5.size; simp at this; omega); obtain ⟨A6, c6, n6, hn6, rfl, _, hrd6⟩ := hrow6.rdn))
  rw [List.nil_append] at hrd6 hn6
  have hsz : (w3.alloc (.cells #[.bool false, .int .i64 lv] 23)).heap.size = w3.heap.size + 1 := by simp
  rw [hsz] at hb5
  have hb56 : Below (w3.alloc (.cells #[.bool false, .int .i64 lv] 23)).heap.size (w3.alloc (.cells #[.bool false, .int .i64 lv] 23)) w6 := by rw [hsz]; exact hb5.trans hb6
  have HB6 := Lib.hid (HB4.out.trans (hb56.mono HB4.out.size))
  have HRA6 := Lib.hid (HRA4.out.on hb56)
  have HRB6 := Lib.hid (HRB4.out.on hb56)
  have HE6 := Lib.hid (HE4.out.on hb56)
  have HP6 := Lib.hid (HP.out.on hb56)
  have HAB6 := Lib.hid hrd6
  clear HB4 HRA4 HRB4 HE4 HP hb5 hb6 hb56 hrow5 hgr5 hrow6 hgr6 hrd6 hsz
  have HP := HP6
  clear HP6
  have HCa := Lib.hid (fun (W : World) (h : Below w6.heap.size w6 W) => of_row (c := c) (sh := false) (lv := lv) (W0 := w6) (HRA6.out.on h) (by omega) h a.length rfl)
  have HCb := Lib.hid (fun (W : World) (h : Below w6.heap.size w6 W) => of_row (c := d) (sh := false) (lv := lv) (W0 := w6) (HRB6.out.on h) (by omega) h b.length rfl)
  have hx1 := Nat.le_trans (weighL_length false lv a) g1
  have hx2 := Nat.le_trans (weighL_length false lv b) g2
  have HPL := Lib.hid (weighL_plain lv a b)
  generalize hX1 : weighL false lv a = X1 at *
  generalize hX2 : weighL false lv b = X2 at *
  have hg1 : ([] : List Wt).length + X1.length ≤ 1000000000 := by simp; omega
  have hg2 : ([] ++ X1).length + X2.length ≤ 1000000000 := by simp; omega
  clear hX1 hX2
  have hpc0 := HP.out.cell 0
  have hpc1 := HP.out.cell 1
  go_wp2_with fail
  have HS : Hid (∀ W', Below w6.heap.size w6 W' → Below w6.heap.size w6 W' ∧ W'.cell? ⟨w3.heap.size, 0, none⟩ = some (.bool false) ∧ W'.cell? ⟨w3.heap.size, 1, none⟩ = some (.int .i64 lv)) :=
    Lib.hid fun W' h => ⟨h, ((HP.out.on h).cell 0).trans rfl, ((HP.out.on h).cell 1).trans rfl⟩
  go_cut [11] from 16 (fun s11 wc => ∃ Ax nx cx, s11 = .slice Ax nx cx ∧ Hid (nx = (X1 ++ X2).length) ∧ RdK kW wc wc.heap.size Ax (X1 ++ X2) ∧ Below w6.heap.size w6 wc)
  case first =>
    go_region_held3 (fun w' => Below w6.heap.size w6 w' ∧ w'.cell? ⟨w3.heap.size, 0, none⟩ = some (.bool false) ∧ w'.cell? ⟨w3.heap.size, 1, none⟩ = some (.int .i64 lv)) (first | (refine HS.out _ ?_; first | assumption | exact (Below.refl _ _).drew) | go_keep)
      (first
        | (go_at_call 10; go_split_ands; first | (refine (HCa.out _ ?hb).mono ?_; (case hb => assumption); rintro e' w10 ⟨A9, n9, c9, rfl, hn9, hrd9, hA9, hbn, hbf⟩; clear HCa) | (refine (HCb.out _ ?hb).mono ?_; (case hb => assumption); rintro e' w12 ⟨A8, n8, c8, rfl, hn8, hrd8, hA8, hbn2, hbg⟩; clear HCb))
        | (refine step_appN kW (w := w10) (by rfl) _ _ (by rfl) X1 hn9.out (by rfl) (nil_row kW _ w6.heap.size) (by rfl) hrd9 hA9 hg1 hbn.size ?_; intro v11 w11 hrow11 hgr11; have hb11 := grown_none (B := w10.heap.size) hgr11 (Nat.le_refl _); have hz11 := Below.trans hbn (hb11.mono hbn.size))
        | (refine step_appN kW (w := w12) (by rfl) _ _ (by rfl) X1 hn9.out (by rfl) (nil_row kW _ w6.heap.size) (by rfl) (hrd9.on hbg) hA9 hg1 hbn2.size ?_; intro v11 w11 hrow11 hgr11; have hb11 := grown_none (B := w12.heap.size) hgr11 (Nat.le_refl _); have hz11 := Below.trans hbn2 (hb11.mono hbn2.size))
        | (refine step_appN kW (w := w12) (by rfl) _ _ (by rfl) X2 hn8.out (by rfl) (hrow11.on hbg) (by rfl) hrd8 hA8 hg2 hbn2.size ?_; intro v13 w13 hrow13 hgr13; have hb13 := row_below (hrow11.on hbg) hgr13 hbn2.size; have hz13 := Below.trans hbn2 hb13; obtain ⟨Ax, cx, nx, hnx, rfl, _, hrdx⟩ := hrow13.rdn)
        | (refine step_appN kW (w := w11) (by rfl) _ _ (by rfl) X2 hn8.out (by rfl) hrow11 (by rfl) (hrd8.on hb11) hA8 hg2 hz11.size ?_; intro v13 w13 hrow13 hgr13; have hb13 := row_below hrow11 hgr13 hz11.size; have hz13 := Below.trans hz11 hb13; obtain ⟨Ax, cx, nx, hnx, rfl, _, hrdx⟩ := hrow13.rdn))
    all_goals
      go_wp2_with fail
      go_meet
      case rel => exact ⟨Ax, nx, cx, rfl, by simpa using hnx, by simpa using hrdx, hz13⟩
  case rest =>
    obtain ⟨w7, hw7⟩ : ∃ w7 : World, w7 = wc := ⟨_, rfl⟩
    subst hw7
    obtain ⟨Ax, nx, cx, rfl, hnx, hrdx, hbx⟩ := hcut
    have hY : (X1 ++ X2).length ≤ 200 := by simp; omega
    have HPL' := HPL.out
    clear HPL HS HCa HCb hg1 hg2
    generalize X1 ++ X2 = Y at *
    have HPL := Lib.hid HPL'
    clear HPL'
    have hnx' := hnx.out
    subst hnx'
    have HB7 := Lib.hid (HB6.out.trans (hbx.mono HB6.out.size))
    have HRA7 := Lib.hid (HRA6.out.on hbx)
    have HRB7 := Lib.hid (HRB6.out.on hbx)
    have HE7 := Lib.hid (HE6.out.on hbx)
    have HAB7 := Lib.hid (HAB6.out.on hbx)
    have HX7 := Lib.hid hrdx
    have c0 := (HP.out.on hbx).cell 0
    have c1 := (HP.out.on hbx).cell 1
    have HOF := Lib.hid (of_row (c := c6) (sh := false) (lv := lv) (W0 := w7) HAB7.out (by simp; omega) (Below.refl _ _) n6 hn6.out)
    rw [HPL.out] at HOF
    clear HB6 HRA6 HRB6 HE6 HAB6 hrdx hbx HP hpc0 hpc1 hnx HPL
    go_wp2_with fail
    refine HOF.out.mono ?_
    rintro e' w8 ⟨A9, n9, c9, rfl, hn9, hrd9, hA9, _, hb8⟩
    have hn9' := hn9.out
    subst hn9'
    have HSM := Lib.hid (same_any A9 Ax c9 cx Y Y w8 hrd9 (HX7.out.on hb8) (by omega))
    rw [decide_eq_true (rfl : Y = Y)] at HSM
    clear c0 c1 hrd9 hn9 HOF
    go_wp2_with fail
    refine HSM.out.mono ?_
    rintro e' w9 ⟨rfl, hb9⟩
    have hb89 := hb8.trans (hb9.mono hb8.size)
    have HB9 := Lib.hid (HB7.out.trans (hb89.mono HB7.out.size))
    have HRA9 := Lib.hid (HRA7.out.on hb89)
    have HRB9 := Lib.hid (HRB7.out.on hb89)
    have HE9 := Lib.hid (HE7.out.on hb89)
    clear HSM HB7 HRA7 HRB7 HE7 HAB7 HX7 hb8 hb9 hb89
    have x0 := HE9.out.cell 0
    have x3 := HE9.out.cell 3
    by_cases hp : e.p = 0
    · have dp : (e.p == 0) = true := by simp [hp]
      go_wp2_with fail
      refine (known_any _).mono ?_
      rintro e' w10 ⟨rfl, hb10⟩
      go_wp2_with fail
      go_ret
      exact ⟨rfl, HB9.out.trans (hb10.mono HB9.out.size)⟩
    · have dp : (e.p == 0) = false := by simp [hp]
      cases hv : e.var with
      | true =>
        rw [hv] at x3
        go_wp2_with fail
        refine (known_any _).mono ?_
        rintro e' w10 ⟨rfl, hb10⟩
        go_wp2_with fail
        go_ret
        exact ⟨rfl, HB9.out.trans (hb10.mono HB9.out.size)⟩
      | false =>
        rw [hv] at x3
        have HSF := Lib.hid (weighL_shift lv a b e hp hv)
        go_wp2_with fail
        have hbo : Below w9.heap.size w9 (w9.alloc (.cells #[.bool true, .int .i64 lv] 23)) := (Below.refl _ _).alloc (Nat.le_refl _) _
        have HB10 := Lib.hid (HB9.out.trans (hbo.mono HB9.out.size))
        have HRA10 := Lib.hid (HRA9.out.on hbo)
        have HRB10 := Lib.hid (HRB9.out.on hbo)
        have HE10 := Lib.hid (HE9.out.on hbo)
        have HP := Lib.hid (Blk.new w9 23 #[.bool true, .int .i64 lv])
        clear HB9 HRA9 HRB9 HE9 hbo x0 x3 hv hp dp
        generalize w9.alloc (.cells #[.bool true, .int .i64 lv] 23) = wa at *
        have x0 := HE10.out.cell 0
        have x1 := HE10.out.cell 1
        have x2 := HE10.out.cell 2
        have x3 := HE10.out.cell 3
        have HS : Hid (∀ W', Below wa.heap.size wa W' → Below wa.heap.size wa W' ∧ W'.cell? ⟨w.heap.size, 0, none⟩ = some (.int .u16 e.p) ∧ W'.cell? ⟨w.heap.size, 1, none⟩ = some (.int .u16 e.s) ∧ W'.cell? ⟨w.heap.size, 2, none⟩ = some (.int .u16 e.t) ∧ W'.cell? ⟨w.heap.size, 3, none⟩ = some (.bool e.var)) :=
          Lib.hid fun W' h => ⟨h, ((HE10.out.on h).cell 0).trans rfl, ((HE10.out.on h).cell 1).trans rfl, ((HE10.out.on h).cell 2).trans rfl, ((HE10.out.on h).cell 3).trans rfl⟩
        have hm1 : ([] : List El).length + a.length ≤ 1000000000 := by simp; omega
        have hm2 : ([] ++ a).length + [e].length ≤ 1000000000 := by simp; omega
        have hm3 : ([] : List El).length + (a ++ [e]).length ≤ 1000000000 := by simp; omega
        have hm4 : ([] ++ (a ++ [e])).length + b.length ≤ 1000000000 := by simp; omega
        go_cut [13] from 16 (fun s13 wc => ∃ Af nf cf, s13 = .slice Af nf cf ∧ Hid (nf = (a ++ [e]).length) ∧ RdK kE wc wc.heap.size Af (a ++ [e]) ∧ (Af = none → cf = 0) ∧ Below wa.heap.size wa wc)
        case first =>
          go_region_held3 (fun w' => Below wa.heap.size wa w' ∧ w'.cell? ⟨w.heap.size, 0, none⟩ = some (.int .u16 e.p) ∧ w'.cell? ⟨w.heap.size, 1, none⟩ = some (.int .u16 e.s) ∧ w'.cell? ⟨w.heap.size, 2, none⟩ = some (.int .u16 e.t) ∧ w'.cell? ⟨w.heap.size, 3, none⟩ = some (.bool e.var))
            (first | (refine HS.out _ ?_; first | assumption | exact (Below.refl _ _).drew | exact ((Below.refl _ _).alloc (Nat.le_refl _) _).drew | exact hz2.alloc hz2.size _) | go_keep)
            (first
              | (refine step_app kE (w := wa.drew) (v := .slice none 0 0) (by rfl) _ _ (by rfl) a (by rfl) (nil_row kE _ wa.heap.size) (by rfl) HRA10.out.drew hA hm1 (Nat.le_refl _) ?_; intro v2 w2 hrow2 hgr2; have hb2 := grown_none (B := wa.heap.size) hgr2 (Nat.le_refl _); have hz2 := Below.trans (Below.refl wa.heap.size wa).drew hb2)
              | (refine step_app kE (w := (wa.alloc _).drew) (v := .slice none 0 0) (by rfl) _ _ (by rfl) a (by rfl) (nil_row kE _ wa.heap.size) (by rfl) (HRA10.out.below ((Below.refl _ _).alloc (Nat.le_refl _) _).drew) hA hm1 (le_alloc_drew (Nat.le_refl _)) ?_; intro v2 w2 hrow2 hgr2; have hb2 := grown_none (B := wa.heap.size) hgr2 (le_alloc_drew (Nat.le_refl _)); have hX2 := ((Blk.new wa 42 #[.int .u16 e.p, .int .u16 e.s, .int .u16 e.t, .bool e.var]).drew).grown hgr2 (by simp [Value.ownBlock]); have hz2 := Below.trans ((Below.refl wa.heap.size wa).alloc (Nat.le_refl _) (.cells #[.int .u16 e.p, .int .u16 e.s, .int .u16 e.t, .bool e.var] 42)).drew hb2)
              | (refine step_app kE (w := w2.alloc _) (by rfl) _ _ (by rfl) [e] (by rfl) (hrow2.alloc _) (by rfl) (rd_block (K := kE) (l := [e]) (Blk.new _ _ _) rfl) (fun h => by cases h) hm2 (le_alloc hz2.size) ?_; intro v3 w3 hrow3 hgr3; have hb3 := row_below (hrow2.alloc _) hgr3 (le_alloc hz2.size); have hz3 := Below.trans (hz2.alloc hz2.size _) hb3; obtain ⟨Af, cf, nf, hnf, rfl, hAf, hrdf⟩ := hrow3.rdn)
              | (refine step_app kE (w := w2) (by rfl) _ _ (by rfl) [e] (by rfl) hrow2 (by rfl) (rd_block (K := kE) (l := [e]) hX2 rfl) (fun h => by cases h) hm2 hz2.size ?_; intro v3 w3 hrow3 hgr3; have hb3 := row_below hrow2 hgr3 hz2.size; have hz3 := Below.trans hz2 hb3; obtain ⟨Af, cf, nf, hnf, rfl, hAf, hrdf⟩ := hrow3.rdn))
          all_goals
            go_wp2_with fail
            go_meet
            case rel => exact ⟨Af, nf, cf, rfl, by simpa using hnf, by simpa using hrdf, hAf, hz3⟩
        case rest =>
          obtain ⟨wb, hwb⟩ : ∃ wb : World, wb = wc := ⟨_, rfl⟩
          subst hwb
          obtain ⟨Af, nf, cf, rfl, hnf, hrdf, hAf, hbf⟩ := hcut
          have hlf : (a ++ [e]).length ≤ 101 := by simp; omega
          have HB11 := Lib.hid (HB10.out.trans (hbf.mono HB10.out.size))
          have HRB11 := Lib.hid (HRB10.out.on hbf)
          have HP11 := Lib.hid (HP.out.on hbf)
          clear HB10 HRA10 HRB10 HE10 HP HS hbf hm1 hm2 x0 x1 x2 x3
          generalize a ++ [e] = f at *
          have hnf' := hnf.out
          subst hnf'
          have HF11 := Lib.hid hrdf
          clear hrdf hnf
          have hbz := HB11.out.size
          go_wp2_with (at_builtin; first
            | (refine wpList_app kE (v := .slice none 0 0) rfl _ _ rfl f rfl (nil_row kE _ wb.heap.size) rfl HF11.out hAf hm3 (Nat.le_refl _) ?_; intro v12 w12 hrow12 hgr12; have hb12 := grown_none (B := wb.heap.size) hgr12 (Nat.le_refl _))
            | (refine wpList_app kE rfl _ _ rfl b rfl hrow12 rfl (HRB11.out.on hb12) hB hm4 hb12.size ?_; intro v13 w13 hrow13 hgr13; have hb13 := row_below hrow12 hgr13 hb12.size; obtain ⟨A14, c14, n14, hn14, rfl, _, hrd14⟩ := hrow13.rdn))
          rw [List.nil_append] at hrd14 hn14
          have hbt := hb12.trans hb13
          have HB13 := Lib.hid (HB11.out.trans (hbt.mono HB11.out.size))
          have HRB13 := Lib.hid (HRB11.out.on hbt)
          have HF13 := Lib.hid (HF11.out.on hbt)
          have HP := Lib.hid (HP11.out.on hbt)
          have HAL13 := Lib.hid hrd14
          clear HB11 HRB11 HF11 HP11 hb12 hb13 hbt hrow12 hgr12 hrow13 hgr13 hrd14 hm3 hm4
          have HCa := Lib.hid (fun (W : World) (h : Below w13.heap.size w13 W) => of_row (c := cf) (sh := true) (lv := lv) (W0 := w13) (HF13.out.on h) (by omega) h f.length rfl)
          have HCb := Lib.hid (fun (W : World) (h : Below w13.heap.size w13 W) => of_row (c := d) (sh := true) (lv := lv) (W0 := w13) (HRB13.out.on h) (by omega) h b.length rfl)
          have hx1' := Nat.le_trans (weighL_length true lv f) hlf
          have hx2' := Nat.le_trans (weighL_length true lv b) g2
          have HSF' := HSF.out
          clear HSF
          generalize hX1 : weighL true lv f = Z1 at *
          generalize hX2 : weighL true lv b = Z2 at *
          have HSF := Lib.hid HSF'
          have hg1 : ([] : List Wt).length + Z1.length ≤ 1000000000 := by simp; omega
          have hg2 : ([] ++ Z1).length + Z2.length ≤ 1000000000 := by simp; omega
          clear hX1 hX2 HSF'
          have hpc0 := HP.out.cell 0
          have hpc1 := HP.out.cell 1
          go_wp2_with fail
          have HS : Hid (∀ W', Below w13.heap.size w13 W' → Below w13.heap.size w13 W' ∧ W'.cell? ⟨w9.heap.size, 0, none⟩ = some (.bool true) ∧ W'.cell? ⟨w9.heap.size, 1, none⟩ = some (.int .i64 lv)) :=
            Lib.hid fun W' h => ⟨h, ((HP.out.on h).cell 0).trans rfl, ((HP.out.on h).cell 1).trans rfl⟩
          go_cut [15] from 16 (fun s11 wc => ∃ Ax nx cx, s11 = .slice Ax nx cx ∧ Hid (nx = (Z1 ++ Z2).length) ∧ RdK kW wc wc.heap.size Ax (Z1 ++ Z2) ∧ Below w13.heap.size w13 wc)
          case first =>
            go_region_held3 (fun w' => Below w13.heap.size w13 w' ∧ w'.cell? ⟨w9.heap.size, 0, none⟩ = some (.bool true) ∧ w'.cell? ⟨w9.heap.size, 1, none⟩ = some (.int .i64 lv)) (first | (refine HS.out _ ?_; first | assumption | exact (Below.refl _ _).drew) | go_keep)
              (first
                | (go_at_call 10; go_split_ands; first | (refine (HCa.out _ ?hb).mono ?_; (case hb => assumption); rintro e' w10 ⟨A9, n9, c9, rfl, hn9, hrd9, hA9, hbn, hbf⟩; clear HCa) | (refine (HCb.out _ ?hb).mono ?_; (case hb => assumption); rintro e' w12 ⟨A8, n8, c8, rfl, hn8, hrd8, hA8, hbn2, hbg⟩; clear HCb))
                | (refine step_appN kW (w := w10) (by rfl) _ _ (by rfl) Z1 hn9.out (by rfl) (nil_row kW _ w13.heap.size) (by rfl) hrd9 hA9 hg1 hbn.size ?_; intro v11 w11 hrow11 hgr11; have hb11 := grown_none (B := w10.heap.size) hgr11 (Nat.le_refl _); have hz11 := Below.trans hbn (hb11.mono hbn.size))
                | (refine step_appN kW (w := w12) (by rfl) _ _ (by rfl) Z1 hn9.out (by rfl) (nil_row kW _ w13.heap.size) (by rfl) (hrd9.on hbg) hA9 hg1 hbn2.size ?_; intro v11 w11 hrow11 hgr11; have hb11 := grown_none (B := w12.heap.size) hgr11 (Nat.le_refl _); have hz11 := Below.trans hbn2 (hb11.mono hbn2.size))
                | (refine step_appN kW (w := w12) (by rfl) _ _ (by rfl) Z2 hn8.out (by rfl) (hrow11.on hbg) (by rfl) hrd8 hA8 hg2 hbn2.size ?_; intro v13 w13 hrow13 hgr13; have hb13 := row_below (hrow11.on hbg) hgr13 hbn2.size; have hz13 := Below.trans hbn2 hb13; obtain ⟨Ax, cx, nx, hnx, rfl, _, hrdx⟩ := hrow13.rdn)
                | (refine step_appN kW (w := w11) (by rfl) _ _ (by rfl) Z2 hn8.out (by rfl) hrow11 (by rfl) (hrd8.on hb11) hA8 hg2 hz11.size ?_; intro v13 w13 hrow13 hgr13; have hb13 := row_below hrow11 hgr13 hz11.size; have hz13 := Below.trans hz11 hb13; obtain ⟨Ax, cx, nx, hnx, rfl, _, hrdx⟩ := hrow13.rdn))
            all_goals
              go_wp2_with fail
              go_meet
              case rel => exact ⟨Ax, nx, cx, rfl, by simpa using hnx, by simpa using hrdx, hz13⟩
          case rest =>
            obtain ⟨wd, hwd⟩ : ∃ wd : World, wd = wc := ⟨_, rfl⟩
            subst hwd
            obtain ⟨Ay, ny, cy, rfl, hny, hrdy, hby⟩ := hcut
            have hZ : (Z1 ++ Z2).length ≤ 201 := by simp; omega
            have HSF' := HSF.out
            clear HSF HS HCa HCb hg1 hg2
            generalize Z1 ++ Z2 = Z at *
            have hny' := hny.out
            subst hny'
            have HBD := Lib.hid (HB13.out.trans (hby.mono HB13.out.size))
            have HALD := Lib.hid (HAL13.out.on hby)
            have HYD := Lib.hid hrdy
            have c0 := (HP.out.on hby).cell 0
            have c1 := (HP.out.on hby).cell 1
            have HOF := Lib.hid (of_row (c := c14) (sh := true) (lv := lv) (W0 := wd) HALD.out (by simp; omega) (Below.refl _ _) n14 hn14.out)
            rw [HSF'] at HOF
            clear HB13 HRB13 HF13 HAL13 hrdy hby HP hpc0 hpc1 hny HSF'
            go_wp2_with fail
            refine HOF.out.mono ?_
            rintro e' w15 ⟨A9', n9', c9', rfl, hn9', hrd9', _, _, hb15⟩
            have hn9'' := hn9'.out
            subst hn9''
            have HSM := Lib.hid (same_any A9' Ay c9' cy Z Z w15 hrd9' (HYD.out.on hb15) (by omega))
            rw [decide_eq_true (rfl : Z = Z)] at HSM
            clear c0 c1 hrd9' hn9' HOF
            go_wp2_with fail
            refine HSM.out.mono ?_
            rintro e' w16 ⟨rfl, hb16⟩
            have HBE := Lib.hid (HBD.out.trans ((hb15.trans (hb16.mono hb15.size)).mono HBD.out.size))
            clear HSM hb15 hb16 HYD HALD
            go_wp2_with fail
            refine (known_any _).mono ?_
            rintro e' w17 ⟨rfl, hb17⟩
            go_wp2_with fail
            go_ret
            exact ⟨rfl, HBE.out.trans (hb17.mono HBE.out.size)⟩
end Go.Proofs.Ytlemiejmjdhcgaa
