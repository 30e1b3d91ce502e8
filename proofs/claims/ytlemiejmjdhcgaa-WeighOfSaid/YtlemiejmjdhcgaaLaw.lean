/- WeighOf: the walk. -/
import Derived.Test.YtlemiejmjdhcgaaKnown
import Derived.Deep.RegionHeld3
namespace Go.Proofs.Ytlemiejmjdhcgaa
open Go.RowKit
set_option linter.unusedVariables false
set_option linter.unusedSimpArgs false

set_option maxHeartbeats 4000000 in
theorem weighOf_out (A : Option Addr) (c : Nat) (l : List El) (sh : Bool) (lv : Int) (w : World) (hr : RdK kE w w.heap.size A l) (hl : l.length ≤ maxLen) (hs : soundL l = false) :
    Calls Try.prog 3 #[.agg #[.bool sh, .int .i64 lv], .slice A l.length c] w fun e w' => e = .returned (.bool true) ∧ Below w.heap.size w w' := by
  have hb0 : Below w.heap.size w (w.alloc (.cells #[.bool sh, .int .i64 lv] 23)) := (Below.refl _ _).alloc (Nat.le_refl _) _
  have h := sound_any A c l _ (hr.on hb0) hl
  rw [hs] at h
  have H := Lib.hid h
  clear h hr
  go_enter Try.func3, Try.ntmps3
  go_wp2_with fail
  refine H.out.mono ?_
  rintro e w2 ⟨rfl, hb2⟩
  go_wp2_with fail
  refine (known_any _).mono ?_
  rintro e w3 ⟨rfl, hb3⟩
  go_wp2_with fail
  go_ret
  have hb := hb0.trans (hb2.mono hb0.size)
  exact ⟨rfl, hb.trans (hb3.mono hb.size)⟩

set_option maxHeartbeats 16000000 in
set_option maxRecDepth 100000 in
theorem weighOf_in (A : Option Addr) (c : Nat) (l : List El) (sh : Bool) (lv : Int) (w : World) (hr : RdK kE w w.heap.size A l) (hA : A = none → c = 0) (hs : soundL l = true) :
    Calls Try.prog 3 #[.agg #[.bool sh, .int .i64 lv], .slice A l.length c] w fun e w' => e = .returned (.bool true) ∧ Below w.heap.size w w' := by
  have hsl : l.all soundE = true ∧ l.length ≤ 200 := by
    unfold soundL at hs
    rw [Bool.and_eq_true, decide_eq_true_eq] at hs
    exact hs
  obtain ⟨hall, hl⟩ := hsl
  have hb0 : Below w.heap.size w (w.alloc (.cells #[.bool sh, .int .i64 lv] 23)) := (Below.refl _ _).alloc (Nat.le_refl _) _
  have bp := Blk.new w 23 #[.bool sh, .int .i64 lv]
  have h := sound_any A c l _ (hr.on hb0) (by unfold maxLen; omega)
  rw [hs] at h
  have H := Lib.hid h
  have BP := Lib.hid bp
  have HR := Lib.hid (hr.on hb0)
  have HB := Lib.hid hb0
  have HALL := Lib.hid hall
  have hlen := Nat.le_trans (weighL_length sh lv l) hl
  clear h hr bp hb0 hall hs
  have hn : ([] : List El).length + l.length ≤ 1000000000 := by simp; omega
  go_enter Try.func3, Try.ntmps3
  go_wp2_with fail
  refine H.out.mono ?_
  rintro e w2 ⟨rfl, hb2⟩
  have BP2 := Lib.hid (BP.out.on hb2)
  have HR2 := Lib.hid (HR.out.on hb2)
  have HB2 := Lib.hid (HB.out.trans (hb2.mono HB.out.size))
  clear H BP HR HB hb2
  have hbz := HB2.out.size
  go_wp2_with (at_builtin; refine wpList_app kE (v := .slice none 0 0) rfl _ _ rfl l rfl (nil_row kE _ w2.heap.size) rfl HR2.out hA hn (Nat.le_refl _) ?_; intro v3 w3 hrow3 hgr3; have hb3 := grown_none (B := w2.heap.size) hgr3 (Nat.le_refl _); rw [List.nil_append] at hrow3; have BP3 := BP2.out.on hb3; have c0 := BP3.cell 0; have c1 := BP3.cell 1; obtain ⟨A3, c3, n3, hn3, rfl, _, hrd3⟩ := hrow3.rdn)
  have HR3 := Lib.hid (HR2.out.on hb3)
  have HB3 := Lib.hid (HB2.out.trans (hb3.mono HB2.out.size))
  have HO3 := Lib.hid hrd3
  have BP3' := Lib.hid BP3
  clear HR2 HB2 BP2 hb3 hrow3 hgr3 hrd3 BP3 c0 c1
  refine (refOf_any A c l sh lv w3 HR3.out (by omega) HALL.out).mono ?_
  rintro e w4 ⟨v4, rfl, hrow4, hb4⟩
  obtain ⟨A4, c4, n4, hn4, rfl, _, hrd4⟩ := hrow4.rdn
  have HB4 := Lib.hid (HB3.out.trans (hb4.mono HB3.out.size))
  have HO4 := Lib.hid (HO3.out.on hb4)
  have BP4 := Lib.hid (BP3'.out.on hb4)
  have HW4 := Lib.hid hrd4
  clear HR3 HB3 HO3 BP3' hrow4 hb4 hrd4
  generalize hmm : weighL sh lv l = m at *
  have HM := Lib.hid hmm
  clear hmm
  have hn4' := hn4.out
  subst hn4'
  go_wp2_with fail
  go_loopw [7, 8] (fun s7 s8 wr => ∃ k : Nat, s7 = .int .i64 (cntL (m.take k)) ∧ s8 = .int .i64 k ∧ k ≤ m.length ∧ wr = w4) (fun _ i _ => m.length - (intOf i).toNat)
  case atStart => exact ⟨0, rfl, rfl, Nat.zero_le _, rfl⟩
  case round =>
    obtain ⟨k, rfl, rfl, hk, rfl⟩ := hrel
    by_cases hlt : k < m.length
    · obtain ⟨b, off, rfl, hbl, x0, x1, x2, x3⟩ := wt_cells HW4.out (Below.refl _ _) hlt
      have HN := Lib.hid (cnt_next hlt)
      have hcl := Nat.le_trans (cnt_le (m.take k)) (show (m.take k).length ≤ 200 by rw [List.length_take]; omega)
      generalize m.getD k default = x at *
      generalize cntL (m.take k) = n at *
      obtain ⟨p, q, r, s⟩ := x
      simp only at x0 x1 x2 x3
      by_cases h1 : p = 0
      · subst h1
        by_cases h2 : q = 0
        · subst h2
          by_cases h3 : r = 0
          · subst h3
            have HN2 : Hid (cntL (m.take (k + 1)) = n + 1) := Lib.hid (by rw [HN.out]; simp [ignB])
            clear HN
            go_wp2
            go_roundw
            case rel => exact ⟨k + 1, by rw [HN2.out]; go_num, by go_num, by omega, by first | rfl | trivial⟩
            case measure => simp [intOf]; omega
          · have d3 : (r == 0) = false := by simp [h3]
            have HN2 : Hid (cntL (m.take (k + 1)) = n) := Lib.hid (by rw [HN.out]; simp [ignB, h3])
            clear HN
            go_wp2
            go_roundw
            case rel => exact ⟨k + 1, by rw [HN2.out], by go_num, by omega, by first | rfl | trivial⟩
            case measure => simp [intOf]; omega
        · have d2 : (q == 0) = false := by simp [h2]
          have HN2 : Hid (cntL (m.take (k + 1)) = n) := Lib.hid (by rw [HN.out]; simp [ignB, h2])
          clear HN
          go_wp2
          go_roundw
          case rel => exact ⟨k + 1, by rw [HN2.out], by go_num, by omega, by first | rfl | trivial⟩
          case measure => simp [intOf]; omega
      · have d1 : (p == 0) = false := by simp [h1]
        have HN2 : Hid (cntL (m.take (k + 1)) = n) := Lib.hid (by rw [HN.out]; simp [ignB, h1])
        clear HN
        go_wp2
        go_roundw
        case rel => exact ⟨k + 1, by rw [HN2.out], by go_num, by omega, by first | rfl | trivial⟩
        case measure => simp [intOf]; omega
    · have hkl : k = m.length := by omega
      subst hkl
      rw [List.take_length]
      have hn3' := hn3.out
      subst hn3'
      have HC10 : Hid (∀ W, Below wr.heap.size wr W → Calls Try.prog 10 #[.agg #[.bool sh, .int .i64 lv], .slice A3 l.length c3] W fun e w' => ∃ A9 n9 c9, e = .returned (.slice A9 n9 c9) ∧ Hid (n9 = m.length) ∧ RdK kW w' w'.heap.size A9 m ∧ Below wr.heap.size wr w') := Lib.hid fun W h => by
        have := of_any A3 c3 l sh lv W (HO4.out.on h) (by omega)
        rw [HM.out] at this
        refine this.mono ?_
        rintro e w' ⟨v, rfl, hrow, hb⟩
        obtain ⟨A9, c9, n9, hn9, rfl, _, hrd⟩ := hrow.rdn
        exact ⟨A9, n9, c9, rfl, hn9, hrd, h.trans (hb.mono h.size)⟩
      have HC9 : Hid (∀ W A9 n9 c9, n9 = m.length → RdK kW W W.heap.size A9 m → Below wr.heap.size wr W → Calls Try.prog 9 #[.slice A9 n9 c9, .slice A4 m.length c4] W fun e w' => e = .returned (.bool true) ∧ Below wr.heap.size wr w') := Lib.hid fun W A9 n9 c9 hn9 hrd h => by
        subst hn9
        have := same_any A9 A4 c9 c4 m m W hrd (HW4.out.on h) (by omega)
        rw [decide_eq_true (rfl : m = m)] at this
        exact below_acc h this
      have HC11 : Hid (∀ W, Below wr.heap.size wr W → Calls Try.prog 11 #[.agg #[.bool sh, .int .i64 lv], .slice A3 l.length c3] W fun e w' => e = .returned (.int .i64 (cntL m)) ∧ Below wr.heap.size wr w') := Lib.hid fun W h => by
        have := ignored_any A3 c3 l sh lv W (HO4.out.on h) (by omega)
        rw [HM.out] at this
        exact below_acc h this
      have HC7 : Hid (∀ W, Below wr.heap.size wr W → Calls Try.prog 7 #[] W fun e w' => e = .returned (.bool true) ∧ Below wr.heap.size wr w') := Lib.hid fun W h => below_acc h (known_any W)
      have HS : Hid (∀ W, Below wr.heap.size wr W → Below wr.heap.size wr W ∧ W.cell? ⟨w.heap.size, 0, none⟩ = some (.bool sh) ∧ W.cell? ⟨w.heap.size, 1, none⟩ = some (.int .i64 lv)) :=
        Lib.hid fun W h => ⟨h, ((BP4.out.on h).cell 0).trans rfl, ((BP4.out.on h).cell 1).trans rfl⟩
      have hmayc : (mayB lv = true ∧ decide (1 ≤ lv) = true ∧ decide (lv ≤ 4) = true) ∨ (mayB lv = false ∧ decide (1 ≤ lv) = true ∧ decide (lv ≤ 4) = false) ∨ (mayB lv = false ∧ decide (1 ≤ lv) = false) := by
        unfold mayB
        cases decide (1 ≤ lv) <;> cases decide (lv ≤ 4) <;> simp
      have HC12 : Hid (∀ W, Below wr.heap.size wr W → Calls Try.prog 12 #[.agg #[.bool sh, .int .i64 lv]] W fun e w' => e = .returned (.bool (mayB lv)) ∧ Below wr.heap.size wr w') := Lib.hid fun W h => below_acc h (may_any sh lv W)
      clear HO4 HW4 BP4 HM HALL hn3 hn4 hn hlen
      generalize mayB lv = mb at *
      generalize cntL m = cn at *
      rcases hmayc with ⟨rfl, d1, d2⟩ | ⟨rfl, d1, d2⟩ | ⟨rfl, d1⟩
      iterate 2
        · go_wp2_with fail
          go_region_held3 (fun w' => Below wr.heap.size wr w' ∧ w'.cell? ⟨w.heap.size, 0, none⟩ = some (.bool sh) ∧ w'.cell? ⟨w.heap.size, 1, none⟩ = some (.int .i64 lv)) (first | (refine HS.out _ ?_; first | assumption | exact (Below.refl _ _).drew) | go_keep)
            (first
              | (go_at_call 10; go_split_ands; refine (HC10.out _ ?hb).mono ?_; (case hb => assumption); rintro e w' ⟨A9, n9, c9, rfl, hn9, hrd9, hbn⟩)
              | (go_at_call 9; go_split_ands; refine (HC9.out _ _ _ _ hn9.out hrd9 ?hb).mono ?_; (case hb => assumption); rintro e w' ⟨rfl, hbn⟩)
              | (go_at_call 11; go_split_ands; refine (HC11.out _ ?hb).mono ?_; (case hb => assumption); rintro e w' ⟨rfl, hbn⟩)
              | (go_at_call 12; go_split_ands; refine (HC12.out _ ?hb).mono ?_; (case hb => assumption); rintro e w' ⟨rfl, hbn⟩)
              | (go_at_call 7; go_split_ands; refine (HC7.out _ ?hb).mono ?_; (case hb => assumption); rintro e w' ⟨rfl, hbn⟩))
          go_wp2_with fail
          go_ret
          exact ⟨rfl, HB4.out.trans (hbn.mono HB4.out.size)⟩
      · obtain ⟨s1, c0, c1⟩ := HS.out wr (Below.refl _ _)
        go_wp2_with fail
        first
        | go_region_with
            (first
              | (go_at_call 10; refine (HC10.out _ ?hb).mono ?_; (case hb => first | assumption | exact (Below.refl _ _).drew); rintro e w' ⟨A9, n9, c9, rfl, hn9, hrd9, hbn⟩; obtain ⟨_, c0, c1⟩ := HS.out _ hbn)
              | (go_at_call 9; refine (HC9.out _ _ _ _ hn9.out hrd9 ?hb).mono ?_; (case hb => first | assumption | exact (Below.refl _ _).drew); rintro e w' ⟨rfl, hbn⟩; obtain ⟨_, c0, c1⟩ := HS.out _ hbn)
              | (go_at_call 11; refine (HC11.out _ ?hb).mono ?_; (case hb => first | assumption | exact (Below.refl _ _).drew); rintro e w' ⟨rfl, hbn⟩; obtain ⟨_, c0, c1⟩ := HS.out _ hbn)
              | (go_at_call 12; refine (HC12.out _ ?hb).mono ?_; (case hb => first | assumption | exact (Below.refl _ _).drew); rintro e w' ⟨rfl, hbn⟩; obtain ⟨_, c0, c1⟩ := HS.out _ hbn)
              | (go_at_call 7; refine (HC7.out _ ?hb).mono ?_; (case hb => first | assumption | exact (Below.refl _ _).drew); rintro e w' ⟨rfl, hbn⟩; obtain ⟨_, c0, c1⟩ := HS.out _ hbn))
        | fail
        all_goals
          go_wp2_with fail
          go_ret
          exact ⟨rfl, HB4.out.trans (hbn.mono HB4.out.size)⟩
end Go.Proofs.Ytlemiejmjdhcgaa
