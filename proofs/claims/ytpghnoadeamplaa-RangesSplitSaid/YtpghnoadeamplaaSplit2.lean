/- RangesSplit: the walk, where the law asks. -/
import Derived.Test.YtpghnoadeamplaaSplit
import Derived.Deep.Cut
namespace Go.Proofs.Ytpghnoadeamplaa
open Go.RowKit
set_option linter.unusedVariables false
set_option linter.unusedSimpArgs false

/-- What came in, that stays: the ranges, and the one range's own block. -/
structure In0 (B : Nat) (A : Option Addr) (l : List Rg) (x : Rg) (W : World) : Prop where
  rd : RdR W W.heap.size A l
  bx : Blk W B 24 #[.int .i32 x.lo, .int .i32 x.hi, .int .i64 x.val]
theorem In0.on {B : Nat} {A : Option Addr} {l : List Rg} {x : Rg} {W W' : World} (h : In0 B A l x W) (hb : Below W.heap.size W W') : In0 B A l x W' :=
  ⟨h.rd.on hb, h.bx.below hb h.bx.lt⟩
theorem refOf_fine (A : Option Addr) (c n : Nat) (l : List Rg) (w : World) (hn : n = l.length) (hr : RdR w w.heap.size A l) (hl : l.length ≤ 1000000) (h32 : In32 l) (hg : l.all goodB = true) (ha : Apart l) :
    Calls Try.prog 9 #[.slice A n c] w fun e w' => ∃ A' c', e = .returned (.tuple #[.slice A' (ofL l).length c', .int .i64 0]) ∧ Below w.heap.size w w' ∧ RdR w' w'.heap.size A' (ofL l) := by
  refine (refOf_end A c n l w hn hr hl h32).mono ?_
  rintro e w' ⟨v, n', rfl, hb, ⟨h1, _⟩ | ⟨_, h1, _⟩ | ⟨_, _, rfl, hrow⟩⟩
  · rw [hg] at h1; cases h1
  · exact absurd ha h1
  · obtain ⟨A', c', rfl, _, hrd⟩ := hrow.rd0
    exact ⟨A', c', rfl, hb, hrd⟩

theorem below_acc {N : Nat} {args : Array Value} {u : Value} {w0 W : World} (hb : Below w0.heap.size w0 W) (h : Calls Try.prog N args W fun e w' => e = .returned u ∧ Below W.heap.size W w') :
    Calls Try.prog N args W fun e w' => e = .returned u ∧ Below w0.heap.size w0 w' := h.mono fun e w' ⟨h1, h2⟩ => ⟨h1, hb.trans (h2.mono hb.size)⟩
theorem RowR.rdn {w : World} {base : Nat} {v : Value} {l : List Rg} (h : RowR w base v l) : ∃ A c n, Hid (n = l.length) ∧ v = .slice A n c ∧ (A = none → c = 0) ∧ RdR w w.heap.size A l := by
  obtain ⟨A, c, e, h1, h2⟩ := h.rd0
  exact ⟨A, c, _, Lib.hid rfl, e, h1, h2⟩
theorem rd_two {W : World} {B : Nat} {x : Rg} {a : Int} (h : Blk W B 24 #[.int .i32 (a + 1), .int .i32 x.hi, .int .i64 x.val, .int .i32 x.lo, .int .i32 a, .int .i64 x.val]) : RdR W W.heap.size (some ⟨B, 0, none⟩) (twoP x a) := rd_block h rfl

set_option maxHeartbeats 16000000 in
set_option maxRecDepth 100000 in
theorem split_in (A : Option Addr) (c : Nat) (l : List Rg) (x : Rg) (a : Int) (w : World) (hr : RdR w w.heap.size A l) (hA : A = none → c = 0) (h32 : In32 l) (hx : In1 x) (ha : -2147483648 ≤ a ∧ a ≤ 2147483647) (h : Asks l x a) :
    Calls Try.prog 6 #[.slice A l.length c, .agg #[.int .i32 x.lo, .int .i32 x.hi, .int .i64 x.val], .int .i32 a] w fun e w' => e = .returned (.bool true) ∧ Below w.heap.size w w' := by
  obtain ⟨k1, k2, k3, k4, k5, k6, k7⟩ := h
  have hB := Blk.new w 24 #[.int .i32 x.lo, .int .i32 x.hi, .int .i64 x.val]
  have c0 := hB.cell 0
  have c1 := hB.cell 1
  have hB0 : Below w.heap.size w (w.alloc (.cells #[.int .i32 x.lo, .int .i32 x.hi, .int .i64 x.val] 24)) := (Below.refl _ _).alloc (Nat.le_refl _) _
  have I0 := Lib.hid (In0.mk (hr.on hB0) hB)
  have HB0 := Lib.hid hB0
  have H32 := Lib.hid h32
  have HX := Lib.hid hx
  unfold In1 at hx
  have d1 : decide ((200 : Int) < l.length) = false := by simp only [decide_eq_false_iff_not]; omega
  have e1 : decide (200 < l.length) = false := by simp only [decide_eq_false_iff_not]; omega
  have d2 : decide (x.lo < 0) = false := by simp only [decide_eq_false_iff_not]; omega
  have d3 : decide (x.hi < x.lo) = false := by simp only [decide_eq_false_iff_not]; omega
  have hw : IntKind.i32.wrap (x.hi - x.lo) = x.hi - x.lo := IntWalk.i32_in _ (by omega)
  have d4 : decide (99 < x.hi - x.lo) = false := by simp only [decide_eq_false_iff_not]; omega
  have d5 : decide (a < x.lo) = false := by simp only [decide_eq_false_iff_not]; omega
  have d6 : decide (x.hi ≤ a) = false := by simp only [decide_eq_false_iff_not]; omega
  have d7 : decide (1073741824 < x.hi) = false := by simp only [decide_eq_false_iff_not]; omega
  clear hB hB0 hr h32
  go_enter Try.func6, Try.ntmps6
  go_wp2_with fail
  clear d1 d2 d3 d4 d5 d6 d7 hw c0 c1
  refine (of_end A c _ l _ rfl I0.out.rd (by omega) H32.out).mono ?_
  rintro e w1 ⟨q, n, rfl, hof⟩
  have I1 := Lib.hid (I0.out.on hof.1)
  have HB1 := Lib.hid (HB0.out.trans (hof.1.mono HB0.out.size))
  have HF1 : ∀ w', Below w1.heap.size w1 w' → Below w.heap.size w w' := fun w' h => HB1.out.trans (h.mono HB1.out.size)
  have HF := Lib.hid HF1
  clear I0 HB0 HF1
  obtain ⟨_, hof⟩ := hof
  have hbx := I1.out.bx
  have hlt := hbx.lt
  have c0 := hbx.cell 0
  have c1 := hbx.cell 1
  have c2 := hbx.cell 2
  have hsz := HB1.out.size
  clear hbx
  have hout : (q = none ∧ (n = 2 ∨ n = 9)) ∨ (n = 0 ∧ l.all goodB = true ∧ Apart l ∧ ∃ g, q = some ⟨g, 0, none⟩ ∧ MapV w1 g (ofL l)) := by
    rcases hof with ⟨_, h1, h2⟩ | ⟨_, _, h1, h2⟩ | ⟨h1, h2, h3, g, v, h4, h5, h6⟩
    · exact .inl ⟨h1, .inl h2⟩
    · exact .inl ⟨h1, .inr h2⟩
    · exact .inr ⟨h3, h1, h2, g, h4, h6.mapV⟩
  clear hof
  rcases hout with ⟨rfl, hn⟩ | ⟨rfl, hg, hap, g, rfl, hmv⟩
  · rcases hn with rfl | rfl
    all_goals
      go_wp2_with fail
      refine (with_nil x w1).mono ?_
      rintro e w2 ⟨rfl, hb2⟩
      go_wp2_with fail
      refine (num_any _ _).mono ?_
      rintro e w2 ⟨rfl, rfl⟩
      go_wp2_with fail
      refine (num_any _ _).mono ?_
      rintro e w2 ⟨rfl, rfl⟩
      go_wp2_with fail
      refine (known_any _).mono ?_
      rintro e w3 ⟨rfl, hb3⟩
      go_wp2_with fail
      go_ret
      exact ⟨rfl, HF.out _ (hb2.trans (hb3.mono hb2.size))⟩
  · have hgd := all_ok.1 hg
    have hcan := (ofL_canon hgd hap).1
    have hlen := Nat.le_trans (ofL_length l) k1
    have HIm := Lib.hid (ofL_in H32.out)
    have H33 := Lib.hid (in32_append.2 ⟨HIm.out, in32_one.2 HX.out⟩)
    have HMV := Lib.hid hmv
    clear hmv
    go_wp2_with fail
    refine (with_any g (ofL l) x w1 HMV.out (by omega) H33.out).mono ?_
    rintro e w2 ⟨q2, n2, rfl, hof⟩
    have I2 := Lib.hid (I1.out.on hof.1)
    have HM2 := Lib.hid (HMV.out.on hof.1)
    have HB2 := Lib.hid (HB1.out.trans (hof.1.mono HB1.out.size))
    have hz2 := hof.1.size
    clear c0 c1 c2 I1 HB1 HMV HF
    have hout : (n2 = 2 ∨ n2 = 9) ∨ (n2 = 0 ∧ Apart (ofL l ++ [x]) ∧ ∃ g2, q2 = some ⟨g2, 0, none⟩ ∧ MapV w2 g2 (ofL (ofL l ++ [x]))) := by
      rcases hof.2 with ⟨_, h1, h2⟩ | ⟨_, _, h1, h2⟩ | ⟨h1, h2, h3, g, v, h4, h5, h6⟩
      · exact .inl (.inl h2)
      · exact .inl (.inr h2)
      · exact .inr ⟨h3, h2, g, h4, h6.mapV⟩
    clear hof
    rcases hout with hn | ⟨rfl, hap2, g2, rfl, hmv2⟩
    · rcases hn with rfl | rfl
      all_goals
        go_wp2_with fail
        refine (num_any _ _).mono ?_
        rintro e w2 ⟨rfl, rfl⟩
        go_wp2_with fail
        refine (num_any _ _).mono ?_
        rintro e w2 ⟨rfl, rfl⟩
        go_wp2_with fail
        refine (known_any _).mono ?_
        rintro e w3 ⟨rfl, hb3⟩
        go_wp2_with fail
        go_ret
        exact ⟨rfl, HB2.out.trans (hb3.mono HB2.out.size)⟩
    · go_wp2_with fail
      refine (num_any _ _).mono ?_
      rintro e w2 ⟨rfl, rfl⟩
      go_wp2_with fail
      refine (num_any _ _).mono ?_
      rintro e w2 ⟨rfl, rfl⟩
      have c0 := I2.out.bx.cell 0
      have c1 := I2.out.bx.cell 1
      have c2 := I2.out.bx.cell 2
      go_wp2_with fail
      have hbl := I2.out.bx.lt
      have hz := HB2.out.size
      obtain ⟨p1, p2, p3⟩ := split_same (d := [x]) hgd hap ⟨k2, k3⟩ hap2 (fun z hz => by simp at hz; subst hz; exact ⟨k2, k3⟩) (List.pairwise_singleton _ _) (fun r v => Iff.rfl)
      obtain ⟨q1, q2, q3⟩ := split_same (d := twoP x a) hgd hap ⟨k2, k3⟩ hap2 (two_ok k2 k5 k6) (two_apart x a) (two_at k5 k6)
      obtain ⟨r1, r2, r3⟩ := split_same (d := ones x (x.hi - x.lo + 1).toNat) hgd hap ⟨k2, k3⟩ hap2 (ones_ok k2 _) (ones_apart x _) (ones_at (by omega))
      have hmany : manyL (ofL (ofL l ++ [x])) = manyL (ofL l) + (x.hi - x.lo + 1) := by
        rw [manyL_ofL, manyL_append]; simp [manyL]
      have hylen : (ofL (ofL l ++ [x])).length ≤ 201 := Nat.le_trans (ofL_length _) (by simp; omega)
      have HMANY := Lib.hid hmany
      have HMW := Lib.hid hmv2
      have hle1 : l.length ≤ 1000000000000 := by omega
      have hle2 : l.length + 1 ≤ 1000000000000 := by omega
      have hle3 : (l ++ [x]).length ≤ 1000000 := by simp; omega
      have H34 : Hid (∀ W A3 c3 n3, n3 = (l ++ [x]).length → RdR W W.heap.size A3 (l ++ [x]) → Calls Try.prog 9 #[.slice A3 n3 c3] W fun e w' => ∃ A' c', e = .returned (.tuple #[.slice A' (ofL (ofL l ++ [x])).length c', .int .i64 0]) ∧ Below W.heap.size W w' ∧ RdR w' w'.heap.size A' (ofL (ofL l ++ [x]))) :=
        Lib.hid fun W A3 c3 n3 hn hr => by
          have := refOf_fine A3 c3 n3 (l ++ [x]) W hn hr hle3 (in32_append.2 ⟨H32.out, in32_one.2 HX.out⟩) (all_ok.2 p1) p2
          rw [p3] at this
          exact this
      clear p1 p2 p3 H33 hmany hmv2
      generalize ofL (ofL l ++ [x]) = Y at *
      go_cut [11, 12] from 19 (fun s11 s12 wc => ∃ A' c', s11 = .slice A' Y.length c' ∧ s12 = .int .i64 0 ∧ Below w2.heap.size w2 wc ∧ RdR wc wc.heap.size A' Y)
      case first =>
        clear HM2 HIm HMANY HMW q1 q2 q3 r1 r2 r3
        go_region_held3 (fun w' => w'.cell? ⟨w.heap.size, 0, none⟩ = some (.int .i32 x.lo) ∧ w'.cell? ⟨w.heap.size, 1, none⟩ = some (.int .i32 x.hi) ∧ w'.cell? ⟨w.heap.size, 2, none⟩ = some (.int .i64 x.val)) (first | go_keep | (go_split_ands; refine ⟨?_, ?_, ?_⟩ <;> (rw [hb4.cell (by simp <;> omega)]; assumption)) | (go_split_ands; refine ⟨?_, ?_, ?_⟩ <;> (rw [hb3.cell (by simp <;> omega)]; assumption)) | (go_split_ands; refine ⟨?_, ?_, ?_⟩ <;> (rw [hb2.cell (by simp <;> omega)]; assumption)))
          (first
            | (go_at_call 9; refine (H34.out _ _ _ _ (len_snoc l x) hrow3.rdS).mono ?_; rintro e w12 ⟨A5, c5, rfl, hb4, hrd5⟩)
            | (refine step_rdN (w := w2.drew) (by rfl) _ _ (by rfl) l (by rfl) (by rfl) I2.out.rd.drew hA hle1 (Nat.le_refl _) ?_; intro v2 w10 hrow2 hgr2; have hb2 := grown_none (B := w2.heap.size) hgr2 (Nat.le_refl _); have hz2 : w2.heap.size ≤ w10.heap.size := hb2.size)
            | (refine step_rdN (w := (w2.alloc _).drew) (by rfl) _ _ (by rfl) l (by rfl) (by rfl) (I2.out.rd.below ((Below.refl _ _).alloc (Nat.le_refl _) _).drew) hA hle1 (le_alloc_drew (Nat.le_refl _)) ?_; intro v2 w10 hrow2 hgr2; have hb2 := grown_none (B := w2.heap.size) hgr2 (le_alloc_drew (Nat.le_refl _)); have hX2 := blk_grown hgr2; have hz2 : w2.heap.size ≤ w10.heap.size := Nat.le_trans (le_alloc_drew (Nat.le_refl _)) hgr2.size)
            | (refine step_rdR (w := w10.alloc _) (by rfl) _ _ (by rfl) x (by rfl) (hrow2.alloc _) (by rfl) (Blk.new _ _ _) hle2 (le_alloc hb2.size) ?_; intro g1 c1' w11 hrow3 hgr hat; have hb3 := row_below (hrow2.alloc _) hgr (le_alloc hb2.size); have hz3 : w10.heap.size ≤ w11.heap.size := Nat.le_trans (le_alloc (Nat.le_refl _)) hgr.size)
            | (refine step_rdR (w := w10) (by rfl) _ _ (by rfl) x (by rfl) hrow2 (by rfl) hX2 hle2 hz2 ?_; intro g1 c1' w11 hrow3 hgr hat; have hb3 := row_below hrow2 hgr hz2; have hz3 : w10.heap.size ≤ w11.heap.size := hgr.size))
        all_goals
          have H9 : Below w2.heap.size w2 w12 := by
            first
            | exact (((Below.refl _ w2).drew.trans hb2).trans (((Below.refl _ _).alloc hz2 _).trans hb3)).trans (hb4.mono (Nat.le_trans hz2 hz3))
            | exact (((((Below.refl _ w2).alloc (Nat.le_refl _) _).drew.trans hb2).trans hb3)).trans (hb4.mono (Nat.le_trans hz2 hz3))
          go_wp2_with fail
          go_meet
          case rel => exact ⟨A5, c5, rfl, rfl, H9, hrd5⟩
      case rest =>
        obtain ⟨wb, hwb⟩ : ∃ wb : World, wb = wc := ⟨_, rfl⟩
        subst hwb
        obtain ⟨AJ, cJ, rfl, rfl, hb3, hrd3⟩ := hcut
        have I3 := Lib.hid (I2.out.on hb3)
        have HM3 := Lib.hid (HM2.out.on hb3)
        have HW3 := Lib.hid (HMW.out.on hb3)
        have HJ3 := Lib.hid hrd3
        have HB3 := Lib.hid (HB2.out.trans (hb3.mono HB2.out.size))
        clear hb3 hrd3 I2 HM2 HMW HB2 H34 hbl hz hz2 hlt hsz c0 c1 c2 hle1 hle2 hle3
        have c0 := I3.out.bx.cell 0
        have c1 := I3.out.bx.cell 1
        have c2 := I3.out.bx.cell 2
        have hbl := I3.out.bx.lt
        have hz := HB3.out.size
        have hle1 : l.length ≤ 1000000000000 := by omega
        have hle2 : l.length + 2 ≤ 1000000000000 := by omega
        have hw1 : IntKind.i32.wrap (a + 1) = a + 1 := IntWalk.i32_in _ (by omega)
        go_wp2_with fail
        have H34 : Hid (∀ W A3 c3 n3, n3 = (l ++ twoP x a).length → RdR W W.heap.size A3 (l ++ twoP x a) → Calls Try.prog 8 #[.slice A3 n3 c3] W fun e w' => ∃ g', e = .returned (.tuple #[.pointer (some ⟨g', 0, none⟩), .int .i64 0]) ∧ Below W.heap.size W w' ∧ MapV w' g' Y) :=
          Lib.hid fun W A3 c3 n3 hn hr => by
            have := of_fine A3 c3 n3 (l ++ twoP x a) W hn hr (by simp [twoP]; omega) (in32_append.2 ⟨H32.out, two_in HX.out k2 k5 k6⟩) (all_ok.2 q1) q2
            rw [q3] at this
            exact this.mono fun e w' ⟨g', h1, h2, h3, _⟩ => ⟨g', h1, h2, h3⟩
        have HR1 := Lib.hid r1
        have HR2 := Lib.hid r2
        have HR3 := Lib.hid r3
        clear q1 q2 q3 r1 r2 r3
        go_cut [13, 14] from 19 (fun s13 s14 wc' => ∃ g', s13 = .pointer (some ⟨g', 0, none⟩) ∧ s14 = .int .i64 0 ∧ Below wb.heap.size wb wc' ∧ MapV wc' g' Y)
        case first =>
          clear HM3 HIm HMANY HW3 HR1 HR2 HR3 HJ3
          go_region_held3 (fun w' => w'.cell? ⟨w.heap.size, 0, none⟩ = some (.int .i32 x.lo) ∧ w'.cell? ⟨w.heap.size, 1, none⟩ = some (.int .i32 x.hi) ∧ w'.cell? ⟨w.heap.size, 2, none⟩ = some (.int .i64 x.val)) (first | go_keep | (go_split_ands; refine ⟨?_, ?_, ?_⟩ <;> (rw [hb4.cell (by simp <;> omega)]; assumption)) | (go_split_ands; refine ⟨?_, ?_, ?_⟩ <;> (rw [hb3.cell (by simp <;> omega)]; assumption)) | (go_split_ands; refine ⟨?_, ?_, ?_⟩ <;> (rw [hb2.cell (by simp <;> omega)]; assumption)))
            (first
              | (go_at_call 8; refine (H34.out _ _ _ _ hn5.out hrd5).mono ?_; rintro e w12 ⟨g5, rfl, hb4, hmv5⟩)
              | (fail_if_success (have hq := hn5)
                 first
                 | (refine step_rdN (w := wb.drew) (by rfl) _ _ (by rfl) l (by rfl) (by rfl) I3.out.rd.drew hA hle1 (Nat.le_refl _) ?_; intro v2 w10 hrow2 hgr2; have hb2 := grown_none (B := wb.heap.size) hgr2 (Nat.le_refl _); have hz2 : wb.heap.size ≤ w10.heap.size := hb2.size)
                 | (refine step_rdN (w := (wb.alloc _).drew) (by rfl) _ _ (by rfl) l (by rfl) (by rfl) (I3.out.rd.below ((Below.refl _ _).alloc (Nat.le_refl _) _).drew) hA hle1 (le_alloc_drew (Nat.le_refl _)) ?_; intro v2 w10 hrow2 hgr2; have hb2 := grown_none (B := wb.heap.size) hgr2 (le_alloc_drew (Nat.le_refl _)); have hX2 := blk_grown hgr2; have hz2 : wb.heap.size ≤ w10.heap.size := Nat.le_trans (le_alloc_drew (Nat.le_refl _)) hgr2.size)
                 | (refine step_rdA (w := w10.alloc _) (by rfl) _ _ (by rfl) (twoP x a) (by rfl) (hrow2.alloc _) (by rfl) (rd_two (Blk.new _ _ _)) (fun e => by cases e) hle2 (le_alloc hb2.size) ?_; intro v3 w11 hrow3 hgr; have hb3 := row_below (hrow2.alloc _) hgr (le_alloc hb2.size); have hz3 : w10.heap.size ≤ w11.heap.size := Nat.le_trans (le_alloc (Nat.le_refl _)) hgr.size; obtain ⟨A5, c5, n5, hn5, rfl, _, hrd5⟩ := hrow3.rdn)
                 | (refine step_rdA (w := w10) (by rfl) _ _ (by rfl) (twoP x a) (by rfl) hrow2 (by rfl) (rd_two hX2) (fun e => by cases e) hle2 hz2 ?_; intro v3 w11 hrow3 hgr; have hb3 := row_below hrow2 hgr hz2; have hz3 : w10.heap.size ≤ w11.heap.size := hgr.size; obtain ⟨A5, c5, n5, hn5, rfl, _, hrd5⟩ := hrow3.rdn)))
          all_goals
            have H9 : Below wb.heap.size wb w12 := by
              first
              | exact (((Below.refl _ wb).drew.trans hb2).trans (((Below.refl _ _).alloc hz2 _).trans hb3)).trans (hb4.mono (Nat.le_trans hz2 hz3))
              | exact (((((Below.refl _ wb).alloc (Nat.le_refl _) _).drew.trans hb2).trans hb3)).trans (hb4.mono (Nat.le_trans hz2 hz3))
            go_wp2_with fail
            go_meet
            case rel => exact ⟨g5, rfl, rfl, H9, hmv5⟩
        case rest =>
          obtain ⟨g3, rfl, rfl, hb4, hmv4⟩ := hcut
          have I4 := Lib.hid (I3.out.on hb4)
          have HM4 := Lib.hid (HM3.out.on hb4)
          have HW4 := Lib.hid (HW3.out.on hb4)
          have HJ4 := Lib.hid (HJ3.out.on hb4)
          have HT4 := Lib.hid hmv4
          have HB4 := Lib.hid (HB3.out.trans (hb4.mono HB3.out.size))
          clear hb4 hmv4 I3 HM3 HW3 HJ3 HB3 H34 hbl hz c0 c1 c2 hle1 hle2
          have c0 := I4.out.bx.cell 0
          have c1 := I4.out.bx.cell 1
          have c2 := I4.out.bx.cell 2
          have hbl := I4.out.bx.lt
          have hz := HB4.out.size
          have hle1 : ([] : List Rg).length + l.length ≤ 1000000000000 := by simp; omega
          obtain ⟨wd, hwd⟩ : ∃ wd : World, wd = wc := ⟨_, rfl⟩
          subst hwd
          have hkk : ((x.hi - x.lo + 1).toNat : Int) = x.hi - x.lo + 1 := by omega
          have hk100 : (x.hi - x.lo + 1).toNat ≤ 100 := by omega
          generalize (x.hi - x.lo + 1).toNat = kk at *
          go_wp2_with (at_builtin; refine wpList_rdA (v := .slice none 0 0) rfl _ _ rfl l rfl (nil_row _ wd.heap.size) rfl I4.out.rd hA hle1 (Nat.le_refl _) ?_; intro v5 w5 hrow5 hgr5; have hb5 : Below wd.heap.size wd w5 := grown_none hgr5 (Nat.le_refl _); rw [List.nil_append] at hrow5; have hbx5 := (hb5.cell (p := ⟨w.heap.size, 0, none⟩) hbl).trans c0; obtain ⟨A5, c5, n5, hn5, rfl, _, _⟩ := hrow5.rdn)
          go_loopw [15, 16] (fun o r wr => ∃ (k n6 c6 : Nat) (A6 : Option Addr), o = .slice A6 n6 c6 ∧ r = .int .i32 (x.lo + (k : Int)) ∧ k ≤ kk ∧ Hid (n6 = (l ++ ones x k).length) ∧ Hid (RowR wr wd.heap.size (.slice A6 n6 c6) (l ++ ones x k)) ∧ Below wd.heap.size wd wr) (fun _ r _ => (x.hi + 1 - intOf r).toNat)
          case atStart => exact ⟨0, n5, c5, A5, rfl, by simp, Nat.zero_le _, Lib.hid (by rw [ones_zero, List.append_nil]; exact hn5.out), Lib.hid (by rw [ones_zero, List.append_nil]; exact hrow5), hb5⟩
          case round =>
            clear hrow5 hgr5 hb5 hbx5
            obtain ⟨k, n6, c6, A6, rfl, rfl, hk, Hn, Hrow, hb⟩ := hrel
            have c0 := (hb.cell (p := ⟨w.heap.size, 0, none⟩) hbl).trans c0
            have c1 := (hb.cell (p := ⟨w.heap.size, 1, none⟩) hbl).trans c1
            have c2 := (hb.cell (p := ⟨w.heap.size, 2, none⟩) hbl).trans c2
            have hbz := hb.size
            by_cases hlt : k < kk
            · have HN : Hid (l ++ ones x (k + 1) = (l ++ ones x k) ++ [⟨x.lo + (k : Int), x.lo + (k : Int), x.val⟩]) := Lib.hid (by rw [ones_succ, ← List.append_assoc])
              have hml : (l ++ ones x k).length ≤ 400 := by rw [List.length_append, ones_length]; omega
              generalize hmm : l ++ ones x k = m at *
              clear hmm
              have Hn' := Hn.out
              subst Hn'
              have hlen1 : m.length + 1 ≤ 1000000000000 := by omega
              have hle : x.lo + (k : Int) ≤ x.hi := by omega
              have hw1 : IntKind.i32.wrap (x.lo + (k : Int) + 1) = x.lo + (k : Int) + 1 := IntWalk.i32_in _ (by omega)
              go_wp2_with (at_builtin; refine wpList_oneR rfl _ _ rfl ⟨x.lo + (k : Int), x.lo + (k : Int), x.val⟩ rfl (Hrow.out.alloc _) rfl (Blk.new _ _ _) hlen1 (le_alloc hbz) ?_; intro g1 c7 w7 hrow7 hgr7 hat7; have Hrow7 := Lib.hid hrow7; clear hrow7)
              go_roundw
              case rel =>
                refine ⟨k + 1, m.length + 1, c7, some ⟨g1, 0, none⟩, rfl, by first | (simp; done) | (simp; omega) | go_num, by omega, Lib.hid (by rw [HN.out]; simp), Lib.hid (by rw [HN.out]; exact Hrow7.out), ?_⟩
                exact (hb.alloc hbz _).grown hgr7 (le_alloc hbz) (fun kk hk => (World.ownsRow.lt Hrow.out kk hk).1)
              case measure => simp [intOf]; omega
            · have hkl : k = kk := by omega
              subst hkl
              have hgt : ¬ (x.lo + (k : Int) ≤ x.hi) := by omega
              go_wp2_with fail
              have hof := of_fine A6 c6 n6 (l ++ ones x k) wr Hn.out Hrow.out.rdS (by rw [List.length_append, ones_length]; omega) (in32_append.2 ⟨H32.out, ones_in HX.out k2 (by omega)⟩) (all_ok.2 HR1.out) HR2.out
              rw [HR3.out] at hof
              refine hof.mono ?_
              rintro e w6 ⟨g4, rfl, hb6, hmv6, _⟩
              have hbb : Below wd.heap.size wd w6 := hb.trans (hb6.mono hbz)
              have hyl : Y.length ≤ 1000000 := by omega
              have HO1 : Hid (∀ W, Below w6.heap.size w6 W → Calls Try.prog 16 #[.pointer (some ⟨g2, 0, none⟩), .slice AJ Y.length cJ, .int .i64 0] W fun e w' => e = .returned (.bool true) ∧ Below w6.heap.size w6 w') :=
                Lib.hid fun W h => below_acc h (once_any (some ⟨g2, 0, none⟩) Y AJ cJ 0 W ((HW4.out.on hbb).on h).mapR hyl ((HJ4.out.on hbb).on h))
              have HO2 : Hid (∀ W, Below w6.heap.size w6 W → Calls Try.prog 16 #[.pointer (some ⟨g3, 0, none⟩), .slice AJ Y.length cJ, .int .i64 0] W fun e w' => e = .returned (.bool true) ∧ Below w6.heap.size w6 w') :=
                Lib.hid fun W h => below_acc h (once_any (some ⟨g3, 0, none⟩) Y AJ cJ 0 W ((HT4.out.on hbb).on h).mapR hyl ((HJ4.out.on hbb).on h))
              have HO3 : Hid (∀ W, Below w6.heap.size w6 W → Calls Try.prog 16 #[.pointer (some ⟨g4, 0, none⟩), .slice AJ Y.length cJ, .int .i64 0] W fun e w' => e = .returned (.bool true) ∧ Below w6.heap.size w6 w') :=
                Lib.hid fun W h => below_acc h (once_any (some ⟨g4, 0, none⟩) Y AJ cJ 0 W (hmv6.on h).mapR hyl ((HJ4.out.on hbb).on h))
              have hbnd := manyL_bound (may_of HIm.out hcan.1) (ofL l).length (Nat.le_refl _)
              rw [List.take_length] at hbnd
              have hmayY : ∀ j, j < Y.length → May (Y.getD j default) := by
                rw [← HR3.out]
                exact may_of (ofL_in (in32_append.2 ⟨H32.out, ones_in HX.out k2 (by omega)⟩)) (ofL_canon HR1.out HR2.out).1.1
              have HM1 : Hid (∀ W, Below w6.heap.size w6 W → Calls Try.prog 14 #[.pointer (some ⟨g2, 0, none⟩)] W fun e w' => e = .returned (.int .i64 (manyL (ofL l) + (x.hi - x.lo) + 1)) ∧ Below w6.heap.size w6 w') :=
                Lib.hid fun W h => below_acc h (by
                  have := many_any (some ⟨g2, 0, none⟩) Y W ((HW4.out.on hbb).on h).mapR hyl hmayY
                  rw [HMANY.out, ← Int.add_assoc] at this
                  exact this)
              have HM2 : Hid (∀ W, Below w6.heap.size w6 W → Calls Try.prog 14 #[.pointer (some ⟨g, 0, none⟩)] W fun e w' => e = .returned (.int .i64 (manyL (ofL l))) ∧ Below w6.heap.size w6 w') :=
                Lib.hid fun W h => below_acc h (many_any (some ⟨g, 0, none⟩) (ofL l) W ((HM4.out.on hbb).on h).mapR (by omega) (may_of HIm.out hcan.1))
              have HK : Hid (∀ W, Below w6.heap.size w6 W → Calls Try.prog 7 #[] W fun e w' => e = .returned (.bool true) ∧ Below w6.heap.size w6 w') :=
                Lib.hid fun W h => below_acc h (known_any W)
              have hx6 := I4.out.bx.below hbb hbl
              have HS : Hid (∀ W, Below w6.heap.size w6 W → Below w6.heap.size w6 W ∧ W.cell? ⟨w.heap.size, 0, none⟩ = some (.int .i32 x.lo) ∧ W.cell? ⟨w.heap.size, 1, none⟩ = some (.int .i32 x.hi)) :=
                Lib.hid fun W h => ⟨h, (h.cell (p := ⟨w.heap.size, 0, none⟩) hx6.lt).trans (hx6.cell 0), (h.cell (p := ⟨w.heap.size, 1, none⟩) hx6.lt).trans (hx6.cell 1)⟩
              have HBF := Lib.hid (HB4.out.trans (hbb.mono hz))
              have hlen2 : ((ofL l).length : Int) ≤ 200 := by omega
              generalize manyL (ofL l) = M at *
              have hM1 : 0 ≤ M := hbnd.1
              have hM2 : M ≤ 429496729600 := by have := hbnd.2; omega
              clear hbnd hmayY hof hb hb6 hmv6 hbb hx6 c0 c1 c2 Hrow Hn HR1 HR2 HR3 HMANY HW4 HJ4 HT4 HM4 HIm I4 HB4 hcan hgd hap hap2 hgt hkk hk100 hlen hlen2 hylen hyl hbl hz hbz hle1 hw1 H32 HX hA
              have hwa : IntKind.i32.wrap (x.hi - x.lo) = x.hi - x.lo := IntWalk.i32_in _ (by omega)
              have hwb : IntKind.i64.wrap (x.hi - x.lo) = x.hi - x.lo := IntWalk.i64_in _ (by clear hwa; omega)
              have hwc : IntKind.i64.wrap (M + (x.hi - x.lo)) = M + (x.hi - x.lo) := IntWalk.i64_in _ (by clear hwa hwb; omega)
              have hwd : IntKind.i64.wrap (M + (x.hi - x.lo) + 1) = M + (x.hi - x.lo) + 1 := IntWalk.i64_in _ (by clear hwa hwb hwc; omega)
              go_wp2_with fail
              go_region_held3 (fun w' => Below w6.heap.size w6 w' ∧ w'.cell? ⟨w.heap.size, 0, none⟩ = some (.int .i32 x.lo) ∧ w'.cell? ⟨w.heap.size, 1, none⟩ = some (.int .i32 x.hi)) (first | (refine HS.out _ ?_; first | assumption | exact (Below.refl _ _).drew) | go_keep)
                (first
                  | (go_at_call 10; refine (num_any _ _).mono ?_; rintro e w' ⟨rfl, rfl⟩)
                  | (go_at_call 16; go_split_ands; first | (refine (HO1.out _ ?hb).mono ?_; (case hb => assumption); rintro e w' ⟨rfl, hbn⟩; clear HO1) | (refine (HO2.out _ ?hb).mono ?_; (case hb => assumption); rintro e w' ⟨rfl, hbn⟩; clear HO2) | (refine (HO3.out _ ?hb).mono ?_; (case hb => assumption); rintro e w' ⟨rfl, hbn⟩; clear HO3))
                  | (go_at_call 14; go_split_ands; first | (refine (HM1.out _ ?hb).mono ?_; (case hb => assumption); rintro e w' ⟨rfl, hbn⟩; clear HM1) | (refine (HM2.out _ ?hb).mono ?_; (case hb => assumption); rintro e w' ⟨rfl, hbn⟩; clear HM2))
                  | (go_at_call 7; go_split_ands; refine (HK.out _ ?hb).mono ?_; (case hb => assumption); rintro e w' ⟨rfl, hbn⟩))
              go_wp2_with fail
              go_ret
              exact ⟨rfl, HBF.out.trans (hbn.mono HBF.out.size)⟩
end Go.Proofs.Ytpghnoadeamplaa
