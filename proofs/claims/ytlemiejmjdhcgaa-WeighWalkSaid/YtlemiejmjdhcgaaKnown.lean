/- weigh.Ignored; known; the reference's Of, whatever the options. -/
import Derived.Test.YtlemiejmjdhcgaaOf
namespace Go.Proofs.Ytlemiejmjdhcgaa
open Go.RowKit
set_option linter.unusedVariables false
set_option linter.unusedSimpArgs false

def ignB (x : Wt) : Bool := decide (x.a = 0) && (decide (x.b = 0) && decide (x.c = 0))
/-- How many have no weight but the fourth one. -/
def cntL (l : List Wt) : Nat := l.countP ignB
theorem cnt_next {l : List Wt} {k : Nat} (hk : k < l.length) : cntL (l.take (k + 1)) = cntL (l.take k) + (if ignB (l.getD k default) = true then 1 else 0) := by
  unfold cntL
  rw [take_snoc hk, List.countP_append]
  simp [List.countP_cons]
theorem cnt_le (l : List Wt) : cntL l ≤ l.length := List.countP_le_length
theorem weighL_length (sh : Bool) (lv : Int) (l : List El) : (weighL sh lv l).length ≤ l.length := by
  unfold weighL
  split
  · rw [ofE_length]; exact Nat.le_refl _
  · simp

theorem refOf_any (A : Option Addr) (c : Nat) (l : List El) (sh : Bool) (lv : Int) (w : World) (hr : RdK kE w w.heap.size A l) (hl : l.length ≤ 1000) (hs : l.all soundE = true) :
    Calls Try.prog 8 #[.agg #[.bool sh, .int .i64 lv], .slice A l.length c] w fun e w' => ∃ v, e = .returned v ∧ RowK kW w' w.heap.size v (weighL sh lv l) ∧ Below w.heap.size w w' := by
  by_cases h1 : 1 ≤ lv
  · by_cases h4 : lv ≤ 4
    · have e : weighL sh lv l = ofE sh false l := by unfold weighL; rw [if_pos (by simp [mayB, h1, h4])]
      rw [e]
      exact refOf_main A c l sh lv w hr hl hs h1 h4
    · have e : weighL sh lv l = [] := by unfold weighL; rw [if_neg (by simp [mayB]; omega)]
      rw [e]
      have hb0 : Below w.heap.size w (w.alloc (.cells #[.bool sh, .int .i64 lv] 23)) := (Below.refl _ _).alloc (Nat.le_refl _) _
      have bp := Blk.new w 23 #[.bool sh, .int .i64 lv]
      have c1 := bp.cell 1
      have d1 : decide (lv < 1) = false := by simp only [decide_eq_false_iff_not]; omega
      have d4 : decide (4 < lv) = true := by simp only [decide_eq_true_eq]; omega
      clear bp hr
      go_enter Try.func8, Try.ntmps8
      go_wp2
      go_ret
      exact ⟨_, rfl, nil_row _ _ _, hb0⟩
  · have e : weighL sh lv l = [] := by unfold weighL; rw [if_neg (by simp [mayB]; omega)]
    rw [e]
    have hb0 : Below w.heap.size w (w.alloc (.cells #[.bool sh, .int .i64 lv] 23)) := (Below.refl _ _).alloc (Nat.le_refl _) _
    have bp := Blk.new w 23 #[.bool sh, .int .i64 lv]
    have c1 := bp.cell 1
    have d1 : decide (lv < 1) = true := by simp only [decide_eq_true_eq]; omega
    clear bp hr
    go_enter Try.func8, Try.ntmps8
    go_wp2
    go_ret
    exact ⟨_, rfl, nil_row _ _ _, hb0⟩

set_option maxHeartbeats 4000000 in
theorem ignored_any (A : Option Addr) (c : Nat) (l : List El) (sh : Bool) (lv : Int) (w : World) (hr : RdK kE w w.heap.size A l) (hl : l.length ≤ 1000000) :
    Calls Try.prog 11 #[.agg #[.bool sh, .int .i64 lv], .slice A l.length c] w fun e w' => e = .returned (.int .i64 (cntL (weighL sh lv l))) ∧ Below w.heap.size w w' := by
  have hb0 : Below w.heap.size w (w.alloc (.cells #[.bool sh, .int .i64 lv] 23)) := (Below.refl _ _).alloc (Nat.le_refl _) _
  have bp := Blk.new w 23 #[.bool sh, .int .i64 lv]
  have c0 := bp.cell 0
  have c1 := bp.cell 1
  have HO := Lib.hid (of_any A c l sh lv _ (hr.on hb0) hl)
  have hlen := Nat.le_trans (weighL_length sh lv l) hl
  clear bp hr
  generalize weighL sh lv l = m at *
  go_enter Try.func11, Try.ntmps11
  go_wp2_with fail
  refine HO.out.mono ?_
  rintro e w2 ⟨v, rfl, hrow, hb2⟩
  obtain ⟨A9, c9, n9, hn9, rfl, _, hrd⟩ := hrow.rdn
  have HRD := Lib.hid hrd
  have HB := Lib.hid (hb0.trans (hb2.mono hb0.size))
  clear c0 c1 HO hrow hb2 hb0 hrd
  have hn := hn9.out
  subst hn
  go_wp2_with fail
  go_loopw [5, 12] (fun s5 s12 wr => ∃ k : Nat, s5 = .int .i64 (cntL (m.take k)) ∧ s12 = .int .i64 k ∧ k ≤ m.length ∧ Below w2.heap.size w2 wr) (fun _ i _ => m.length - (intOf i).toNat)
  case atStart => exact ⟨0, rfl, rfl, Nat.zero_le _, Below.refl _ _⟩
  case round =>
    obtain ⟨k, rfl, rfl, hk, hb⟩ := hrel
    by_cases hlt : k < m.length
    · obtain ⟨b, off, rfl, hbl, x0, x1, x2, x3⟩ := wt_cells HRD.out hb hlt
      have HN := Lib.hid (cnt_next hlt)
      have hcl := Nat.le_trans (cnt_le (m.take k)) (show (m.take k).length ≤ 1000000 by rw [List.length_take]; omega)
      have hbz := hb.size
      have hbw : b < wr.heap.size := by omega
      generalize m.getD k default = x at *
      generalize cntL (m.take k) = n at *
      obtain ⟨p, q, r, s⟩ := x
      simp only at x0 x1 x2 x3
      have hbe : Below w2.heap.size w2 (wr.alloc (.cells #[.int .u16 p, .int .u16 q, .int .u16 r, .int .u16 s] 31)) := hb.alloc hbz _
      by_cases h1 : p = 0
      · subst h1
        by_cases h2 : q = 0
        · subst h2
          by_cases h3 : r = 0
          · subst h3
            have HN2 : Hid (cntL (m.take (k + 1)) = n + 1) := Lib.hid (by rw [HN.out]; simp [ignB])
            clear HN
            go_wp2
            go_roundw
            case rel => exact ⟨k + 1, by rw [HN2.out]; go_num, by go_num, by omega, hbe⟩
            case measure => simp [intOf]; omega
          · have d3 : (r == 0) = false := by simp [h3]
            have HN2 : Hid (cntL (m.take (k + 1)) = n) := Lib.hid (by rw [HN.out]; simp [ignB, h3])
            clear HN
            go_wp2
            go_roundw
            case rel => exact ⟨k + 1, by rw [HN2.out], by go_num, by omega, hbe⟩
            case measure => simp [intOf]; omega
        · have d2 : (q == 0) = false := by simp [h2]
          have HN2 : Hid (cntL (m.take (k + 1)) = n) := Lib.hid (by rw [HN.out]; simp [ignB, h2])
          clear HN
          go_wp2
          go_roundw
          case rel => exact ⟨k + 1, by rw [HN2.out], by go_num, by omega, hbe⟩
          case measure => simp [intOf]; omega
      · have d1 : (p == 0) = false := by simp [h1]
        have HN2 : Hid (cntL (m.take (k + 1)) = n) := Lib.hid (by rw [HN.out]; simp [ignB, h1])
        clear HN
        go_wp2
        go_roundw
        case rel => exact ⟨k + 1, by rw [HN2.out], by go_num, by omega, hbe⟩
        case measure => simp [intOf]; omega
    · have hkl : k = m.length := by omega
      subst hkl
      rw [List.take_length]
      go_wp2
      go_ret
      exact ⟨rfl, HB.out.trans (hb.mono HB.out.size)⟩

def kl : List El := [⟨521, 32, 2, true⟩, ⟨0, 32, 2, false⟩, ⟨7239, 32, 2, false⟩]
def kw : List Wt := [⟨0, 0, 0, 521⟩, ⟨0, 0, 0, 0⟩, ⟨7239, 32, 2, 65535⟩]
theorem k_is : weighL true 4 kl = kw := by decide
set_option maxHeartbeats 4000000 in
theorem known_any (w : World) : Calls Try.prog 7 #[] w fun e w' => e = .returned (.bool true) ∧ Below w.heap.size w w' := by
  have ho : ∀ W, RdK kE W W.heap.size (some ⟨w.heap.size, 0, none⟩) kl → Calls Try.prog 10 #[.agg #[.bool true, .int .i64 4], .slice (some ⟨w.heap.size, 0, none⟩) 3 3] W fun e w' => ∃ v, e = .returned v ∧ RowK kW w' W.heap.size v kw ∧ Below W.heap.size W w' := fun W h => by
    have := of_any (some ⟨w.heap.size, 0, none⟩) 3 kl true 4 W h (by decide)
    rw [k_is] at this
    exact this
  have HO := Lib.hid ho
  clear ho
  go_enter Try.func7, Try.ntmps7
  go_wp2_with fail
  refine (HO.out _ (rd_block (K := kE) (l := kl) (Blk.new _ _ _) rfl)).mono ?_
  rintro e w2 ⟨v, rfl, hrow, hb2⟩
  obtain ⟨A9, c9, n9, hn9, rfl, _, hrd⟩ := hrow.rdn
  have hn := hn9.out
  have hn3 : kw.length = 3 := rfl
  rw [hn3] at hn
  subst hn
  have HRD := Lib.hid hrd
  have hb1 : Below w.heap.size w w2 := ((Below.refl _ w).alloc (Nat.le_refl _) (.cells #[.int .u16 521, .int .u16 32, .int .u16 2, .bool true, .int .u16 0, .int .u16 32, .int .u16 2, .bool false, .int .u16 7239, .int .u16 32, .int .u16 2, .bool false] 42)).trans (hb2.mono (by simp))
  have HB := Lib.hid hb1
  clear hrow hrd hb2 HO hb1
  go_wp2_with fail
  refine (same_any A9 (some ⟨w2.heap.size, 0, none⟩) c9 3 kw kw _ (HRD.out.on ((Below.refl _ _).alloc (Nat.le_refl _) _)) (rd_block (K := kW) (l := kw) (Blk.new _ _ _) rfl) (by decide)).mono ?_
  rintro e w3 ⟨rfl, hb3⟩
  have e1 : decide (kw = kw) = true := by simp
  rw [e1]
  go_wp2_with fail
  go_ret
  exact ⟨rfl, HB.out.trans ((((Below.refl _ w2).alloc (Nat.le_refl _) (.cells #[.int .u16 0, .int .u16 0, .int .u16 0, .int .u16 521, .int .u16 0, .int .u16 0, .int .u16 0, .int .u16 0, .int .u16 7239, .int .u16 32, .int .u16 2, .int .u16 65535] 31)).trans (hb3.mono (by simp))).mono HB.out.size)⟩
end Go.Proofs.Ytlemiejmjdhcgaa
