/- sound; shifted. -/
import Derived.Test.YtlemiejmjdhcgaaSmall
import Derived.Deep.RegionHeld3
namespace Go.Proofs.Ytlemiejmjdhcgaa
open Go.RowKit
set_option linter.unusedVariables false
set_option linter.unusedSimpArgs false

/-- Does the next one stand behind a variable one? -/
def nextB (x : El) (b : Bool) : Bool := x.var || (b && decide (x.p = 0))
/-- A shifted element's weights. -/
def shW (x : El) (b : Bool) : Wt :=
  if x.var = true then ⟨0, 0, 0, x.p⟩
  else if x.p = 0 then (if b = true ∨ (x.s = 0 ∧ x.t = 0) then ⟨0, 0, 0, 0⟩ else ⟨0, x.s, x.t, 65535⟩)
  else ⟨x.p, x.s, x.t, 65535⟩

set_option maxHeartbeats 4000000 in
theorem shifted_any (x : El) (b : Bool) (w : World) : Calls Try.prog 18 #[x.agg, .bool b] w fun e w' => e = .returned (.tuple #[(shW x b).agg, .bool (nextB x b)]) ∧ Below w.heap.size w w' := by
  obtain ⟨p, s, t, var⟩ := x
  have hb1 : ∀ o o' : Obj, Below w.heap.size w ((w.alloc o).alloc o') := fun o o' => ((Below.refl _ _).alloc (Nat.le_refl _) _).alloc (by simp) _
  cases var
  · by_cases h1 : p = 0
    · cases b
      · by_cases h2 : s = 0
        · by_cases h3 : t = 0
          · subst h1; subst h2; subst h3
            go_enter Try.func18, Try.ntmps18
            go_wp2
            refine bodyPost_ret (v := .tuple #[(shW ⟨0, 0, 0, false⟩ false).agg, .bool (nextB ⟨0, 0, 0, false⟩ false)]) ?_ rfl ⟨rfl, hb1 _ _⟩
            simp [results, Try.f18, go_sem, shW, nextB]
          · subst h1; subst h2
            have d3 : (t == 0) = false := by simp [h3]
            go_enter Try.func18, Try.ntmps18
            go_wp2
            go_region
            go_wp2
            refine bodyPost_ret (v := .tuple #[(shW ⟨0, 0, t, false⟩ false).agg, .bool (nextB ⟨0, 0, t, false⟩ false)]) ?_ rfl ⟨rfl, (hb1 _ _).drew⟩
            simp [results, Try.f18, go_sem, shW, nextB, h3]
        · subst h1
          have d2 : (s == 0) = false := by simp [h2]
          go_enter Try.func18, Try.ntmps18
          go_wp2
          go_region
          go_wp2
          refine bodyPost_ret (v := .tuple #[(shW ⟨0, s, t, false⟩ false).agg, .bool (nextB ⟨0, s, t, false⟩ false)]) ?_ rfl ⟨rfl, (hb1 _ _).drew⟩
          simp [results, Try.f18, go_sem, shW, nextB, h2]
      · subst h1
        go_enter Try.func18, Try.ntmps18
        go_wp2
        refine bodyPost_ret (v := .tuple #[(shW ⟨0, s, t, false⟩ true).agg, .bool (nextB ⟨0, s, t, false⟩ true)]) ?_ rfl ⟨rfl, hb1 _ _⟩
        simp [results, Try.f18, go_sem, shW, nextB]
    · have d1 : (p == 0) = false := by simp [h1]
      cases b
      · go_enter Try.func18, Try.ntmps18
        go_wp2
        go_region
        go_wp2
        refine bodyPost_ret (v := .tuple #[(shW ⟨p, s, t, false⟩ false).agg, .bool (nextB ⟨p, s, t, false⟩ false)]) ?_ rfl ⟨rfl, (hb1 _ _).drew⟩
        simp [results, Try.f18, go_sem, shW, nextB, h1]
      · go_enter Try.func18, Try.ntmps18
        go_wp2
        go_region
        go_wp2
        refine bodyPost_ret (v := .tuple #[(shW ⟨p, s, t, false⟩ true).agg, .bool (nextB ⟨p, s, t, false⟩ true)]) ?_ rfl ⟨rfl, (hb1 _ _).drew⟩
        simp [results, Try.f18, go_sem, shW, nextB, h1]
  · go_enter Try.func18, Try.ntmps18
    go_wp2
    refine bodyPost_ret (v := .tuple #[(shW ⟨p, s, t, true⟩ b).agg, .bool (nextB ⟨p, s, t, true⟩ b)]) ?_ rfl ⟨rfl, hb1 _ _⟩
    simp [results, Try.f18, go_sem, shW, nextB]

/-- No element is variable, but one with all three weights. -/
def soundE (x : El) : Bool := !(x.var && (decide (x.p = 0) || (decide (x.s = 0) || decide (x.t = 0))))
def soundL (l : List El) : Bool := l.all soundE && decide (l.length ≤ 200)
theorem not_sound {l : List El} {j : Nat} (hj : j < l.length) (h : soundE (l.getD j default) = false) : soundL l = false := by
  unfold soundL
  rw [Bool.and_eq_false_iff]
  left
  rw [List.all_eq_false]
  refine ⟨l.getD j default, ?_, by rw [h]; exact Bool.false_ne_true⟩
  rw [List.getD_eq_getElem?_getD, List.getElem?_eq_getElem hj]
  simp
theorem all_sound {l : List El} (h : ∀ j, j < l.length → soundE (l.getD j default) = true) : l.all soundE = true := by
  rw [List.all_eq_true]
  intro x hx
  obtain ⟨i, hi, rfl⟩ := List.getElem_of_mem hx
  have := h i hi
  rwa [List.getD_eq_getElem?_getD, List.getElem?_eq_getElem hi] at this

set_option maxHeartbeats 4000000 in
theorem sound_any (A : Option Addr) (c : Nat) (l : List El) (w : World) (hr : RdK kE w w.heap.size A l) (hl : l.length ≤ maxLen) :
    Calls Try.prog 6 #[.slice A l.length c] w fun e w' => e = .returned (.bool (soundL l)) ∧ Below w.heap.size w w' := by
  unfold maxLen at hl
  go_enter Try.func6, Try.ntmps6
  go_wp2
  go_loopw [3] (fun i wr => ∃ k : Nat, i = .int .i64 k ∧ k ≤ l.length ∧ Hid (∀ j, j < k → soundE (l.getD j default) = true) ∧ Below w.heap.size w wr) (fun i _ => l.length - (intOf i).toNat)
  case atStart => exact ⟨0, rfl, Nat.zero_le _, Lib.hid fun j h => by omega, Below.refl _ _⟩
  case round =>
    obtain ⟨k, rfl, hk, He, hb⟩ := hrel
    by_cases hlt : k < l.length
    · obtain ⟨b, off, rfl, hbl, x0, x1, x2, x3⟩ := el_cells hr hb hlt
      have hbad : soundE (l.getD k default) = false → Hid (soundL l = false) := fun h => Lib.hid (not_sound hlt h)
      have hgood : soundE (l.getD k default) = true → Hid (∀ j, j < k + 1 → soundE (l.getD j default) = true) := fun h => Lib.hid fun j hj => by
        rcases Nat.lt_or_ge j k with h' | h'
        · exact He.out j h'
        · have : j = k := by omega
          subst this; exact h
      clear hr
      generalize l.getD k default = x at *
      obtain ⟨p, s, t, var⟩ := x
      simp only at x0 x1 x2 x3
      cases var
      · have Hq := hgood (by simp [soundE])
        clear hbad hgood
        go_wp2
        go_roundw
        case rel => exact ⟨k + 1, by go_num, by omega, Hq, hb⟩
        case measure => simp [intOf]; omega
      · by_cases h1 : p = 0
        · have Hq := hbad (by simp [soundE, h1])
          clear hbad hgood
          subst h1
          go_wp2
          go_ret
          exact ⟨by rw [Hq.out]; rfl, hb⟩
        · have d1 : (p == 0) = false := by simp [h1]
          by_cases h2 : s = 0
          · have Hq := hbad (by simp [soundE, h2])
            clear hbad hgood
            subst h2
            go_wp2
            go_ret
            exact ⟨by rw [Hq.out]; rfl, hb⟩
          · have d2 : (s == 0) = false := by simp [h2]
            by_cases h3 : t = 0
            · have Hq := hbad (by simp [soundE, h3])
              clear hbad hgood
              subst h3
              go_wp2
              go_ret
              exact ⟨by rw [Hq.out]; rfl, hb⟩
            · have d3 : (t == 0) = false := by simp [h3]
              have Hq := hgood (by simp [soundE, h1, h2, h3])
              clear hbad hgood
              go_wp2
              go_roundw
              case rel => exact ⟨k + 1, by go_num, by omega, Hq, hb⟩
              case measure => simp [intOf]; omega
    · have hkl : k = l.length := by omega
      subst hkl
      have Heq : Hid (soundL l = decide (l.length ≤ 200)) := Lib.hid (by unfold soundL; rw [all_sound He.out, Bool.true_and])
      clear He
      by_cases h2 : l.length ≤ 200
      · have d1 : decide ((l.length : Int) ≤ 200) = true := by simp only [decide_eq_true_eq]; omega
        have d2 : decide (l.length ≤ 200) = true := by simp only [decide_eq_true_eq]; omega
        rw [d2] at Heq
        clear d2
        go_wp2
        go_ret
        exact ⟨by rw [Heq.out]; rfl, hb⟩
      · have d1 : decide ((l.length : Int) ≤ 200) = false := by simp only [decide_eq_false_iff_not]; omega
        have d2 : decide (l.length ≤ 200) = false := by simp only [decide_eq_false_iff_not]; omega
        rw [d2] at Heq
        clear d2
        go_wp2
        go_ret
        exact ⟨by rw [Heq.out]; rfl, hb⟩
end Go.Proofs.Ytlemiejmjdhcgaa
