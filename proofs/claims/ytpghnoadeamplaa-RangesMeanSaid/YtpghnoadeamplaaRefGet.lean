/- The reference's Get. -/
import Derived.Test.YtpghnoadeamplaaGet
namespace Go.Proofs.Ytpghnoadeamplaa
open Go.RowKit
set_option linter.unusedVariables false
set_option linter.unusedSimpArgs false

/-- Has x the number r? -/
abbrev Has (x : Rg) (r : Int) : Prop := x.lo ≤ r ∧ r ≤ x.hi

def find (l : List Rg) (r : Int) : Option Rg := l.find? fun x => decide (Has x r)
def getV (l : List Rg) (r : Int) : Int := ((find l r).map Rg.val).getD 0
def getB (l : List Rg) (r : Int) : Bool := (find l r).isSome

theorem find_none {l : List Rg} {r : Int} (h : ∀ j, j < l.length → ¬ Has (l.getD j default) r) : find l r = none := by
  refine List.find?_eq_none.2 fun x hx => ?_
  obtain ⟨j, hj, rfl⟩ := List.getElem_of_mem hx
  have := h j hj
  rw [List.getD_eq_getElem?_getD, List.getElem?_eq_getElem hj] at this
  simpa using this
theorem find_first {l : List Rg} {r : Int} {j : Nat} (hj : j < l.length) (h : Has (l.getD j default) r) (hi : ∀ i, i < j → ¬ Has (l.getD i default) r) : find l r = some (l.getD j default) := by
  refine List.find?_eq_some_iff_getElem.2 ⟨by simpa using h, j, hj, by simp [List.getD_eq_getElem?_getD, List.getElem?_eq_getElem hj], fun i hij => ?_⟩
  have := hi i hij
  rw [List.getD_eq_getElem?_getD, List.getElem?_eq_getElem (by omega)] at this
  simp only [Bool.not_eq_true', decide_eq_false_iff_not]
  exact this
theorem got_none {l : List Rg} {r : Int} (h : find l r = none) : Ending.returned (.tuple #[.int .i64 0, .bool false]) = .returned (.tuple #[.int .i64 (getV l r), .bool (getB l r)]) := by simp [getV, getB, h]
theorem got_some {l : List Rg} {r : Int} {x : Rg} (h : find l r = some x) : Ending.returned (.tuple #[.int .i64 x.val, .bool true]) = .returned (.tuple #[.int .i64 (getV l r), .bool (getB l r)]) := by simp [getV, getB, h]

/-- Get of a map that is there, as the list's first that has the number. -/
theorem get_found (p off c : Nat) (rb : Nat) (l : List Rg) (r : Int) (w : World) (hp : p < w.heap.size) (hrb : rb < w.heap.size) (hm : w.cell? ⟨p, 1, none⟩ = some (.slice (some ⟨rb, off, none⟩) l.length c))
    (hr : ∀ j, j < l.length → w.rangeAt rb (off + j * 3) (l.getD j default).cells) (hn : l.length ≤ 1000000000000) (hc : l.length ≤ c)
    (hs : Rises l) (hw : ∀ j, j < l.length → (l.getD j default).lo ≤ (l.getD j default).hi) :
    Calls Try.prog 11 #[.pointer (some ⟨p, 0, none⟩), .int .i32 r] w fun e w' => e = .returned (.tuple #[.int .i64 (getV l r), .bool (getB l r)]) ∧ Below w.heap.size w w' := by
  refine (get_any p off c rb l r w hp hrb hm hr hn hc hs hw).mono ?_
  rintro e w' ⟨v, is, rfl, hb, ⟨rfl, rfl, h⟩ | ⟨rfl, j, hj, h1, h2, rfl⟩⟩
  · exact ⟨got_none (find_none fun j hj h' => by have := h j hj; have := h'.1; have := h'.2; omega), hb⟩
  · refine ⟨got_some (find_first hj ⟨h1, h2⟩ fun i hi h' => ?_), hb⟩
    have a1 := hs i j hi hj
    have := h'.2
    omega

set_option maxHeartbeats 2000000 in
theorem refGet_any (A : Option Addr) (c : Nat) (l : List Rg) (r : Int) (w : World) (hr : RdR w w.heap.size A l) (hn : l.length ≤ 1000000000000) :
    Calls Try.prog 12 #[.slice A l.length c, .int .i32 r] w fun e w' => e = .returned (.tuple #[.int .i64 (getV l r), .bool (getB l r)]) ∧ w' = w := by
  go_enter Try.func12, Try.ntmps12
  go_wp2
  go_loop [6] (fun i => ∃ k : Nat, i = .int .i64 k ∧ k ≤ l.length ∧ Hid (∀ j, j < k → ¬ Has (l.getD j default) r)) (fun i => l.length - (intOf i).toNat)
  case atStart => exact ⟨0, rfl, Nat.zero_le _, Lib.hid fun j h => by omega⟩
  case round =>
    obtain ⟨k, rfl, hk, Hi⟩ := hrel
    by_cases hlt : k < l.length
    · obtain ⟨b, off, rfl, _, hc⟩ := hr (by omega)
      have hr2 := hc k hlt
      have c0 := hr2 0 _ rfl
      have c1 := hr2 1 _ rfl
      have c2 := hr2 2 _ rfl
      rw [Nat.add_zero] at c0
      have heq : Hid (l.getD k default = l.getD k default) := Lib.hid rfl
      have hx : ∃ x, x = l.getD k default := ⟨_, rfl⟩
      obtain ⟨x, hx⟩ := hx
      have Hx := Lib.hid hx.symm
      rw [← hx] at c0 c1 c2
      clear hr2 hc hr heq hx
      by_cases h1 : x.lo ≤ r
      · by_cases h2 : r ≤ x.hi
        · go_wp2
          go_ret2
          exact ⟨got_some (Hx.out ▸ find_first hlt (Hx.out.symm ▸ ⟨h1, h2⟩) Hi.out), rfl⟩
        · go_wp2
          go_round
          case rel => exact ⟨k + 1, by go_num, by omega, Lib.hid fun j hj => by
            rcases Nat.lt_or_ge j k with h | h
            · exact Hi.out j h
            · have : j = k := by omega
              subst this; rw [Hx.out]; exact fun h => h2 h.2⟩
          case measure => simp [intOf]; omega
      · go_wp2
        go_round
        case rel => exact ⟨k + 1, by go_num, by omega, Lib.hid fun j hj => by
          rcases Nat.lt_or_ge j k with h | h
          · exact Hi.out j h
          · have : j = k := by omega
            subst this; rw [Hx.out]; exact fun h => h1 h.1⟩
        case measure => simp [intOf]; omega
    · have : k = l.length := by omega
      subst this
      go_wp2
      go_ret2
      exact ⟨got_none (find_none Hi.out), rfl⟩
end Go.Proofs.Ytpghnoadeamplaa
