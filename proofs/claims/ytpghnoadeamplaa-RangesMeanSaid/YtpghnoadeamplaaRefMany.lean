/- The reference's Many. -/
import Derived.Test.YtpghnoadeamplaaRefGet
namespace Go.Proofs.Ytpghnoadeamplaa
open Go.RowKit
set_option linter.unusedVariables false
set_option linter.unusedSimpArgs false

def manyL : List Rg → Int
  | [] => 0
  | x :: t => (x.hi - x.lo + 1) + manyL t
theorem manyL_append (a b : List Rg) : manyL (a ++ b) = manyL a + manyL b := by
  induction a with
  | nil => simp [manyL]
  | cons x t ih => simp [manyL, ih]; omega
theorem manyL_next {l : List Rg} {k : Nat} (h : k < l.length) : manyL (l.take (k + 1)) = manyL (l.take k) + ((l.getD k default).hi - (l.getD k default).lo + 1) := by
  rw [List.take_add_one, manyL_append, List.getElem?_eq_getElem h]
  simp [manyL, List.getD_eq_getElem?_getD, List.getElem?_eq_getElem h]

/-- A range that may be. -/
abbrev May (x : Rg) : Prop := 0 ≤ x.lo ∧ x.lo ≤ x.hi ∧ x.hi ≤ 2147483647
theorem manyL_bound {l : List Rg} (hm : ∀ j, j < l.length → May (l.getD j default)) : ∀ k, k ≤ l.length → 0 ≤ manyL (l.take k) ∧ manyL (l.take k) ≤ k * 2147483648
  | 0, _ => by simp [manyL]
  | k + 1, h => by
    have := manyL_bound hm k (by omega)
    have m := hm k (by omega)
    rw [manyL_next (by omega)]
    obtain ⟨m1, m2, m3⟩ := m
    omega

set_option maxHeartbeats 2000000 in
theorem refMany_any (A : Option Addr) (c : Nat) (l : List Rg) (w : World) (hr : RdR w w.heap.size A l) (hn : l.length ≤ 1000000) (hm : ∀ j, j < l.length → May (l.getD j default)) :
    Calls Try.prog 15 #[.slice A l.length c] w fun e w' => e = .returned (.int .i64 (manyL l)) ∧ Below w.heap.size w w' := by
  go_enter Try.func15, Try.ntmps15
  go_wp2
  go_loopw [3, 4] (fun n i wr => ∃ (k q : Nat), n = .int .i64 (manyL (l.take k)) ∧ i = .int .i64 k ∧ k ≤ l.length ∧ wr = w.drewN q) (fun _ i _ => l.length - (intOf i).toNat)
  case atStart => exact ⟨0, 0, by simp [manyL], rfl, Nat.zero_le _, rfl⟩
  case round =>
    obtain ⟨k, q, rfl, rfl, hk, rfl⟩ := hrel
    by_cases hlt : k < l.length
    · obtain ⟨b, off, rfl, _, hc⟩ := hr (by omega)
      have hr2 := hc k hlt
      have c0 := hr2 0 _ rfl
      have c1 := hr2 1 _ rfl
      rw [Nat.add_zero] at c0
      have Hn := Lib.hid (manyL_next hlt)
      obtain ⟨b1, b2⟩ := manyL_bound hm k hk
      obtain ⟨m1, m2, m3⟩ := hm k hlt
      clear hr2 hc hr hm
      generalize l.getD k default = x at *
      generalize manyL (l.take k) = n at *
      have hn1 : n ≤ 1000000 * 2147483648 := by omega
      clear b2
      go_wp2
      go_quiet (fail)
      go_wp2
      go_roundw
      case rel => exact ⟨k + 1, _, by rw [Hn.out]; go_num, by go_num, by omega, rfl⟩
      case measure => simp [intOf]; omega
    · have : k = l.length := by omega
      subst this
      have ht := Lib.hid (show manyL (l.take l.length) = manyL l by rw [List.take_length])
      go_wp2
      go_ret
      refine ⟨?_, ⟨rfl, rfl, rfl, Nat.le_refl _, fun _ _ => rfl⟩⟩
      rw [← ht.out]; rfl
end Go.Proofs.Ytpghnoadeamplaa
