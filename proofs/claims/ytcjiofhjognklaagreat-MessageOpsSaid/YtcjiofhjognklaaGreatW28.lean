/- The reference's sizes. -/
import Derived.Test.YtcjiofhjognklaaGreatW27

namespace Go.Proofs.YtcjiofhjognklaaGreat.Tlv
open Go.RowKit
set_option maxRecDepth 100000
set_option linter.unusedVariables false
set_option linter.unusedSimpArgs false

theorem numL_any (e : Int) (w : World) : Calls Tryz.prog 16 #[.int .i64 e] w fun r w' => r = .returned (.int .i64 e) ∧ w = w' := by
  go_enter Tryz.func16, Tryz.ntmps16
  go_wp2
  go_ret
  exact ⟨rfl, rfl⟩
def totS (l : List (List UInt8)) : Nat := (l.map fun s => min s.length 9001).sum
theorem totS_take (l : List (List UInt8)) (k : Nat) (h : k < l.length) : totS (l.take (k + 1)) = totS (l.take k) + min (l.getD k default).length 9001 := by
  rw [take_snocP l k h]
  simp [totS]
theorem totS_le (l : List (List UInt8)) : totS l ≤ 9001 * l.length := by
  induction l with
  | nil => simp [totS]
  | cons x t ih =>
    simp only [totS, List.map_cons, List.sum_cons, List.length_cons] at *
    have : min x.length 9001 ≤ 9001 := Nat.min_le_right _ _
    omega
theorem totS_mono (l : List (List UInt8)) (k : Nat) (h : l.length ≤ 12) (hk : k ≤ l.length) : totS (l.take k) ≤ 108012 := by
  have := totS_le (l.take k)
  have h2 : (l.take k).length ≤ 12 := by rw [List.length_take]; omega
  omega
set_option maxHeartbeats 2000000 in
theorem total_any (l : List (List UInt8)) (v : Value) (w : World) (hv : RdP w v l) (hl : l.length ≤ 12) (hs : ∀ s ∈ l, s.length ≤ 9223372036854775807) : Calls Tryz.prog 43 #[v] w fun e w' => e = .returned (.int .i64 (totS l : Nat)) ∧ w = w' := by
  obtain ⟨A, c, rfl, _, hr⟩ := hv
  have HR := Lib.hid (And.intro hr (And.intro hl hs))
  obtain ⟨n, hn⟩ : ∃ n, n = l.length := ⟨_, rfl⟩
  rw [← hn]
  have hl2 : n ≤ 12 := by omega
  have HN := Lib.hid hn
  clear hr hl hs hn
  go_enter Tryz.func43, Tryz.ntmps43
  go_wp2
  go_loopw [3, 4] (fun a i wr => ∃ k m : Nat, i = .int .i64 k ∧ a = .int .i64 m ∧ k ≤ n ∧ Hid (m = totS (l.take k)) ∧ m ≤ 108012 ∧ w = wr) (fun _ i _ => n - (intOf i).toNat)
  case atStart => exact ⟨0, 0, rfl, rfl, Nat.zero_le _, Lib.hid (by simp [totS]), by omega, rfl⟩
  case round =>
    obtain ⟨k, m, rfl, rfl, hk, HM, hm, rfl⟩ := hrel
    by_cases hlt : k < n
    · have hkl : k < l.length := by have := HN.out; omega
      obtain ⟨b1, o1, rfl, _, c0⟩ := str_cell HR.out.1 (Below.refl _ _) hkl
      have hmem : l.getD k default ∈ l := by
        rw [List.getD_eq_getElem?_getD, List.getElem?_eq_getElem hkl]
        exact List.getElem_mem _
      have hsz := HR.out.2.2 _ hmem
      have HT := Lib.hid (totS_take l k hkl)
      have HMO := Lib.hid (totS_mono l (k + 1) HR.out.2.1 hkl)
      generalize l.getD k default = x at c0 hsz HT
      clear hmem
      obtain ⟨z, hz⟩ : ∃ z, z = x.length := ⟨_, rfl⟩
      have e1 : (sx x).size = z := by rw [sx_size]; exact hz.symm
      rw [← hz] at hsz
      have HZ := Lib.hid hz
      clear hz hkl
      have HE : Hid (m + min z 9001 = totS (l.take (k + 1))) := Lib.hid (by rw [HT.out, HM.out, HZ.out])
      go_wp2
      go_roundw
      case rel => exact ⟨k + 1, m + min z 9001, by go_num, by rw [show ((m + min z 9001 : Nat) : Int) = (m : Int) + min (z : Int) 9001 from by omega], by omega, HE, by rw [HE.out]; exact HMO.out, trivial⟩
      case measure => simp [intOf]; omega
    · have hkn : k = n := by omega
      subst hkn
      go_wp2
      go_ret
      exact ⟨by rw [HM.out, HN.out, List.take_length]; rfl, rfl⟩
end Go.Proofs.YtcjiofhjognklaaGreat.Tlv
