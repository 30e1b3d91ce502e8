/- much: have parts more than is gone through? -/
import Derived.Test.YtiakfdfpikheaaaPut
namespace Go.Proofs.Ytiakfdfpikheaaa
open Go.RowKit
set_option linter.unusedVariables false
set_option linter.unusedSimpArgs false

def msum (l : List ByteArray) : Nat := (l.map fun t => min t.size 20001).sum
theorem msum_snoc {l : List ByteArray} {k : Nat} (hk : k < l.length) : msum (l.take (k + 1)) = msum (l.take k) + min (l.getD k ByteArray.empty).size 20001 := by
  unfold msum
  rw [List.take_add_one, List.getElem?_eq_getElem hk, List.getD_eq_getElem?_getD, List.getElem?_eq_getElem hk]
  simp only [Option.toList_some, List.map_append, List.map_cons, List.map_nil, List.sum_append, List.sum_cons, List.sum_nil, Option.getD_some, Nat.add_zero]
theorem msum_le (l : List ByteArray) : msum l ≤ 20001 * l.length := by
  unfold msum
  induction l with
  | nil => simp
  | cons x t ih => simp only [List.map_cons, List.sum_cons, List.length_cons]; omega
theorem msum_eq {l : List ByteArray} (h : msum l ≤ 20000) : (l.map ByteArray.size).sum ≤ 20000 := by
  have key : ∀ l : List ByteArray, msum l ≤ 20000 → (l.map ByteArray.size).sum = msum l := by
    intro l
    induction l with
    | nil => intro _; rfl
    | cons x t ih =>
      intro h
      unfold msum at h ih ⊢
      simp only [List.map_cons, List.sum_cons] at h ih ⊢
      have := ih (by omega)
      omega
  rw [key l h]; exact h

set_option maxHeartbeats 16000000 in
theorem much_any (A : Option Addr) (c : Nat) (l : List Pt) (w : World) (hr : RdK kP w w.heap.size A l) (hok : ∀ p ∈ l, PtOk w w.heap.size p) (hl : l.length ≤ maxLen) (hls : ∀ p ∈ l, p.b.length ≤ maxLen ∧ p.ls.length ≤ maxLen) :
    Calls Try.prog 7 #[.slice A l.length c] w fun e w' => ∃ b, e = .returned (.bool b) ∧ w' = w ∧ (b = false → l.length ≤ 30 ∧ ∀ p ∈ l, Few p) := by
  unfold maxLen at hl hls
  have HR := Lib.hid hr
  have HOK := Lib.hid hok
  have HLS := Lib.hid hls
  clear hr hok hls
  go_enter Try.func7, Try.ntmps7
  go_wp2
  go_loopw [3, 4] (fun s3 i wr => ∃ k N : Nat, s3 = .int .i64 N ∧ i = .int .i64 k ∧ k ≤ l.length ∧ k ≤ 31 ∧ N ≤ 20000 ∧ wr = w ∧ Hid (∀ j, j < k → Few (l.getD j default))) (fun _ i _ => l.length - (intOf i).toNat)
  case atStart => exact ⟨0, 0, rfl, rfl, Nat.zero_le _, by omega, by omega, rfl, Lib.hid fun j hj => by omega⟩
  case round =>
    obtain ⟨k, N, rfl, rfl, hk, hk31, hN, rfl, HF⟩ := hrel
    by_cases hlt : k < l.length
    · by_cases h30 : k ≤ 30
      · obtain ⟨b, off, rfl, hbl, y0, y1, y2, y3, y4⟩ := pt_cells HR.out (Below.refl _ _) hlt
        have hmem : l.getD k default ∈ l := by rw [List.getD_eq_getElem?_getD, List.getElem?_eq_getElem hlt]; exact List.getElem_mem _
        have hp := (HOK.out _ hmem).l
        have hpl := HLS.out _ hmem
        have HST : Hid (Few (l.getD k default) → ∀ j, j < k + 1 → Few (l.getD j default)) := Lib.hid fun h j hj => by
          rcases Nat.lt_or_ge j k with h' | h'
          · exact HF.out j h'
          · have : j = k := by omega
            subst this; exact h
        clear hmem
        generalize l.getD k default = p at *
        obtain ⟨kind, tag, n, pA, pc, pb, pLA, plc, pls⟩ := p
        simp only at *
        obtain ⟨hpb, hpls⟩ := hpl
        have HP := Lib.hid hp
        clear hp
        go_wp2
        all_goals
          rename_i hmin
          go_loopw [3, 5] (fun s3 s5 w2 => ∃ j M : Nat, s3 = .int .i64 M ∧ s5 = .int .i64 j ∧ j ≤ pls.length ∧ j ≤ 31 ∧ w2 = wr ∧ (M ≤ 20000 → pb.length ≤ 20000 ∧ msum (pls.take j) ≤ M) ∧ M ≤ 40001 + 20001 * j) (fun _ i _ => pls.length - (intOf i).toNat)
          case atStart => first
            | exact ⟨0, N + 20001, by go_num, rfl, Nat.zero_le _, by omega, rfl, fun h => by omega, by omega⟩
            | exact ⟨0, N + pb.length, by go_num, rfl, Nat.zero_le _, by omega, rfl, fun h => ⟨by omega, by simp [msum]⟩, by omega⟩
          case round =>
            obtain ⟨j, M, rfl, rfl, hj, hj31, rfl, hM, hM2⟩ := hrel
            by_cases hjt : j < pls.length
            · by_cases hj30 : j ≤ 30
              · obtain ⟨b2, off2, rfl, hb2, hc2⟩ := HP.out (by omega)
                have ck := hc2 j hjt
                have HMS := Lib.hid (msum_snoc hjt)
                clear hc2
                generalize pls.getD j ByteArray.empty = t at *
                go_wp2
                have HE := HMS.out
                refine ⟨⟨j + 1, M + min t.size 20001, ?_, by go_num, by omega, by omega, trivial, fun h => ?_, by omega⟩, by simp [intOf]; omega⟩
                · congr 1
                  split <;> omega
                · have := hM (by omega)
                  exact ⟨this.1, by omega⟩
              · have h31 : j = 31 := by omega
                subst h31
                clear HOK HLS HR HP
                go_wp2
                go_ret
                first | exact ⟨_, rfl, rfl, fun h => by cases h⟩ | exact .inr ⟨rfl, rfl⟩
            · have : j = pls.length := by omega
              subst this
              rw [List.take_length] at hM
              have HM := Lib.hid hM
              clear HOK HLS HR HP hM
              go_wp2
              all_goals first
                | (go_ret; first | exact ⟨_, rfl, rfl, fun h => by cases h⟩ | exact .inr ⟨rfl, rfl⟩)
                | skip
              all_goals go_roundw
              case rel =>
                have hM20 : M ≤ 20000 := by omega
                have hM := HM.out hM20
                exact ⟨k + 1, M, rfl, by go_num, by omega, by omega, hM20, by trivial, Lib.hid (HST.out ⟨hM.1, by show pls.length ≤ 30; omega, msum_eq (by have := hM.2; show msum pls ≤ 20000; omega)⟩)⟩
              case measure => simp [intOf]; omega
      · have h31 : k = 31 := by omega
        subst h31
        clear HOK HLS HR HF
        go_wp2
        go_ret
        exact ⟨_, rfl, rfl, fun h => by simp at h; omega⟩
    · have : k = l.length := by omega
      subst this
      clear HOK HLS HR
      go_wp2
      go_ret
      refine ⟨_, rfl, rfl, fun h => ⟨by simp at h; omega, fun p hp => ?_⟩⟩
      obtain ⟨j, hj, rfl⟩ := List.getElem_of_mem hp
      have := HF.out j hj
      rwa [List.getD_eq_getElem?_getD, List.getElem?_eq_getElem hj] at this
end Go.Proofs.Ytiakfdfpikheaaa
