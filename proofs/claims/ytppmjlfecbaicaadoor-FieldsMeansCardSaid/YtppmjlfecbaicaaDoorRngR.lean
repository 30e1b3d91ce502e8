/- Ranges out of their texts, by the document. -/
import Derived.Test.YtppmjlfecbaicaaDoorRng
namespace Go.Proofs.YtppmjlfecbaicaaDoor
open Go.RowKit
set_option linter.unusedVariables false
set_option linter.unusedSimpArgs false

theorem dot_first {s : ByteArray} {k : Nat} (hk : k + 1 < s.size) (h : (s[k]'(by omega)).toNat = 46 ∧ (s[k + 1]'hk).toNat = 46) (hn : ∀ j, j < k → Lib.occAt s.data.toList dots j = false) : dotAt s = k := by
  have hl : s.data.toList.length = s.size := by rw [Array.length_toList]; rfl
  exact Lib.index_first (by omega) ((occ_dots s k hk).2 h) hn
theorem dot_none {s : ByteArray} (hn : ∀ j, j + 1 < s.size → Lib.occAt s.data.toList dots j = false) : dotAt s = -1 :=
  Lib.index_none fun j _ => by
    by_cases h : j + 1 < s.size
    · exact hn j h
    · exact occ_far s j h

set_option maxHeartbeats 4000000 in
theorem refRange_any (s : ByteArray) (w : World) (hs : s.size < 4294967281) : Calls Tryd.prog 13 #[.string s] w fun e w' => e = .returned (tup3 (rangeV s)) ∧ w = w' := by
  go_enter Tryd.func13, Tryd.ntmps13
  go_wp2
  go_loopw [5] (fun i wr => ∃ k : Nat, i = .int .i64 k ∧ k ≤ s.size ∧ wr = w ∧ Hid (∀ j, j < k → Lib.occAt s.data.toList dots j = false)) (fun i _ => s.size - (intOf i).toNat)
  case atStart => exact ⟨0, rfl, Nat.zero_le _, rfl, Lib.hid fun j hj => by omega⟩
  case round =>
    obtain ⟨k, rfl, hk, rfl, HN⟩ := hrel
    by_cases hlt : k + 1 < s.size
    · have h0 : k < s.size := by omega
      have HO := Lib.hid (occ_dots s k hlt)
      have HF := Lib.hid (fun h => dot_first hlt h HN.out)
      have HST : Hid (¬ ((s[k]'h0).toNat = 46 ∧ (s[k + 1]'hlt).toNat = 46) → ∀ j, j < k + 1 → Lib.occAt s.data.toList dots j = false) := Lib.hid fun h j hj => by
        by_cases e : j < k
        · exact HN.out j e
        · have : j = k := by omega
          subst this
          cases e2 : Lib.occAt s.data.toList dots j with
          | false => rfl
          | true => exact (h ((occ_dots s j hlt).1 e2)).elim
      clear HN HO
      by_cases h1 : (s[k]'h0).toNat = 46
      · by_cases h2 : (s[k + 1]'hlt).toNat = 46
        · have HD := Lib.hid (HF.out ⟨h1, h2⟩)
          have HV : Hid (rangeV s = both (codeV (bl (s.extract 0 k))) (codeV (bl (s.extract (k + 2) s.size)))) := Lib.hid (by
            unfold rangeV
            rw [HD.out, if_neg (by omega)]
            rfl)
          have CA : ∀ W, Hid (Calls Tryd.prog 11 #[.string (s.extract 0 k)] W fun e w' => e = .returned (.tuple #[.int .i32 ((codeV (bl (s.extract 0 k))).getD 0), .bool (codeV (bl (s.extract 0 k))).isSome]) ∧ W = w') := fun W => Lib.hid (refCode_any _ W (by have := sub_size s 0 k; omega))
          have CB : ∀ W, Hid (Calls Tryd.prog 11 #[.string (s.extract (k + 2) s.size)] W fun e w' => e = .returned (.tuple #[.int .i32 ((codeV (bl (s.extract (k + 2) s.size))).getD 0), .bool (codeV (bl (s.extract (k + 2) s.size))).isSome]) ∧ W = w') := fun W => Lib.hid (refCode_any _ W (by have := sub_size s (k + 2) s.size; omega))
          clear HST HF HD
          generalize codeV (bl (s.extract 0 k)) = oa at *
          generalize codeV (bl (s.extract (k + 2) s.size)) = ob at *
          cases oa with
          | none =>
            go_wp2_with fail
            refine (CA _).out.mono ?_
            rintro e w2 ⟨rfl, rfl⟩
            go_wp2_with fail
            refine (CB _).out.mono ?_
            rintro e w3 ⟨rfl, rfl⟩
            go_wp2_with fail
            go_ret3
            exact ⟨by rw [HV.out]; rfl, rfl⟩
          | some x =>
            cases ob with
            | none =>
              go_wp2_with fail
              refine (CA _).out.mono ?_
              rintro e w2 ⟨rfl, rfl⟩
              go_wp2_with fail
              refine (CB _).out.mono ?_
              rintro e w3 ⟨rfl, rfl⟩
              go_wp2_with fail
              go_ret3
              exact ⟨by rw [HV.out]; rfl, rfl⟩
            | some y =>
              by_cases hxy : x ≤ y
              · have e : both (some x) (some y) = some (x, y) := by unfold both; simp [hxy]
                rw [e] at HV
                clear e
                go_wp2_with fail
                refine (CA _).out.mono ?_
                rintro e w2 ⟨rfl, rfl⟩
                go_wp2_with fail
                refine (CB _).out.mono ?_
                rintro e w3 ⟨rfl, rfl⟩
                go_wp2_with fail
                go_ret3
                exact ⟨by rw [HV.out]; rfl, rfl⟩
              · have e : both (some x) (some y) = none := by unfold both; simp [hxy]
                rw [e] at HV
                clear e
                have hxy2 : y < x := by omega
                go_wp2_with fail
                refine (CA _).out.mono ?_
                rintro e w2 ⟨rfl, rfl⟩
                go_wp2_with fail
                refine (CB _).out.mono ?_
                rintro e w3 ⟨rfl, rfl⟩
                go_wp2_with fail
                go_ret3
                exact ⟨by rw [HV.out]; rfl, rfl⟩
        · have HS2 := Lib.hid (HST.out (fun h => h2 h.2))
          clear HST HF
          go_wp2
          go_roundw
          case rel => exact ⟨k + 1, by go_num, by omega, by trivial, HS2⟩
          case measure => simp [intOf]; omega
      · have HS2 := Lib.hid (HST.out (fun h => h1 h.1))
        clear HST HF
        go_wp2
        go_roundw
        case rel => exact ⟨k + 1, by go_num, by omega, by trivial, HS2⟩
        case measure => simp [intOf]; omega
    · have HD := Lib.hid (dot_none (s := s) fun j hj => HN.out j (by omega))
      have HV : Hid (rangeV s = (codeV (bl s)).map fun x => (x, x)) := Lib.hid (by unfold rangeV; rw [HD.out, if_pos rfl])
      have CA : ∀ W, Hid (Calls Tryd.prog 11 #[.string s] W fun e w' => e = .returned (.tuple #[.int .i32 ((codeV (bl s)).getD 0), .bool (codeV (bl s)).isSome]) ∧ W = w') := fun W => Lib.hid (refCode_any _ W (by omega))
      clear HN HD
      generalize codeV (bl s) = oa at *
      cases oa with
      | none =>
        go_wp2_with fail
        refine (CA _).out.mono ?_
        rintro e w2 ⟨rfl, rfl⟩
        go_wp2_with fail
        go_ret3
        exact ⟨by rw [HV.out]; rfl, rfl⟩
      | some x =>
        go_wp2_with fail
        refine (CA _).out.mono ?_
        rintro e w2 ⟨rfl, rfl⟩
        go_wp2_with fail
        go_ret3
        exact ⟨by rw [HV.out]; rfl, rfl⟩
end Go.Proofs.YtppmjlfecbaicaaDoor
