/- UtfMakes, the walk. -/
import Derived.Test.YtnokocaodnanoaaKnown
import Derived.Test.YtnokocaodnanoaaRefEnc
namespace Go.Proofs.Ytnokocaodnanoaa
open Go.RowKit
set_option linter.unusedVariables false

theorem makes_long (zs : List Int) (A : Option Addr) (cap : Nat) (w : World) (hz : zs.length ≤ maxLen) (hl : 3000 < zs.length) :
    Calls Try.prog 5 #[.slice A zs.length cap] w fun e w' => e = .returned (.bool true) ∧ Below w.heap.size w w' := by
  unfold maxLen at hz
  go_enter Try.func5, Try.ntmps5
  go_wp2_with (go_at_call 9; refine (known_any _).mono ?_; rintro e w1 ⟨rfl, hb1⟩)
  go_ret
  exact ⟨rfl, hb1⟩

set_option maxHeartbeats 2000000 in
theorem makes_ok (zs : List Int) (A : Option Addr) (cap : Nat) (w : World) (hin : In32 w w.heap.size A zs) (hn : zs.length ≤ 3000) (hm : ∀ z ∈ zs, mayB z = true) :
    Calls Try.prog 5 #[.slice A zs.length cap] w fun e w' => e = .returned (.bool true) ∧ Below w.heap.size w w' := by
  have He := Lib.hid (enc_ok zs A cap w hin (by omega) hm)
  have hr := fun W h => refEnc_any zs A cap W h (by omega) hm
  generalize mkS (encI zs) = S at *
  have Hr := Lib.hid hr
  clear hr
  go_enter Try.func5, Try.ntmps5
  go_wp2_with (go_at_call 23; refine He.out.mono ?_; rintro e w1 ⟨rfl, hb1⟩)
  have hin1 : In32 w1 w1.heap.size A zs := fun h => by
    obtain ⟨b, off, e, hb, hc⟩ := hin h
    exact ⟨b, off, e, by have := hb1.size; omega, fun j hj => (hb1.cell (p := ⟨b, off + j, none⟩) hb).trans (hc j hj)⟩
  go_loop [5] (fun i => ∃ k : Nat, i = .int .i64 k ∧ k ≤ zs.length) (fun i => zs.length - (intOf i).toNat)
  case atStart => exact ⟨0, rfl, Nat.zero_le _⟩
  case round =>
    obtain ⟨k, rfl, hk⟩ := hrel
    by_cases hlt : k < zs.length
    · obtain ⟨b, off, rfl, hbB, hc⟩ := hin1 (by omega)
      have hc' := hc k hlt
      have hmm := fun W => refMay_any (zs.getD k 0) W
      rw [hm _ (getD_mem zs k hlt)] at hmm
      have Hm := Lib.hid hmm
      generalize zs.getD k 0 = z at *
      have Hin := Lib.hid hin
      have Hin1 := Lib.hid hin1
      clear hc hmm hm hin hin1
      go_wp2_with (go_at_call 12; refine (Hm.out _).mono ?_; rintro e w' ⟨rfl, rfl⟩)
      go_round
      case rel => exact ⟨k + 1, by go_num, by omega⟩
      case measure => simp [intOf]; omega
    · have Hin := Lib.hid hin
      have h2 := Lib.hid (Hr.out w1 hin1)
      have Hin1 := Lib.hid hin1
      clear hin hin1
      go_wp2_with (first
        | (go_at_call 24; refine h2.out.mono ?_; rintro e w2 ⟨rfl, hb2⟩)
        | (go_at_call 16; refine (num_any _ _).mono ?_; rintro e w' ⟨rfl, rfl⟩)
        | (go_at_call 9; refine (known_any _).mono ?_; rintro e w3 ⟨rfl, hb3⟩))
      go_ret
      exact ⟨rfl, (hb1.trans (hb2.mono hb1.size)).trans (hb3.mono (by have := hb1.size; have := hb2.size; omega))⟩
set_option maxHeartbeats 2000000 in
theorem makes_no (zs : List Int) (A : Option Addr) (cap : Nat) (w : World) (hin : In32 w w.heap.size A zs) (hn : zs.length ≤ 3000) (hm : ¬ ∀ z ∈ zs, mayB z = true) :
    Calls Try.prog 5 #[.slice A zs.length cap] w fun e w' => e = .returned (.bool true) ∧ Below w.heap.size w w' := by
  have He := Lib.hid (enc_no zs A cap w hin (by omega) hm)
  go_enter Try.func5, Try.ntmps5
  go_wp2_with (go_at_call 23; refine He.out.mono ?_; rintro e w1 ⟨rfl, hb1⟩)
  have hin1 : In32 w1 w1.heap.size A zs := fun h => by
    obtain ⟨b, off, e, hb, hc⟩ := hin h
    exact ⟨b, off, e, by have := hb1.size; omega, fun j hj => (hb1.cell (p := ⟨b, off + j, none⟩) hb).trans (hc j hj)⟩
  go_loop [5] (fun i => ∃ k : Nat, i = .int .i64 k ∧ k ≤ zs.length ∧ ∀ z ∈ zs.take k, mayB z = true) (fun i => zs.length - (intOf i).toNat)
  case atStart => exact ⟨0, rfl, Nat.zero_le _, by simp⟩
  case round =>
    obtain ⟨k, rfl, hk, hall⟩ := hrel
    by_cases hlt : k < zs.length
    · obtain ⟨b, off, rfl, hbB, hc⟩ := hin1 (by omega)
      have hc' := hc k hlt
      have hmm := fun W => refMay_any (zs.getD k 0) W
      have HE := Lib.hid (take_snoc zs k hlt)
      cases hmk : mayB (zs.getD k 0)
      all_goals
        rw [hmk] at hmm
        have Hm := Lib.hid hmm
        have Hmk := Lib.hid hmk
        have Hall := Lib.hid hall
        generalize zs.getD k 0 = z at *
        have Hin := Lib.hid hin
        have Hin1 := Lib.hid hin1
        clear hc hmm hm hin hin1 hmk hall
        go_wp2_with (first
          | (go_at_call 12; refine (Hm.out _).mono ?_; rintro e w' ⟨rfl, rfl⟩)
          | (go_at_call 16; refine (num_any _ _).mono ?_; rintro e w' ⟨rfl, rfl⟩)
          | (go_at_call 9; refine (known_any _).mono ?_; rintro e w3 ⟨rfl, hb3⟩))
      · go_ret
        exact ⟨rfl, hb1.trans (hb3.mono hb1.size)⟩
      · go_round
        case rel => exact ⟨k + 1, by go_num, by omega, by rw [HE.out]; exact all_snoc Hall.out Hmk.out⟩
        case measure => simp [intOf]; omega
    · exact absurd (by have e : k = zs.length := by omega
                       subst e; rwa [List.take_length] at hall) hm

end Go.Proofs.Ytnokocaodnanoaa
