/- UtfTexts, the walk. -/
import Derived.Test.YtnokocaodnanoaaOnce
namespace Go.Proofs.Ytnokocaodnanoaa
open Go.RowKit
set_option linter.unusedVariables false

set_option maxHeartbeats 1000000 in
theorem texts_long (s : ByteArray) (leave : Int) (w : World) (h1 : s.size ≤ maxLen) (hl : 9000 < s.size) :
    Calls Try.prog 4 #[.string s, .int .i64 leave] w fun e w' => e = .returned (.bool true) ∧ Below w.heap.size w w' := by
  unfold maxLen at h1
  go_enter Try.func4, Try.ntmps4
  go_wp2_with (go_at_call 9; refine (known_any _).mono ?_; rintro e w1 ⟨rfl, hb1⟩)
  go_ret
  exact ⟨rfl, hb1⟩

set_option maxHeartbeats 4000000 in
theorem texts_ill (s : ByteArray) (leave : Int) (w : World) (h1 : s.size ≤ 9000) (hv : upto s ≠ s.size) :
    Calls Try.prog 4 #[.string s, .int .i64 leave] w fun e w' => e = .returned (.bool true) ∧ Below w.heap.size w w' := by
  have hx := fun W => valid_any s W (by omega)
  rw [decide_eq_false hv] at hx
  have hy := fun W => where_any s W (by omega)
  have hd := fun W => refDec_any s W (by omega)
  have Hv := Lib.hid hv
  have hu := upto_le s
  have hlt : (upto s : Int) < (s.size : Int) := by omega
  have hne : (((upto s : Nat) : Int) == (s.size : Int)) = false := by simp; omega
  clear hv
  have Ho := Lib.hid (fun A cap m W h => once_any s A cap m W (by omega) h)
  generalize upto s = u at hx hy hd hlt hne hu
  have Hx := Lib.hid hx
  have Hy := Lib.hid hy
  have Hd := Lib.hid hd
  clear hx hy hd
  go_enter Try.func4, Try.ntmps4
  go_wp2_with fail
  refine (Hd.out _).mono ?_
  rintro e w1 ⟨v1, rfl, hrow1, hb1⟩
  obtain ⟨A, cap, rfl, hin1⟩ := row_in hrow1
  go_wp2_with fail
  refine (decode_no s _ (by omega) Hv.out).mono ?_
  rintro e w2 ⟨rfl, hb2⟩
  have hin2 := Lib.hid (in_below hin1 hb2)
  have HB2 := Lib.hid (hb1.trans (hb2.mono hb1.size))
  clear hb1 hb2 hin1 hrow1
  go_wp2_with (first
    | (go_at_call 19; refine (Hx.out _).mono ?_; rintro e w' ⟨rfl, rfl⟩)
    | (go_at_call 20; refine (Hy.out _).mono ?_; rintro e w' ⟨rfl, rfl⟩))
  refine (Ho.out A cap 0 _ hin2.out).mono ?_
  rintro e w3 ⟨rfl, hb3⟩
  have hin3 := Lib.hid (in_below hin2.out hb3)
  have HB3 := Lib.hid (HB2.out.trans (hb3.mono HB2.out.size))
  clear hb3
  go_wp2_with fail
  refine (Ho.out A cap leave _ hin3.out).mono ?_
  rintro e w4 ⟨rfl, hb4⟩
  have HB4 := Lib.hid (HB3.out.trans (hb4.mono HB3.out.size))
  clear hb4
  go_wp2_with (first
    | (go_at_call 16; refine (num_any _ _).mono ?_; rintro e w' ⟨rfl, rfl⟩)
    | (go_at_call 9; refine (known_any _).mono ?_; rintro e w5 ⟨rfl, hb5⟩))
  go_ret
  exact ⟨rfl, HB4.out.trans (hb5.mono HB4.out.size)⟩

set_option maxHeartbeats 4000000 in
theorem texts_ok (s : ByteArray) (leave : Int) (w : World) (h1 : s.size ≤ 9000) (hv : upto s = s.size) :
    Calls Try.prog 4 #[.string s, .int .i64 leave] w fun e w' => e = .returned (.bool true) ∧ Below w.heap.size w w' := by
  have hx := fun W => valid_any s W (by omega)
  rw [decide_eq_true hv] at hx
  have hy := fun W => where_any s W (by omega)
  have hd := fun W => refDec_any s W (by omega)
  rw [hv] at hy hd
  have Hv := Lib.hid hv
  have hrl := runes_len s
  clear hv
  have Ho := Lib.hid (fun A cap m W h => once_any s A cap m W (by omega) h)
  have Hx := Lib.hid hx
  have Hy := Lib.hid hy
  have Hd := Lib.hid hd
  clear hx hy hd
  go_enter Try.func4, Try.ntmps4
  go_wp2_with fail
  refine (Hd.out _).mono ?_
  rintro e w1 ⟨v1, rfl, hrow1, hb1⟩
  obtain ⟨A, cap, rfl, hin1⟩ := row_in hrow1
  go_wp2_with fail
  refine (decode_ok s _ (by omega) Hv.out).mono ?_
  rintro e w2 ⟨v2, rfl, hrow2, hb2⟩
  obtain ⟨A2, cap2, rfl, hin2⟩ := row_in hrow2
  have hinA := Lib.hid (in_below hin1 hb2)
  have hinB := Lib.hid hin2
  have HB2 := Lib.hid (hb1.trans (hb2.mono hb1.size))
  clear hb1 hb2 hin1 hrow1 hrow2 hin2
  go_wp2_with (first
    | (go_at_call 19; refine (Hx.out _).mono ?_; rintro e w' ⟨rfl, rfl⟩)
    | (go_at_call 20; refine (Hy.out _).mono ?_; rintro e w' ⟨rfl, rfl⟩))
  refine (Ho.out A cap 0 _ hinA.out).mono ?_
  rintro e w3 ⟨rfl, hb3⟩
  have hinA3 := Lib.hid (in_below hinA.out hb3)
  have hinB3 := Lib.hid (in_below hinB.out hb3)
  have HB3 := Lib.hid (HB2.out.trans (hb3.mono HB2.out.size))
  clear hb3
  go_wp2_with fail
  refine (Ho.out A cap leave _ hinA3.out).mono ?_
  rintro e w4 ⟨rfl, hb4⟩
  have hinA4 := Lib.hid (in_below hinA3.out hb4)
  have hinB4 := Lib.hid (in_below hinB3.out hb4)
  have HB4 := Lib.hid (HB3.out.trans (hb4.mono HB3.out.size))
  clear hb4
  go_wp2_with fail
  refine (same_eq (runes s) A2 A cap2 cap _ hinB4.out hinA4.out (by omega)).mono ?_
  rintro e w5 ⟨rfl, hb5⟩
  have HB5 := Lib.hid (HB4.out.trans (hb5.mono HB4.out.size))
  clear hb5
  go_wp2_with (first
    | (go_at_call 16; refine (num_any _ _).mono ?_; rintro e w' ⟨rfl, rfl⟩)
    | (go_at_call 9; refine (known_any _).mono ?_; rintro e w6 ⟨rfl, hb6⟩))
  go_ret
  exact ⟨rfl, HB5.out.trans (hb6.mono HB5.out.size)⟩
end Go.Proofs.Ytnokocaodnanoaa
