/- Which names may be; which attributes may be, by both. -/
import Derived.Test.YtniaijgejljjbaaMay
import Derived.Test.YtniaijgejljjbaaUDecode
namespace Go.Proofs.Ytniaijgejljjbaa
open Go.RowKit
set_option linter.unusedVariables false
set_option linter.unusedSimpArgs false

def validV (v : List UInt8) : Bool := decide (Utf.upto (sx v) = (sx v).size)
def mayN (v : List UInt8) : Bool := decide (v.length ≤ 1000) && validV v
def mayA (x : At) : Bool := mayT x.t && mayN x.v

set_option maxHeartbeats 1000000 in
theorem refValid_any (v : List UInt8) (w : World) (h1 : v.length ≤ 40000) : Calls Try.prog 71 #[.string (sx v)] w fun e w' => e = .returned (.bool (validV v)) ∧ Below w.heap.size w w' := by
  have hz := sx_size v
  have HD := Lib.hid (Utf.refDec_any (sx v) w (by omega))
  by_cases h : Utf.upto (sx v) = (sx v).size
  · have HV : Hid (validV v = true) := Lib.hid (decide_eq_true h)
    rw [h] at HD
    clear h
    go_enter Try.func71, Try.ntmps71
    go_wp2_with (go_at_call 82; refine HD.out.mono ?_; rintro e w' ⟨v1, rfl, _, hb⟩)
    go_ret
    exact ⟨by rw [HV.out]; rfl, hb⟩
  · have HV : Hid (validV v = false) := Lib.hid (decide_eq_false h)
    have hne : (((Utf.upto (sx v) : Nat) : Int) == ((sx v).size : Int)) = false := by simp; omega
    have hne2 : (((Utf.upto (sx v) : Nat) : Int) == (v.length : Int)) = false := by simp; omega
    clear h
    generalize Utf.upto (sx v) = u at *
    go_enter Try.func71, Try.ntmps71
    go_wp2_with (go_at_call 82; refine HD.out.mono ?_; rintro e w' ⟨v1, rfl, _, hb⟩)
    go_ret
    exact ⟨by rw [HV.out]; rfl, hb⟩
set_option maxHeartbeats 1000000 in
theorem mayName_any (v : List UInt8) (w : World) (h1 : v.length ≤ 9223372036854775807) : Calls Try.prog 83 #[.string (sx v)] w fun e w' => e = .returned (.bool (mayN v)) ∧ w = w' := by
  have hz := sx_size v
  by_cases h : v.length ≤ 1000
  · have HD : Hid (∀ W, Calls Try.prog 92 #[.string (sx v)] W fun e w' => e = .returned (.bool (validV v)) ∧ W = w') := Lib.hid fun W => Utf.valid_any (sx v) W (by omega)
    have HV : Hid (mayN v = validV v) := Lib.hid (by unfold mayN; rw [decide_eq_true h, Bool.true_and])
    generalize validV v = b at *
    go_enter Try.func83, Try.ntmps83
    go_wp2_with (go_at_call 92; refine (HD.out _).mono ?_; rintro e w' ⟨rfl, rfl⟩)
    go_ret
    exact ⟨by rw [HV.out]; rfl, rfl⟩
  · have HV : Hid (mayN v = false) := Lib.hid (by unfold mayN; rw [decide_eq_false h, Bool.false_and])
    have h' : 1000 < v.length := by omega
    clear h
    go_enter Try.func83, Try.ntmps83
    go_wp2
    go_ret
    exact ⟨by rw [HV.out]; rfl, rfl⟩
set_option maxHeartbeats 1000000 in
theorem refMayName_any (v : List UInt8) (w : World) (h1 : v.length ≤ 9223372036854775807) : Calls Try.prog 51 #[.string (sx v)] w fun e w' => e = .returned (.bool (mayN v)) ∧ Below w.heap.size w w' := by
  have hz := sx_size v
  by_cases h : v.length ≤ 1000
  · have HD : Hid (∀ W, Calls Try.prog 71 #[.string (sx v)] W fun e w' => e = .returned (.bool (validV v)) ∧ Below W.heap.size W w') := Lib.hid fun W => refValid_any v W (by omega)
    have HV : Hid (mayN v = validV v) := Lib.hid (by unfold mayN; rw [decide_eq_true h, Bool.true_and])
    generalize validV v = b at *
    go_enter Try.func51, Try.ntmps51
    go_wp2_with (go_at_call 71; refine (HD.out _).mono ?_; rintro e w' ⟨rfl, hb⟩)
    go_ret
    exact ⟨by rw [HV.out]; rfl, hb⟩
  · have HV : Hid (mayN v = false) := Lib.hid (by unfold mayN; rw [decide_eq_false h, Bool.false_and])
    have h' : 1000 < v.length := by omega
    clear h
    go_enter Try.func51, Try.ntmps51
    go_wp2
    go_ret
    exact ⟨by rw [HV.out]; rfl, Below.refl _ _⟩
set_option maxHeartbeats 1000000 in
theorem mayAttr_any (x : At) (w : World) (h1 : x.t.length ≤ 9223372036854775807) (h2 : x.v.length ≤ 9223372036854775807) : Calls Try.prog 87 #[x.val] w fun e w' => e = .returned (.bool (mayA x)) ∧ Below w.heap.size w w' := by
  have HT : Hid (∀ W, Calls Try.prog 95 #[.string (sx x.t)] W fun e w' => e = .returned (.bool (mayT x.t)) ∧ W = w') := Lib.hid fun W => mayType_any x.t W h1
  have HN : Hid (∀ W, Calls Try.prog 83 #[.string (sx x.v)] W fun e w' => e = .returned (.bool (mayN x.v)) ∧ W = w') := Lib.hid fun W => mayName_any x.v W h2
  cases ht : mayT x.t with
  | false =>
    have HV : Hid (mayA x = false) := Lib.hid (by unfold mayA; rw [ht]; rfl)
    rw [ht] at HT
    clear ht
    go_enter Try.func87, Try.ntmps87
    go_wp2_with (go_at_call 95; (with_reducible refine (HT.out _).mono ?_); rintro e w' ⟨rfl, rfl⟩)
    go_ret
    exact ⟨by rw [HV.out]; rfl, (Below.refl _ _).alloc (Nat.le_refl _) _⟩
  | true =>
    have HV : Hid (mayA x = mayN x.v) := Lib.hid (by unfold mayA; rw [ht]; rfl)
    rw [ht] at HT
    generalize mayN x.v = b at *
    clear ht
    go_enter Try.func87, Try.ntmps87
    go_wp2_with (first
      | (go_at_call 95; (with_reducible refine (HT.out _).mono ?_); rintro e w' ⟨rfl, rfl⟩)
      | (go_at_call 83; (with_reducible refine (HN.out _).mono ?_); rintro e w' ⟨rfl, rfl⟩))
    go_ret
    exact ⟨by rw [HV.out]; rfl, (Below.refl _ _).alloc (Nat.le_refl _) _⟩
end Go.Proofs.Ytniaijgejljjbaa
