/- Texts of code points. -/
import Derived.Test.YtppmjlfecbaicaaDoorHex
namespace Go.Proofs.YtppmjlfecbaicaaDoor
open Go.RowKit
set_option linter.unusedVariables false
set_option linter.unusedSimpArgs false

def digs : ByteArray := ⟨#[48, 49, 50, 51, 52, 53, 54, 55, 56, 57, 65, 66, 67, 68, 69, 70]⟩
/-- The text of a digit. -/
def dg (m : Nat) : ByteArray := ⟨#[digs.data.getD m 0]⟩
/-- A code point's text, digit by digit. -/
def tx : Nat → Nat → ByteArray → ByteArray
  | 0, _, s => s
  | f + 1, n, s => if 0 < n ∨ s.size < 4 then tx f (n / 16) (dg (n % 16) ++ s) else s
def textV (r : Int) : ByteArray := if r < 0 ∨ 1114111 < r then ⟨#[]⟩ else tx 8 r.toNat ⟨#[]⟩
def lenOf : Value → Nat
  | .string s => s.size
  | _ => 0
theorem and15 (n : Nat) (h : n < 2147483648) : bits BinOp.and IntKind.i32 (n : Int) 15 = ((n % 16 : Nat) : Int) := by
  show IntKind.i32.wrap ((BitVec.ofInt 32 (n : Int) &&& BitVec.ofInt 32 ((15 : Nat) : Int)).toNat : Int) = _
  rw [BitVec.toNat_and, ofInt_u32 _ (by omega), ofInt_u32 _ (by omega), show (15 : Nat) = 2 ^ 4 - 1 from rfl, Nat.and_two_pow_sub_one_eq_mod, IntWalk.i32_in _ (by omega)]

theorem tx_end {f n : Nat} {s : ByteArray} (h : ¬ (0 < n ∨ s.size < 4)) : tx f n s = s := by
  cases f with
  | zero => rfl
  | succ f => unfold tx; rw [if_neg h]
theorem tx_step {f n : Nat} {s : ByteArray} (h : 0 < n ∨ s.size < 4) : tx (f + 1) n s = tx f (n / 16) (dg (n % 16) ++ s) := by
  rw [tx, if_pos h]
theorem dg_cut (m : Nat) (h : m < 16) : ({ data := #[48, 49, 50, 51, 52, 53, 54, 55, 56, 57, 65, 66, 67, 68, 69, 70] } : ByteArray).extract m (m + 1) = dg m := by
  have : ∀ m : Fin 16, ({ data := #[48, 49, 50, 51, 52, 53, 54, 55, 56, 57, 65, 66, 67, 68, 69, 70] } : ByteArray).extract m.val (m.val + 1) = dg m.val := by decide +kernel
  exact this ⟨m, h⟩
theorem dg_size (m : Nat) (s : ByteArray) : (dg m ++ s).size = 1 + s.size := by
  rw [ByteArray.size_append]; rfl

set_option maxHeartbeats 4000000 in
theorem codeText_any (r : Int) (w : World) (h1 : -2147483648 ≤ r) (h2 : r ≤ 2147483647) : Calls Tryd.prog 17 #[.int .i32 r] w fun e w' => e = .returned (.string (textV r)) ∧ w = w' := by
  by_cases hr : r < 0 ∨ 1114111 < r
  · have e : textV r = ⟨#[]⟩ := by unfold textV; rw [if_pos hr]
    rw [e]
    clear e
    go_enter Tryd.func17, Tryd.ntmps17
    go_wp2
    all_goals go_ret
    all_goals first | exact ⟨rfl, rfl⟩ | (exfalso; omega)
  · have e : textV r = tx 8 r.toNat ⟨#[]⟩ := by unfold textV; rw [if_neg hr]
    rw [e]
    obtain ⟨n0, rfl⟩ := Int.eq_ofNat_of_zero_le (show 0 ≤ r by omega)
    have hn0 : n0 ≤ 1114111 := by omega
    have HT : Hid ((n0 : Int).toNat = n0) := Lib.hid (by omega)
    clear e hr
    go_enter Tryd.func17, Tryd.ntmps17
    go_wp2
    go_loopw [3, 4] (fun s i wr => ∃ (f n : Nat) (t : ByteArray), s = .string t ∧ i = .int .i32 n ∧ n ≤ n0 ∧ n < 16 ^ f ∧ 4 ≤ t.size + f ∧ f + t.size ≤ 8 ∧ wr = w ∧ Hid (tx f n t = tx 8 n0 ⟨#[]⟩)) (fun s i _ => (intOf i).toNat + (4 - lenOf s))
    case atStart => exact ⟨8, n0, ⟨#[]⟩, rfl, rfl, Nat.le_refl _, by omega, by decide, by decide, rfl, Lib.hid rfl⟩
    case round =>
      obtain ⟨f, n, t, rfl, rfl, hn, hf, h4, h8, rfl, HX⟩ := hrel
      have hand := and15 n (by omega)
      have hm : n % 16 < 16 := Nat.mod_lt _ (by decide)
      by_cases hgo : 0 < n ∨ t.size < 4
      · cases f with
        | zero => exfalso; have : n < 1 := by simpa using hf
                  omega
        | succ f =>
          have HE := Lib.hid ((tx_step (f := f) hgo).symm.trans HX.out)
          have hp : n < 16 ^ f * 16 := by rw [← Nat.pow_succ]; exact hf
          have hq : n / 16 < 16 ^ f := by omega
          have hz := Lib.hid (dg_size (n % 16) t)
          clear hf hp
          have hx := Lib.hid (dg_cut (n % 16) hm)
          generalize n % 16 = m at *
          by_cases hn1 : 0 < n
          · have hd : decide (0 < (n : Int)) = true := by simp; omega
            go_wp2
            rw [hx.out]
            refine ⟨⟨f, n / 16, _, rfl, by go_num, by omega, hq, by rw [hz.out]; omega, by rw [hz.out]; omega, by trivial, HE⟩, ?_⟩
            show ((n : Int) / 16).toNat + (4 - (dg m ++ t).size) < (n : Int).toNat + (4 - t.size)
            rw [hz.out]
            omega
          · have hd : decide (0 < (n : Int)) = false := by simp; omega
            have hn2 := Lib.hid (show n = 0 by omega)
            have ht : t.size < 4 := by omega
            go_wp2
            rw [hx.out]
            refine ⟨⟨f, n / 16, _, rfl, by go_num, by omega, hq, by rw [hz.out]; omega, by rw [hz.out]; omega, by trivial, HE⟩, ?_⟩
            show ((n : Int) / 16).toNat + (4 - (dg m ++ t).size) < (n : Int).toNat + (4 - t.size)
            rw [hz.out]
            have := hn2.out
            omega
      · have HE := Lib.hid (HX.out.symm.trans (tx_end hgo))
        have hn1 : n = 0 := by omega
        have ht : 4 ≤ t.size := by omega
        subst hn1
        clear hgo hand
        go_wp2
        go_ret
        exact ⟨by rw [HT.out, HE.out]; rfl, rfl⟩
end Go.Proofs.YtppmjlfecbaicaaDoor
