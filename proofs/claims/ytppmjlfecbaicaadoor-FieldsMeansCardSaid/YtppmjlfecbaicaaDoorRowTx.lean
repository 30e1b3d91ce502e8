/- Texts of rows, by the document. -/
import Derived.Test.YtppmjlfecbaicaaDoorSame
import Derived.Test.YtppmjlfecbaicaaDoorTxtR
namespace Go.Proofs.YtppmjlfecbaicaaDoor
open Go.RowKit
set_option linter.unusedVariables false
set_option linter.unusedSimpArgs false

theorem tx_size : ∀ (f n : Nat) (s : ByteArray), (tx f n s).size ≤ s.size + f := by
  intro f
  induction f with
  | zero => intro n s; exact Nat.le_refl _
  | succ f ih =>
    intro n s
    unfold tx
    split
    · have := ih (n / 16) (dg (n % 16) ++ s)
      rw [dg_size] at this
      omega
    · omega
theorem textV_size (r : Int) : (textV r).size ≤ 8 := by
  unfold textV
  split
  · exact Nat.zero_le _
  · have h := tx_size 8 r.toNat ⟨#[]⟩
    have e : (⟨#[]⟩ : ByteArray).size = 0 := rfl
    omega
def rst (l : List Int) (s : ByteArray) (k : Nat) : ByteArray := (if 0 < k then s ++ ⟨#[32]⟩ else s) ++ textV (l.getD k default)
def rtx (l : List Int) (k : Nat) : ByteArray := (List.range k).foldl (rst l) ⟨#[]⟩
/-- A row's text. -/
def rowT (l : List Int) : ByteArray := rtx l l.length
theorem rtx_succ (l : List Int) (k : Nat) : rtx l (k + 1) = rst l (rtx l k) k := by
  unfold rtx
  rw [List.range_succ, List.foldl_append]
  rfl
theorem sp_size (s : ByteArray) : (s ++ ⟨#[32]⟩ : ByteArray).size = s.size + 1 := by rw [ByteArray.size_append]; rfl
theorem rtx_size (l : List Int) : ∀ k, (rtx l k).size ≤ 9 * k := by
  intro k
  induction k with
  | zero => exact Nat.le_refl _
  | succ k ih =>
    have := textV_size (l.getD k default)
    rw [rtx_succ]
    unfold rst
    rw [ByteArray.size_append]
    split
    · rw [sp_size]; omega
    · omega

set_option maxHeartbeats 4000000 in
theorem refRowText_any (A : Option Addr) (c : Nat) (l : List Int) (w : World) (hr : RdK kR w w.heap.size A l) (hl : l.length ≤ 1000000) (hin : ∀ x ∈ l, -2147483648 ≤ x ∧ x ≤ 2147483647) :
    Calls Tryd.prog 20 #[.slice A l.length c] w fun e w' => e = .returned (.string (rowT l)) ∧ Below w.heap.size w w' := by
  have HR := Lib.hid hr
  have HI := Lib.hid hin
  clear hr hin
  go_enter Tryd.func20, Tryd.ntmps20
  go_wp2
  go_loopw [3, 4] (fun s i wr => ∃ k : Nat, i = .int .i64 k ∧ s = .string (rtx l k) ∧ k ≤ l.length ∧ Hid (Below w.heap.size w wr)) (fun _ i _ => l.length - (intOf i).toNat)
  case atStart => exact ⟨0, rfl, rfl, Nat.zero_le _, Lib.hid (Below.refl _ _)⟩
  case round =>
    obtain ⟨k, rfl, rfl, hk, HB⟩ := hrel
    by_cases hlt : k < l.length
    · obtain ⟨b, off, rfl, hb, x0⟩ := rune_cell HR.out HB.out hlt
      obtain ⟨i0, i1⟩ := HI.out (l.getD k default) (by rw [List.getD_eq_getElem?_getD, List.getElem?_eq_getElem hlt]; exact List.getElem_mem _)
      have HS := Lib.hid (rtx_succ l k)
      unfold rst at HS
      have hsz := rtx_size l k
      have htz := textV_size (l.getD k default)
      generalize rtx l k = s at *
      have HC := fun W => Lib.hid (refCodeText_any (l.getD k default) W i0 i1)
      generalize l.getD k default = x at *
      generalize textV x = t at *
      have hz1 := sp_size s
      have hle := HB.out.size
      by_cases h0 : 0 < k
      · rw [if_pos h0] at HS
        have hd : decide (0 < (k : Int)) = true := by simp; omega

        go_wp2_with (go_at_call 18; refine (HC _).out.mono ?_; rintro e w2 ⟨rfl, hb2⟩; have HB2 := Lib.hid (HB.out.trans (hb2.mono hle)); clear hb2)
        go_roundw
        case rel => exact ⟨k + 1, by go_num, by rw [HS.out], by omega, HB2⟩
        case measure => simp [intOf]; omega
      · rw [if_neg h0] at HS
        have hd : decide (0 < (k : Int)) = false := by simp; omega

        go_wp2_with (go_at_call 18; refine (HC _).out.mono ?_; rintro e w2 ⟨rfl, hb2⟩; have HB2 := Lib.hid (HB.out.trans (hb2.mono hle)); clear hb2)
        go_roundw
        case rel => exact ⟨k + 1, by go_num, by rw [HS.out], by omega, HB2⟩
        case measure => simp [intOf]; omega
    · have : k = l.length := by omega
      subst this
      clear HR HI
      go_wp2
      go_ret
      exact ⟨rfl, HB.out⟩
end Go.Proofs.YtppmjlfecbaicaaDoor
