/- A code point's text is read back. -/
import Derived.Test.YtppmjlfecbaicaaDoorTxt
namespace Go.Proofs.YtppmjlfecbaicaaDoor
open Go.RowKit
set_option linter.unusedVariables false
set_option linter.unusedSimpArgs false

theorem fold_none : ∀ l : List Int, l.foldl stepV none = none := by
  intro l
  induction l with
  | nil => rfl
  | cons x t ih => exact ih
theorem fold_some : ∀ (l : List Int) (a : Int), l.foldl stepV (some a) = (valV l).map fun v => a * 16 ^ l.length + v := by
  intro l
  induction l with
  | nil => intro a; simp [valV]
  | cons x t ih =>
    intro a
    unfold valV
    rw [List.foldl_cons, List.foldl_cons]
    cases hd : dig x with
    | none =>
      have e : ∀ b : Int, stepV (some b) x = none := fun b => by unfold stepV; rw [Option.bind_some, hd]; rfl
      rw [e, e, fold_none]
      rfl
    | some d =>
      have e : ∀ b : Int, stepV (some b) x = some (16 * b + d) := fun b => by unfold stepV; rw [Option.bind_some, hd]; rfl
      rw [e, e, ih, ih, Option.map_map]
      congr 1
      funext v
      show (16 * a + d) * 16 ^ t.length + v = a * 16 ^ (x :: t).length + ((16 * 0 + d) * 16 ^ t.length + v)
      rw [show (16 * 0 + d : Int) = d from by omega, List.length_cons, Int.pow_succ, Int.add_mul, Int.mul_assoc 16 a, Int.mul_comm 16 (a * _), Int.mul_assoc]
      omega
theorem val_cons {c d v : Int} {l : List Int} (hd : dig c = some d) (hv : valV l = some v) : valV (c :: l) = some (d * 16 ^ l.length + v) := by
  have e : stepV (some 0) c = some (16 * 0 + d) := by unfold stepV; rw [Option.bind_some, hd]; rfl
  unfold valV
  rw [List.foldl_cons, e, fold_some, hv]
  simp
theorem bl_dg (m : Nat) (h : m < 16) (s : ByteArray) : ∃ c : Int, bl (dg m ++ s) = c :: bl s ∧ dig c = some (m : Int) := by
  have e : bl (dg m ++ s) = bl (dg m) ++ bl s := by
    unfold bl
    rw [ByteArray.data_append, Array.toList_append, List.map_append]
  have h2 : ∀ m : Fin 16, ∃ c : Int, bl (dg m.val) = [c] ∧ dig c = some (m.val : Int) := fun m => ⟨((digs.data.getD m.val 0).toNat : Int), rfl, by revert m; decide⟩
  obtain ⟨c, e1, e2⟩ := h2 ⟨m, h⟩
  exact ⟨c, by rw [e, e1]; rfl, e2⟩
theorem tx_val : ∀ (f n : Nat) (s : ByteArray) (v : Int), valV (bl s) = some v → n < 16 ^ f → s.size ≤ 6 → n < 16 ^ (6 - s.size) → 4 ≤ s.size + f →
    valV (bl (tx f n s)) = some ((n : Int) * 16 ^ s.size + v) ∧ 4 ≤ (tx f n s).size ∧ (tx f n s).size ≤ 6 := by
  intro f
  induction f with
  | zero =>
    intro n s v hv hn h6 h7 h4
    have : n = 0 := by simpa using hn
    subst this
    exact ⟨by show valV (bl s) = _; rw [hv]; simp, by show 4 ≤ s.size; omega, h6⟩
  | succ f ih =>
    intro n s v hv hn h6 h7 h4
    by_cases hg : 0 < n ∨ s.size < 4
    · rw [tx_step hg]
      obtain ⟨c, e1, e2⟩ := bl_dg (n % 16) (Nat.mod_lt _ (by decide)) s
      have hs5 : s.size < 6 := by
        rcases Nat.lt_or_ge s.size 6 with h | h
        · exact h
        · have e : 6 - s.size = 0 := by omega
          rw [e] at h7
          have : n < 1 := by simpa using h7
          omega
      have hsz := dg_size (n % 16) s
      have hval : valV (bl (dg (n % 16) ++ s)) = some (((n % 16 : Nat) : Int) * 16 ^ s.size + v) := by
        rw [e1, val_cons e2 hv, bl_len]
      have hp : 16 ^ (6 - s.size) = 16 ^ (6 - (1 + s.size)) * 16 := by
        rw [← Nat.pow_succ]
        congr 1
        omega
      have hp2 : 16 ^ (f + 1) = 16 ^ f * 16 := Nat.pow_succ ..
      obtain ⟨r1, r2, r3⟩ := ih (n / 16) (dg (n % 16) ++ s) _ hval (by omega) (by omega) (by rw [hsz]; omega) (by omega)
      refine ⟨?_, r2, r3⟩
      rw [r1, hsz]
      congr 1
      have e3 : ((16 : Int) ^ (1 + s.size)) = 16 * 16 ^ s.size := by rw [Nat.add_comm, Int.pow_succ, Int.mul_comm]
      rw [e3]
      generalize (16 : Int) ^ s.size = p
      have e4 : (n : Int) = ((n / 16 : Nat) : Int) * 16 + ((n % 16 : Nat) : Int) := by omega
      rw [e4, Int.add_mul, ← Int.mul_assoc]
      omega
    · rw [tx_end hg]
      have : n = 0 := by omega
      subst this
      exact ⟨by rw [hv]; simp, by omega, h6⟩
/-- P3.4: a code point is read from its text. -/
theorem code_back {r : Int} (h0 : 0 ≤ r) (h1 : r ≤ 1114111) : codeV (bl (textV r)) = some r := by
  have e : textV r = tx 8 r.toNat ⟨#[]⟩ := by unfold textV; rw [if_neg (by omega)]
  have p8 : (16 : Nat) ^ 8 = 4294967296 := by decide
  have p6 : (16 : Nat) ^ 6 = 16777216 := by decide
  obtain ⟨a, b, c⟩ := tx_val 8 r.toNat ⟨#[]⟩ 0 rfl (by omega) (by decide) (by show r.toNat < 16 ^ 6; omega) (by decide)
  unfold codeV
  rw [e, bl_len, if_pos ⟨b, c⟩, a]
  have hz : (⟨#[]⟩ : ByteArray).size = 0 := rfl
  rw [hz]
  simp
  omega
end Go.Proofs.YtppmjlfecbaicaaDoor
