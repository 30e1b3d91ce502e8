/- A text's parts between blanks. -/
import Derived.Test.YtppmjlfecbaicaaDoorTrim
import Derived.Test.YtppmjlfecbaicaaDoorTxt
import Derived.Lib.TrimUEq
import Derived.Lib.FieldsU
namespace Go.Proofs.YtppmjlfecbaicaaDoor
open Go.RowKit
set_option linter.unusedVariables false
set_option linter.unusedSimpArgs false

def pst (s : ByteArray) (st : List (Nat × Nat) × Nat) (i : Nat) : List (Nat × Nat) × Nat :=
  if i < s.size ∧ isB ((bl s).getD i 0) = false then st else ((if st.2 < i then st.1 ++ [(st.2, i)] else st.1), i + 1)
def pcs (s : ByteArray) (k : Nat) : List (Nat × Nat) × Nat := (List.range k).foldl (pst s) ([], 0)
/-- Where the parts between blanks lie. -/
def spans (s : ByteArray) : List (Nat × Nat) := (pcs s (s.size + 1)).1
def exts (s : ByteArray) (l : List (Nat × Nat)) : List ByteArray := l.map fun x => s.extract x.1 x.2
theorem pcs_succ (s : ByteArray) (k : Nat) : pcs s (k + 1) = pst s (pcs s k) k := by
  unfold pcs
  rw [List.range_succ, List.foldl_append]
  rfl
theorem pcs_le (s : ByteArray) : ∀ k, (pcs s k).2 ≤ k ∧ (pcs s k).1.length ≤ k ∧ ∀ x ∈ (pcs s k).1, x.1 < x.2 ∧ x.2 < k := by
  intro k
  induction k with
  | zero => exact ⟨Nat.le_refl _, Nat.le_refl _, fun x hx => by cases hx⟩
  | succ k ih =>
    rw [pcs_succ]
    unfold pst
    obtain ⟨h1, h2, h3⟩ := ih
    split
    · exact ⟨by omega, by omega, fun x hx => ⟨(h3 x hx).1, by have := (h3 x hx).2; omega⟩⟩
    · refine ⟨Nat.le_refl _, ?_, ?_⟩
      · show (if (pcs s k).2 < k then (pcs s k).1 ++ [((pcs s k).2, k)] else (pcs s k).1).length ≤ _
        split
        · simp; omega
        · omega
      · show ∀ x ∈ (if (pcs s k).2 < k then (pcs s k).1 ++ [((pcs s k).2, k)] else (pcs s k).1), _
        split
        · intro x hx
          rcases List.mem_append.1 hx with h | h
          · exact ⟨(h3 x h).1, by have := (h3 x h).2; omega⟩
          · simp at h; subst h; exact ⟨by assumption, by simp⟩
        · intro x hx
          exact ⟨(h3 x hx).1, by have := (h3 x hx).2; omega⟩
theorem pcs_stay {s : ByteArray} {k : Nat} (h : k < s.size) (hb : isB ((bl s).getD k 0) = false) : pcs s (k + 1) = pcs s k := by
  rw [pcs_succ]
  unfold pst
  rw [if_pos ⟨h, hb⟩]
theorem pcs_cut {s : ByteArray} {k : Nat} (hb : ¬ (k < s.size ∧ isB ((bl s).getD k 0) = false)) (hlt : (pcs s k).2 < k) : pcs s (k + 1) = ((pcs s k).1 ++ [((pcs s k).2, k)], k + 1) := by
  rw [pcs_succ]
  unfold pst
  rw [if_neg hb, if_pos hlt]
theorem pcs_skip {s : ByteArray} {k : Nat} (hb : ¬ (k < s.size ∧ isB ((bl s).getD k 0) = false)) (hlt : ¬ (pcs s k).2 < k) : pcs s (k + 1) = ((pcs s k).1, k + 1) := by
  rw [pcs_succ]
  unfold pst
  rw [if_neg hb, if_neg hlt]
theorem pcs_far {s : ByteArray} {k : Nat} : ∀ m, k + m ≤ s.size → (∀ j, j < m → isB ((bl s).getD (k + j) 0) = false) → pcs s (k + m) = pcs s k
  | 0, _, _ => rfl
  | m + 1, h, hb => by
    rw [← Nat.add_assoc, pcs_stay (by omega) (hb m (by omega))]
    exact pcs_far m (by omega) fun j hj => hb j (by omega)

/-- A rune's bytes: one that is ASCII; or all of them beyond. -/
theorem decodeN_kind (n b0 b1 b2 b3 : Nat) : (b0 < 128 ∧ Lib.decodeN n b0 b1 b2 b3 = (b0, 1)) ∨ (128 ≤ b0 ∧ 128 ≤ (Lib.decodeN n b0 b1 b2 b3).1 ∧
    (2 ≤ (Lib.decodeN n b0 b1 b2 b3).2 → 128 ≤ b1) ∧ (3 ≤ (Lib.decodeN n b0 b1 b2 b3).2 → 128 ≤ b2) ∧ (4 ≤ (Lib.decodeN n b0 b1 b2 b3).2 → 128 ≤ b3) ∧ (Lib.decodeN n b0 b1 b2 b3).2 ≤ 4) := by
  by_cases h0 : b0 < 128
  · exact .inl ⟨h0, Lib.decodeN_ascii _ _ _ _ _ h0⟩
  · refine .inr ⟨by omega, ?_⟩
    unfold Lib.decodeN
    rw [if_neg h0]
    split
    · split <;> simp <;> omega
    · split
      · split <;> simp <;> omega
      · split
        · split <;> simp <;> omega
        · simp
theorem isB_hi {x : Int} (h : 128 ≤ x) : isB x = false := by
  unfold isB
  simp
  omega
theorem decode_kind {s : ByteArray} {pos : Nat} (h : pos < s.size) : (Utf8.decode s pos).2 + pos ≤ s.size ∧ ((((Utf8.decode s pos).1 : Int) = (bl s).getD pos 0 ∧ (Utf8.decode s pos).2 = 1) ∨ (isB ((Utf8.decode s pos).1 : Int) = false ∧ 1 ≤ (Utf8.decode s pos).2 ∧ ∀ j, j < (Utf8.decode s pos).2 → isB ((bl s).getD (pos + j) 0) = false)) := by
  have hle : (Utf8.decode s pos).2 + pos ≤ s.size := by
    have := Lib.decodeN_le_n' (s.size - pos) (s.get! pos).toNat (s.get! (pos + 1)).toNat (s.get! (pos + 2)).toNat (s.get! (pos + 3)).toNat (by omega)
    rw [← Lib.decode_at] at this
    omega
  refine ⟨hle, ?_⟩
  have hg : ∀ j, pos + j < s.size → (bl s).getD (pos + j) 0 = ((s.get! (pos + j)).toNat : Int) := fun j hj => by
    rw [bl_get s (pos + j) hj]
    have : s.get! (pos + j) = s[pos + j] := by
      show s.data[pos + j]! = _
      rw [getElem!_pos s.data (pos + j) hj]
      rfl
    rw [this]
  have hk := decodeN_kind (s.size - pos) (s.get! pos).toNat (s.get! (pos + 1)).toNat (s.get! (pos + 2)).toNat (s.get! (pos + 3)).toNat
  have h1 := Lib.width_pos s pos
  rw [Lib.decode_at] at hle h1 ⊢
  rcases hk with ⟨h0, e⟩ | ⟨h0, hr, g1, g2, g3, g4⟩
  · rw [e]
    exact .inl ⟨(by have := hg 0 h; simpa using this.symm), rfl⟩
  · refine .inr ⟨isB_hi (by omega), h1, fun j hj => ?_⟩
    rw [hg j (by omega)]
    apply isB_hi
    match j, hj with
    | 0, _ => show (128 : Int) ≤ ((s.get! pos).toNat : Int); omega
    | 1, h => have := g1 (by omega); omega
    | 2, h => have := g2 (by omega); omega
    | 3, h => have := g3 (by omega); omega
    | (j + 4), h => omega
end Go.Proofs.YtppmjlfecbaicaaDoor
