/- What attributes, changed, are: what the document's answers and the program's have in common. -/
import Derived.Test.YtlhbnmaalhainaaChg
namespace Go.Proofs.Ytlhbnmaalhainaa
open Go.RowKit Go.Lib Go.Sort
set_option linter.unusedVariables false
set_option linter.unusedSimpArgs false

theorem getD_at (l : List At) (k : Nat) (h : k < l.length) : l.getD k default = l[k] := by rw [List.getD_eq_getElem?_getD, List.getElem?_eq_getElem h]; rfl
theorem upL_iff {l : List At} : upL l l.length = true ↔ (∀ x ∈ l, mayA x = true) ∧ Rises l := by
  unfold upL
  rw [List.all_eq_true]
  constructor
  · intro h
    have hk : ∀ k (hk : k < l.length), okL l k = true := fun k hk => h k (List.mem_range.2 hk)
    refine ⟨fun x hx => ?_, ?_⟩
    · obtain ⟨k, hk1, rfl⟩ := List.mem_iff_getElem.1 hx
      have := hk k hk1
      unfold okL at this
      rw [getD_at l k hk1] at this
      exact (Bool.and_eq_true_iff.1 this).1
    · refine List.pairwise_iff_getElem.2 fun i j hi hj hij => ?_
      induction j with
      | zero => omega
      | succ j ih =>
        have h1 := hk (j + 1) hj
        unfold okL at h1
        rw [getD_at l _ hj, show j + 1 - 1 = j from rfl, getD_at l j (by omega)] at h1
        have h2 : ltA l[j] l[j + 1] = true := by simpa using (Bool.and_eq_true_iff.1 h1).2
        by_cases e : i = j
        · subst e; exact h2
        · exact ltA_trans (ih (by omega) (by omega)) h2
  · rintro ⟨h1, h2⟩ k hk
    have hk := List.mem_range.1 hk
    unfold okL
    rw [getD_at l k hk, h1 _ (List.getElem_mem hk), Bool.true_and]
    by_cases h0 : k = 0
    · subst h0; rfl
    · rw [getD_at l (k - 1) (by omega), (List.pairwise_iff_getElem.1 h2) (k - 1) k (by omega) hk (by omega), Bool.or_true]
theorem mayL_iff {l : List At} : mayL l = true ↔ l.length ≤ 50 ∧ (∀ x ∈ l, mayA x = true) ∧ Rises l := by
  unfold mayL
  rw [Bool.and_eq_true_iff, upL_iff, decide_eq_true_iff]
theorem sort_self {l : List At} (h : Rises l) : sortA l = l := rises_ext (sort_rises l) h fun y => mem_sort
theorem sort_perm {a b : List At} (h : ∀ y, y ∈ a ↔ y ∈ b) : sortA a = sortA b := rises_ext (sort_rises a) (sort_rises b) fun y => by rw [mem_sort, mem_sort, h]
theorem mem_change {l by' : List At} {y : At} : y ∈ changeL l by' ↔ (y ∈ l ∧ ∀ b ∈ by', b.t ≠ y.t) ∨ (y ∈ by' ∧ y.v ≠ []) := by
  unfold changeL keepA setA
  rw [mem_sort, List.mem_append, List.mem_filter, List.mem_filter]
  simp
theorem change_rises (l by' : List At) : Rises (changeL l by') := sort_rises _
theorem change_may {l by' : List At} (h : mayC l by' = true) (hlen : (changeL l by').length ≤ 50) : mayL (changeL l by') = true := by
  unfold mayC at h
  obtain ⟨h1, h2⟩ := Bool.and_eq_true_iff.1 h
  obtain ⟨_, h3⟩ := Bool.and_eq_true_iff.1 h2
  obtain ⟨_, h4, _⟩ := mayL_iff.1 h1
  refine mayL_iff.2 ⟨hlen, fun x hx => ?_, change_rises _ _⟩
  rcases mem_change.1 hx with ⟨hx, _⟩ | ⟨hx, _⟩
  · exact h4 x hx
  · exact List.all_eq_true.1 h3 x hx
/-- Changed by the same again they stay. -/
theorem change_again (l by' : List At) : changeL (changeL l by') by' = changeL l by' := by
  refine rises_ext (change_rises _ _) (change_rises _ _) fun y => ?_
  rw [mem_change, mem_change]
  constructor
  · rintro (⟨h, _⟩ | h)
    · exact h
    · exact .inr h
  · rintro (h | h)
    · exact .inl ⟨.inl h, h.2⟩
    · exact .inr h
theorem change_nil {l : List At} (h : Rises l) : changeL l [] = l := rises_ext (change_rises _ _) h fun y => by rw [mem_change]; simp
theorem change_reverse (l by' : List At) : changeR l by'.reverse = changeR l by' := by
  have e1 : changeL l by'.reverse = changeL l by' := rises_ext (change_rises _ _) (change_rises _ _) fun y => by rw [mem_change, mem_change]; simp
  have e2 : mayC l by'.reverse = mayC l by' := by unfold mayC; simp
  unfold changeR
  rw [e1, e2]
theorem change_len (l by' : List At) : (changeL l by').length ≤ l.length + by'.length := by
  rw [← List.length_append]
  exact rises_le (change_rises _ _) fun y hy => by
    rcases mem_change.1 hy with ⟨h, _⟩ | ⟨h, _⟩
    · exact List.mem_append_left _ h
    · exact List.mem_append_right _ h
end Go.Proofs.Ytlhbnmaalhainaa
