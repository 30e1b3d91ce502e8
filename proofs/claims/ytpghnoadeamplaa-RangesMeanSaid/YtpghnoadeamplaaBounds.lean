/- Of's ranges are as many, and as great, as those that were named. -/
import Derived.Test.YtpghnoadeamplaaApp
import Derived.Test.YtpghnoadeamplaaRefOf
namespace Go.Proofs.Ytpghnoadeamplaa
open Go.RowKit
set_option linter.unusedVariables false
set_option linter.unusedSimpArgs false

theorem joinOne_length (m : List Rg) (x : Rg) : (joinOne m x).length ≤ m.length + 1 := by
  rcases List.eq_nil_or_concat m with rfl | ⟨t, y, rfl⟩
  · simp [joinOne_nil]
  · rw [List.concat_eq_append, joinOne_snoc]
    split <;> simp
theorem joinF_length : ∀ (d m : List Rg), (joinF m d).length ≤ m.length + d.length
  | [], m => by simp [joinF]
  | x :: t, m => by
    have h1 := joinF_length t (joinOne m x)
    have h2 := joinOne_length m x
    show (joinF (joinOne m x) t).length ≤ _
    simp; omega
theorem ofL_length (l : List Rg) : (ofL l).length ≤ l.length := by
  have h1 := joinF_length (srt l) []
  have h2 := (srt_perm l).length_eq
  unfold ofL
  simp at h1; omega
abbrev In1 (x : Rg) : Prop := x.lo ≤ 2147483647 ∧ x.hi ≤ 2147483647 ∧ -2147483648 ≤ x.lo ∧ -2147483648 ≤ x.hi
theorem joinOne_in {m : List Rg} {x : Rg} (hm : ∀ z ∈ m, In1 z) (hx : In1 x) : ∀ z ∈ joinOne m x, In1 z := by
  rcases List.eq_nil_or_concat m with rfl | ⟨t, y, rfl⟩
  · intro z hz
    simp [joinOne_nil] at hz
    subst hz; exact hx
  · rw [List.concat_eq_append] at *
    rw [joinOne_snoc]
    have hy := hm y (by simp)
    unfold In1 at *
    split
    · intro z hz
      rw [List.mem_append, List.mem_singleton] at hz
      rcases hz with hz | rfl
      · exact hm z (by simp [hz])
      · exact ⟨hy.1, hx.2.1, hy.2.2.1, hx.2.2.2⟩
    · intro z hz
      rw [List.mem_append, List.mem_singleton] at hz
      rcases hz with hz | rfl
      · exact hm z hz
      · exact hx
theorem joinF_in : ∀ (d m : List Rg), (∀ z ∈ m, In1 z) → (∀ z ∈ d, In1 z) → ∀ z ∈ joinF m d, In1 z
  | [], m, hm, _ => hm
  | x :: t, m, hm, hd => joinF_in t (joinOne m x) (joinOne_in hm (hd x (by simp))) (fun z hz => hd z (by simp [hz]))
theorem in32_mem {l : List Rg} : In32 l ↔ ∀ z ∈ l, In1 z := by
  constructor
  · intro h z hz
    obtain ⟨i, hi, rfl⟩ := List.getElem_of_mem hz
    have := h i hi
    rwa [List.getD_eq_getElem?_getD, List.getElem?_eq_getElem hi] at this
  · exact fun h j hj => h _ (getD_mem hj)
theorem ofL_in {l : List Rg} (h : In32 l) : In32 (ofL l) := by
  rw [in32_mem] at *
  exact joinF_in _ _ (fun z hz => by simp at hz) (fun z hz => h z ((srt_perm l).mem_iff.1 hz))
theorem in32_append {a b : List Rg} : In32 (a ++ b) ↔ In32 a ∧ In32 b := by
  simp only [in32_mem, List.mem_append]
  exact ⟨fun h => ⟨fun z hz => h z (.inl hz), fun z hz => h z (.inr hz)⟩, fun h z hz => hz.elim (h.1 z) (h.2 z)⟩
theorem in32_one {x : Rg} : In32 [x] ↔ In1 x := by simp [in32_mem]
theorem may_of {l : List Rg} (h : In32 l) (hg : ∀ x ∈ l, Ok x) : ∀ j, j < l.length → May (l.getD j default) := fun j hj =>
  ⟨(hg _ (getD_mem hj)).1, (hg _ (getD_mem hj)).2, (h j hj).2.1⟩

/-- Of and the reference's Of, of the same ranges. -/
theorem both {l : List Rg} {w1 w2 w3 w4 : World} {q : Option Addr} {v : Value} {n n' : Int} (h1 : OfRes l w1 q n w2) (h2 : RefRes l w3 v n' w4) :
    (q = none ∧ n = n' ∧ (n' = 2 ∨ n' = 9)) ∨ (n = 0 ∧ n' = 0 ∧ l.all goodB = true ∧ Apart l ∧ (∃ g, q = some ⟨g, 0, none⟩ ∧ w1.heap.size ≤ g ∧ MapV w2 g (ofL l)) ∧ RowR w4 w3.heap.size v (ofL l)) := by
  obtain ⟨_, h1⟩ := h1
  obtain ⟨_, h2⟩ := h2
  rcases h1 with ⟨a, b, c⟩ | ⟨a, b, c, d⟩ | ⟨a, b, c, g, v1, d, e, f⟩ <;> rcases h2 with ⟨a', b'⟩ | ⟨a', b', c'⟩ | ⟨a', b', c', d'⟩
  · exact .inl ⟨b, by omega, .inl b'⟩
  · rw [a] at a'; cases a'
  · rw [a] at a'; cases a'
  · rw [a] at a'; cases a'
  · exact .inl ⟨c, by omega, .inr c'⟩
  · exact absurd b' b
  · rw [a] at a'; cases a'
  · exact absurd b b'
  · exact .inr ⟨c, c', a, b, ⟨g, d, e, f.mapV⟩, d'⟩
end Go.Proofs.Ytpghnoadeamplaa
