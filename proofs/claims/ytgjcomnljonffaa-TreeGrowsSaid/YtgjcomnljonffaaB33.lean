/- What a tree's shape is like. -/
import Derived.Test.YtgjcomnljonffaaB32
namespace Go.Proofs.Ytgjcomnljonffaa.Tlv
open Go.RowKit
set_option maxRecDepth 100000
set_option linter.unusedVariables false
set_option linter.unusedSimpArgs false
structure SndL (t keys : Nat) (sh : List (List Nat)) : Prop where
  zero : keys = 0 → sh = []
  one : 0 < keys → 0 < sh.length ∧ (sh.getD 0 []).length = 1
  rng : ∀ i, i < sh.length → ∀ k, k < (sh.getD i []).length → (if i = 0 then 1 else t - 1) ≤ (sh.getD i []).getD k 0 ∧ (sh.getD i []).getD k 0 ≤ 2 * t - 1
  nxt : ∀ i, i + 1 < sh.length → (sh.getD (i + 1) []).length = (sh.getD i []).sum + (sh.getD i []).length
  tot : (sh.map List.sum).sum = keys
theorem shape_zero (h : Nat) (ds : List Nd) : (shapeL h ds).getD 0 [] = ds.map fun d => d.its.length := by
  cases h <;> rfl
theorem kids_sum {t h : Nat} {ds : List Nd} (hb : ∀ c ∈ ds, Bal t (h + 1) c) : (ds.flatMap Nd.kids).length = (ds.map fun d => d.its.length).sum + ds.length ∧
    (ds.flatMap (flat (h + 1))).length = (ds.map fun d => d.its.length).sum + ((ds.flatMap Nd.kids).flatMap (flat h)).length := by
  induction ds with
  | nil => exact ⟨rfl, rfl⟩
  | cons d ds ih =>
    have h1 := ih fun c hc => hb c (by simp [hc])
    have h2 := (hb d (by simp)).1
    have h3 := flat_len (hb d (by simp))
    simp only [List.flatMap_cons, List.length_append, List.map_cons, List.sum_cons, List.length_cons, List.flatMap_append] at *
    omega
theorem shape_snd {t : Nat} : ∀ (h lo : Nat) (ds : List Nd), (∀ c ∈ ds, Bal t h c ∧ lo ≤ c.its.length) →
    (∀ i, i < (shapeL h ds).length → ∀ k, k < ((shapeL h ds).getD i []).length → (if i = 0 then lo else t - 1) ≤ ((shapeL h ds).getD i []).getD k 0 ∧ ((shapeL h ds).getD i []).getD k 0 ≤ 2 * t - 1) ∧
    (∀ i, i + 1 < (shapeL h ds).length → ((shapeL h ds).getD (i + 1) []).length = ((shapeL h ds).getD i []).sum + ((shapeL h ds).getD i []).length) ∧
    ((shapeL h ds).map List.sum).sum = (ds.flatMap (flat h)).length
  | 0, lo, ds, hd => by
    refine ⟨fun i hi k hk => ?_, fun i hi => by simp [shapeL] at hi, ?_⟩
    · have hi0 : i = 0 := by simp [shapeL] at hi; exact hi
      subst hi0
      rw [shape_zero] at hk ⊢
      simp at hk
      have h1 := hd ds[k] (by simp)
      simp [List.getD_eq_getElem?_getD, List.getElem?_eq_getElem hk]
      exact ⟨h1.2, h1.1.most⟩
    · simp only [shapeL, List.map_cons, List.map_nil, List.sum_cons, List.sum_nil, Nat.add_zero]
      clear hd
      induction ds with
      | nil => rfl
      | cons d ds ih =>
        have e : (flat 0 d).length = d.its.length := rfl
        simp [ih, e]
  | h + 1, lo, ds, hd => by
    have hk' : ∀ c ∈ ds.flatMap Nd.kids, Bal t h c ∧ t - 1 ≤ c.its.length := fun c hc => by
      obtain ⟨d, h1, h2⟩ := List.mem_flatMap.1 hc
      exact (hd d h1).1.2.2 c h2
    obtain ⟨q1, q2, q3⟩ := shape_snd h (t - 1) (ds.flatMap Nd.kids) hk'
    have hs := kids_sum (h := h) fun c hc => (hd c hc).1
    refine ⟨fun i hi k hk => ?_, fun i hi => ?_, ?_⟩
    · cases i with
      | zero =>
        rw [shape_zero] at hk ⊢
        simp at hk
        have h1 := hd ds[k] (by simp)
        simp [List.getD_eq_getElem?_getD, List.getElem?_eq_getElem hk]
        exact ⟨h1.2, h1.1.most⟩
      | succ i =>
        have h1 := q1 i (by simpa [shapeL] using hi) k (by simpa [shapeL] using hk)
        simpa [shapeL] using h1
    · cases i with
      | zero =>
        have e : (shapeL (h + 1) ds).getD (0 + 1) [] = (shapeL h (ds.flatMap Nd.kids)).getD 0 [] := by simp [shapeL]
        rw [e, shape_zero, shape_zero, List.length_map, List.length_map]
        exact hs.1
      | succ i =>
        have h1 := q2 i (by simpa [shapeL] using hi)
        simpa [shapeL] using h1
    · simp only [shapeL, List.map_cons, List.sum_cons, q3]
      omega
theorem TreeIn.snd {w : World} {T s h : Nat} {l : List KV} {F : Nat → Prop} {d : Nd} (a : TreeIn w T s l F h d) : SndL (s + 1) l.length (if l = [] then [] else shapeL h [d]) := by
  by_cases hl : l = []
  · rw [if_pos hl, hl]
    exact ⟨fun _ => rfl, fun h => by simp at h, fun i hi => by simp at hi, fun i hi => by simp at hi, rfl⟩
  · rw [if_neg hl]
    have hlp : 1 ≤ l.length := by
      have : l.length ≠ 0 := fun e => hl (List.eq_nil_of_length_eq_zero e)
      omega
    have hll : (flat h d).length = l.length := by rw [← a.kvs]; simp
    have h1 : 1 ≤ d.its.length := by
      rcases Nat.eq_zero_or_pos h with e | e
      · subst e
        have h1 : (flat 0 d).length = d.its.length := rfl
        omega
      · exact a.root e
    obtain ⟨q1, q2, q3⟩ := shape_snd (t := s + 1) h 1 [d] fun c hc => by simp at hc; subst hc; exact ⟨a.ts.bal, h1⟩
    refine ⟨fun e => by omega, fun _ => ⟨by rw [shape_len]; omega, by rw [shape_zero]; rfl⟩, q1, q2, ?_⟩
    rw [q3]
    simpa using hll
end Go.Proofs.Ytgjcomnljonffaa.Tlv
