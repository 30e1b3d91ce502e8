/- A range named as several parts: plain mathematics. -/
import Derived.Test.YtpghnoadeamplaaBounds
namespace Go.Proofs.Ytpghnoadeamplaa
open Go.RowKit
set_option linter.unusedVariables false
set_option linter.unusedSimpArgs false

theorem apart_append {a b : List Rg} : Apart (a ++ b) ↔ Apart a ∧ Apart b ∧ ∀ x ∈ a, ∀ y ∈ b, Off x y := List.pairwise_append
theorem at_has {l : List Rg} {z : Rg} {r : Int} (hz : z ∈ l) (h : Has z r) : At l r z.val := ⟨z, hz, h, rfl⟩

/-- What has the same numbers as x, may stand for it. -/
theorem split_same {l d : List Rg} {x : Rg} (hl : ∀ z ∈ l, Ok z) (ha : Apart l) (hx : Ok x) (hm : Apart (ofL l ++ [x])) (hd : ∀ z ∈ d, Ok z) (hda : Apart d) (hat : ∀ r v, At d r v ↔ At [x] r v) :
    (∀ z ∈ l ++ d, Ok z) ∧ Apart (l ++ d) ∧ ofL (l ++ d) = ofL (ofL l ++ [x]) := by
  obtain ⟨hc, hcat⟩ := ofL_canon hl ha
  have hok : ∀ z ∈ l ++ d, Ok z := fun z hz => (List.mem_append.1 hz).elim (hl z) (hd z)
  have hap : Apart (l ++ d) := by
    refine apart_append.2 ⟨ha, hda, fun z hz y hy => ?_⟩
    have oz := hl z hz
    have oy := hd y hy
    unfold Ok at oz oy
    unfold Off
    rcases Int.lt_or_le z.hi y.lo with h1 | h1
    · exact .inl h1
    · rcases Int.lt_or_le y.hi z.lo with h2 | h2
      · exact .inr h2
      · exfalso
        obtain ⟨r, hr1, hr2⟩ : ∃ r, Has z r ∧ Has y r := by
          rcases Int.le_total z.lo y.lo with h3 | h3
          · exact ⟨y.lo, ⟨h3, h1⟩, ⟨Int.le_refl _, oy.2⟩⟩
          · exact ⟨z.lo, ⟨Int.le_refl _, oz.2⟩, ⟨h3, h2⟩⟩
        obtain ⟨u, hu, hur, _⟩ := (hcat r z.val).2 (at_has hz hr1)
        have hxr := (at_single.1 ((hat r y.val).1 (at_has hy hr2))).1
        have := (apart_append.1 hm).2.2 u hu x (by simp)
        unfold Off at this
        unfold Has at hur hxr
        omega
  refine ⟨hok, hap, ofL_same hok (fun z hz => ?_) hap hm fun r v => ?_⟩
  · rcases List.mem_append.1 hz with h | h
    · exact hc.1 z h
    · rw [List.mem_singleton] at h
      subst h; exact hx
  · rw [at_append, at_append, hcat, hat]

/-- Each of a range's numbers alone. -/
def ones (x : Rg) (k : Nat) : List Rg := (List.range k).map fun (i : Nat) => ⟨x.lo + (i : Int), x.lo + (i : Int), x.val⟩
theorem ones_zero (x : Rg) : ones x 0 = [] := rfl
theorem ones_succ (x : Rg) (k : Nat) : ones x (k + 1) = ones x k ++ [⟨x.lo + (k : Int), x.lo + (k : Int), x.val⟩] := by
  unfold ones
  rw [List.range_succ, List.map_append]
  rfl
theorem ones_length (x : Rg) (k : Nat) : (ones x k).length = k := by simp [ones]
theorem ones_mem {x z : Rg} {k : Nat} : z ∈ ones x k ↔ ∃ i : Nat, i < k ∧ z = ⟨x.lo + (i : Int), x.lo + (i : Int), x.val⟩ := by
  unfold ones
  simp only [List.mem_map, List.mem_range]
  exact ⟨fun ⟨i, h, e⟩ => ⟨i, h, e.symm⟩, fun ⟨i, h, e⟩ => ⟨i, h, e.symm⟩⟩
theorem ones_ok {x : Rg} (hx : 0 ≤ x.lo) (k : Nat) : ∀ z ∈ ones x k, Ok z := fun z hz => by
  obtain ⟨i, _, rfl⟩ := ones_mem.1 hz
  exact ⟨by simp only; omega, Int.le_refl _⟩
theorem ones_apart (x : Rg) (k : Nat) : Apart (ones x k) := by
  unfold Apart ones
  rw [List.pairwise_map]
  refine List.Pairwise.imp ?_ (List.pairwise_lt_range (n := k))
  intro a b h
  unfold Off
  simp only
  omega
theorem ones_at {x : Rg} {k : Nat} (hk : (k : Int) = x.hi - x.lo + 1) (r v : Int) : At (ones x k) r v ↔ At [x] r v := by
  rw [at_single]
  constructor
  · rintro ⟨z, hz, h1, h2⟩
    obtain ⟨i, hi, rfl⟩ := ones_mem.1 hz
    unfold Has at h1
    simp only at h1 h2
    exact ⟨⟨by omega, by omega⟩, h2⟩
  · rintro ⟨⟨h1, h2⟩, h3⟩
    refine ⟨⟨x.lo + ((r - x.lo).toNat : Int), x.lo + ((r - x.lo).toNat : Int), x.val⟩, ones_mem.2 ⟨(r - x.lo).toNat, by omega, rfl⟩, ⟨?_, ?_⟩, h3⟩
    · simp only; omega
    · simp only; omega
theorem ones_in {x : Rg} {k : Nat} (hx : In1 x) (h0 : 0 ≤ x.lo) (hk : (k : Int) ≤ x.hi - x.lo + 1) : In32 (ones x k) := by
  rw [in32_mem]
  intro z hz
  obtain ⟨i, hi, rfl⟩ := ones_mem.1 hz
  unfold In1 at *
  simp only
  omega

/-- Two parts that touch. -/
def twoP (x : Rg) (at_ : Int) : List Rg := [⟨at_ + 1, x.hi, x.val⟩, ⟨x.lo, at_, x.val⟩]
theorem two_ok {x : Rg} {a : Int} (h0 : 0 ≤ x.lo) (h1 : x.lo ≤ a) (h2 : a < x.hi) : ∀ z ∈ twoP x a, Ok z := fun z hz => by
  simp only [twoP, List.mem_cons, List.not_mem_nil, or_false] at hz
  unfold Ok
  rcases hz with rfl | rfl
  · simp only; omega
  · simp only; omega
theorem two_apart (x : Rg) (a : Int) : Apart (twoP x a) := by
  unfold Apart twoP
  simp only [List.pairwise_cons, List.mem_singleton, forall_eq, List.not_mem_nil, false_imp_iff, implies_true, List.Pairwise.nil, and_true]
  right
  simp only
  omega
theorem two_at {x : Rg} {a : Int} (h1 : x.lo ≤ a) (h2 : a < x.hi) (r v : Int) : At (twoP x a) r v ↔ At [x] r v := by
  rw [at_single]
  constructor
  · rintro ⟨z, hz, h3, h4⟩
    simp only [twoP, List.mem_cons, List.not_mem_nil, or_false] at hz
    unfold Has at *
    rcases hz with rfl | rfl
    · simp only at h3 h4; exact ⟨⟨by omega, by omega⟩, h4⟩
    · simp only at h3 h4; exact ⟨⟨by omega, by omega⟩, h4⟩
  · rintro ⟨⟨h3, h4⟩, h5⟩
    rcases Int.lt_or_le a r with h6 | h6
    · exact ⟨⟨a + 1, x.hi, x.val⟩, by simp [twoP], ⟨by simp only; omega, h4⟩, h5⟩
    · exact ⟨⟨x.lo, a, x.val⟩, by simp [twoP], ⟨h3, h6⟩, h5⟩
theorem two_in {x : Rg} {a : Int} (hx : In1 x) (h0 : 0 ≤ x.lo) (h1 : x.lo ≤ a) (h2 : a < x.hi) : In32 (twoP x a) := by
  rw [in32_mem]
  intro z hz
  simp only [twoP, List.mem_cons, List.not_mem_nil, or_false] at hz
  unfold In1 at *
  rcases hz with rfl | rfl
  · simp only; omega
  · simp only; omega
end Go.Proofs.Ytpghnoadeamplaa
