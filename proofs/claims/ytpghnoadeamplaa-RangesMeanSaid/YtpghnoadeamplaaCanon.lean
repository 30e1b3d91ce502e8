/- Lists of ranges with the same numbers and values have the same joined form. -/
import Derived.Test.YtpghnoadeamplaaPure
namespace Go.Proofs.Ytpghnoadeamplaa
open Go.RowKit
set_option linter.unusedVariables false
set_option linter.unusedSimpArgs false

/-- Has l the number r, with the value v? -/
def At (l : List Rg) (r v : Int) : Prop := ∃ z ∈ l, Has z r ∧ z.val = v
/-- Rising, none touches the next one with the same value. -/
def Canon (l : List Rg) : Prop := (∀ x ∈ l, Ok x) ∧ l.Pairwise fun x y => x.hi < y.lo ∧ ¬ (y.lo - 1 = x.hi ∧ y.val = x.val)
theorem canon_rise {l : List Rg} (h : Canon l) : Rise l := h.2.imp fun h => h.1
theorem canon_nil : Canon [] := ⟨fun x hx => by simp at hx, List.Pairwise.nil⟩
theorem at_nil (r v : Int) : ¬ At [] r v := fun ⟨z, hz, _⟩ => by simp at hz
theorem at_append {a b : List Rg} {r v : Int} : At (a ++ b) r v ↔ At a r v ∨ At b r v := by
  unfold At
  constructor
  · rintro ⟨z, hz, h⟩
    rcases List.mem_append.1 hz with hz | hz
    · exact .inl ⟨z, hz, h⟩
    · exact .inr ⟨z, hz, h⟩
  · rintro (⟨z, hz, h⟩ | ⟨z, hz, h⟩)
    · exact ⟨z, List.mem_append_left _ hz, h⟩
    · exact ⟨z, List.mem_append_right _ hz, h⟩
theorem at_single {x : Rg} {r v : Int} : At [x] r v ↔ (Has x r ∧ x.val = v) := by
  unfold At
  simp
theorem at_perm {a b : List Rg} (h : a.Perm b) (r v : Int) : At a r v ↔ At b r v :=
  ⟨fun ⟨z, hz, h'⟩ => ⟨z, h.mem_iff.1 hz, h'⟩, fun ⟨z, hz, h'⟩ => ⟨z, h.mem_iff.2 hz, h'⟩⟩

theorem joinOne_canon {m : List Rg} {x : Rg} (hm : Canon m) (hx : Ok x) (ha : Ahead m x.lo) :
    Canon (joinOne m x) ∧ ∀ r v, At (joinOne m x) r v ↔ (At m r v ∨ (Has x r ∧ x.val = v)) := by
  rcases List.eq_nil_or_concat m with rfl | ⟨t, y, rfl⟩
  · rw [joinOne_nil]
    exact ⟨⟨fun z hz => by simp at hz; subst hz; exact hx, List.pairwise_singleton _ _⟩, fun r v => by rw [at_single]; exact ⟨.inr, fun h => h.resolve_left (at_nil r v)⟩⟩
  · rw [List.concat_eq_append] at *
    rw [ahead_snoc] at ha
    obtain ⟨ho, hp⟩ := hm
    have hy := ho y (by simp)
    rw [List.pairwise_append] at hp
    obtain ⟨hp1, _, hp2⟩ := hp
    rw [joinOne_snoc]
    by_cases hj : x.lo - 1 = y.hi ∧ x.val = y.val
    · rw [if_pos hj]
      refine ⟨⟨fun z hz => ?_, ?_⟩, fun r v => ?_⟩
      · rcases List.mem_append.1 hz with hz | hz
        · exact ho z (List.mem_append_left _ hz)
        · simp at hz; subst hz; unfold Ok at *; simp only; omega
      · rw [List.pairwise_append]
        refine ⟨hp1, List.pairwise_singleton _ _, fun a hat b hb => ?_⟩
        simp at hb; subst hb
        exact hp2 a hat y (by simp)
      · rw [at_append, at_append, at_single, at_single]
        unfold Has
        simp only
        unfold Ok at *
        constructor
        · rintro (h | ⟨h, rfl⟩)
          · exact .inl (.inl h)
          · rcases Int.lt_or_le r x.lo with h' | h'
            · exact .inl (.inr ⟨by omega, rfl⟩)
            · exact .inr ⟨by omega, hj.2⟩
        · rintro ((h | ⟨h, rfl⟩) | ⟨h, rfl⟩)
          · exact .inl h
          · exact .inr ⟨by omega, rfl⟩
          · exact .inr ⟨by omega, hj.2.symm⟩
    · rw [if_neg hj]
      refine ⟨⟨fun z hz => ?_, ?_⟩, fun r v => ?_⟩
      · rcases List.mem_append.1 hz with hz | hz
        · exact ho z hz
        · simp at hz; subst hz; exact hx
      · rw [List.pairwise_append, List.pairwise_append]
        refine ⟨⟨hp1, List.pairwise_singleton _ _, hp2⟩, List.pairwise_singleton _ _, fun a hat b hb => ?_⟩
        simp at hb; subst hb
        rcases List.mem_append.1 hat with hat | hat
        · have := hp2 a hat y (by simp)
          unfold Ok at *
          exact ⟨by omega, fun h => by omega⟩
        · simp at hat; subst hat
          exact ⟨ha, hj⟩
      · rw [at_append (b := [x]), at_single]
theorem joinF_canon : ∀ (d m : List Rg), Canon m → (∀ x ∈ d, Ok x) → Rise d → (∀ x ∈ d, Ahead m x.lo) →
    Canon (joinF m d) ∧ ∀ r v, At (joinF m d) r v ↔ (At m r v ∨ At d r v)
  | [], m, hm, _, _, _ => ⟨hm, fun r v => ⟨.inl, fun h => h.resolve_right (at_nil r v)⟩⟩
  | x :: t, m, hm, ho, hr, ha => by
    have hr' := List.pairwise_cons.1 hr
    obtain ⟨h1, h2⟩ := joinOne_canon hm (ho x (by simp)) (ha x (by simp))
    obtain ⟨h3, h4⟩ := joinF_canon t (joinOne m x) h1 (fun z hz => ho z (by simp [hz])) hr'.2 (fun z hz => ahead_join.2 (hr'.1 z hz))
    refine ⟨h3, fun r v => ?_⟩
    show At (joinF (joinOne m x) t) r v ↔ _
    rw [h4, h2, show x :: t = [x] ++ t from rfl, at_append, at_single, or_assoc]
theorem ofL_canon {l : List Rg} (hg : ∀ x ∈ l, Ok x) (ha : Apart l) : Canon (ofL l) ∧ ∀ r v, At (ofL l) r v ↔ At l r v := by
  have hp := srt_perm l
  have ho : ∀ x ∈ srt l, Ok x := fun x hx => hg x (hp.mem_iff.1 hx)
  obtain ⟨h1, h2⟩ := joinF_canon (srt l) [] canon_nil ho (apart_rise ho (srt_sorted l) ((apart_perm hp).2 ha)) (fun x _ => ahead_nil _)
  refine ⟨h1, fun r v => ?_⟩
  unfold ofL
  rw [h2, at_perm hp]
  exact ⟨fun h => h.resolve_left (at_nil r v), .inr⟩

theorem at_cons_lo {x : Rg} {t : List Rg} (h : Canon (x :: t)) {r v : Int} (hat : At (x :: t) r v) : x.lo ≤ r := by
  obtain ⟨z, hz, h1, _⟩ := hat
  have hp := List.pairwise_cons.1 h.2
  have hx := h.1 x (by simp)
  unfold Ok at hx
  rcases List.mem_cons.1 hz with rfl | hz
  · exact h1.1
  · have := (hp.1 z hz).1
    have := h1.1
    omega
theorem at_head {x : Rg} {t : List Rg} (h : Canon (x :: t)) {r v : Int} (hr : Has x r) : At (x :: t) r v ↔ x.val = v := by
  have hp := List.pairwise_cons.1 h.2
  constructor
  · rintro ⟨z, hz, h1, h2⟩
    rcases List.mem_cons.1 hz with rfl | hz
    · exact h2
    · have := (hp.1 z hz).1
      have := h1.1
      have := hr.2
      omega
  · exact fun e => ⟨x, by simp, hr, e⟩
theorem at_tail {x : Rg} {t : List Rg} (h : Canon (x :: t)) {r v : Int} : At t r v ↔ (x.hi < r ∧ At (x :: t) r v) := by
  have hp := List.pairwise_cons.1 h.2
  constructor
  · rintro ⟨z, hz, h1, h2⟩
    have := (hp.1 z hz).1
    have := h1.1
    exact ⟨by omega, z, by simp [hz], h1, h2⟩
  · rintro ⟨h0, z, hz, h1, h2⟩
    rcases List.mem_cons.1 hz with rfl | hz
    · have := h1.2; omega
    · exact ⟨z, hz, h1, h2⟩
theorem canon_tail {x : Rg} {t : List Rg} (h : Canon (x :: t)) : Canon t := ⟨fun z hz => h.1 z (by simp [hz]), (List.pairwise_cons.1 h.2).2⟩
/-- The head of one does not end ahead of the other's. -/
theorem head_hi {x y : Rg} {s t : List Rg} (hx : Canon (x :: s)) (hy : Canon (y :: t)) (h : ∀ r v, At (x :: s) r v ↔ At (y :: t) r v) (hlo : x.lo = y.lo) (hv : x.val = y.val) : y.hi ≤ x.hi := by
  rcases Int.lt_or_le x.hi y.hi with hlt | hle
  · exfalso
    have hox := hx.1 x (by simp)
    unfold Ok at hox
    have h1 : At (x :: s) (x.hi + 1) y.val := (h _ _).2 ((at_head hy ⟨by omega, by omega⟩).2 rfl)
    obtain ⟨z, hz, h2, h3⟩ := (at_tail hx).2 ⟨by omega, h1⟩
    have := (List.pairwise_cons.1 hx.2).1 z hz
    exact this.2 ⟨by have := h2.1; omega, by omega⟩
  · exact hle
theorem canon_ext : ∀ (a b : List Rg), Canon a → Canon b → (∀ r v, At a r v ↔ At b r v) → a = b
  | [], [], _, _, _ => rfl
  | [], y :: t, _, hb, h => by
    have hy := hb.1 y (by simp)
    exact absurd ((h y.lo y.val).2 ⟨y, by simp, ⟨Int.le_refl _, hy.2⟩, rfl⟩) (at_nil _ _)
  | x :: s, [], ha, _, h => by
    have hx := ha.1 x (by simp)
    exact absurd ((h x.lo x.val).1 ⟨x, by simp, ⟨Int.le_refl _, hx.2⟩, rfl⟩) (at_nil _ _)
  | x :: s, y :: t, ha, hb, h => by
    have hx := ha.1 x (by simp)
    have hy := hb.1 y (by simp)
    have h1 : At (x :: s) x.lo x.val := ⟨x, by simp, ⟨Int.le_refl _, hx.2⟩, rfl⟩
    have h2 : At (y :: t) y.lo y.val := ⟨y, by simp, ⟨Int.le_refl _, hy.2⟩, rfl⟩
    have hlo : x.lo = y.lo := by
      have a1 := at_cons_lo hb ((h _ _).1 h1)
      have a2 := at_cons_lo ha ((h _ _).2 h2)
      omega
    have hv : x.val = y.val := by
      have := (h _ _).1 h1
      exact ((at_head hb ⟨by omega, by unfold Ok at *; omega⟩).1 this).symm
    have hh1 := head_hi ha hb h hlo hv
    have hh2 := head_hi hb ha (fun r v => (h r v).symm) hlo.symm hv.symm
    have hxy : x = y := by
      obtain ⟨a, b, c⟩ := x
      obtain ⟨a', b', c'⟩ := y
      simp only at *
      obtain rfl := hlo
      obtain rfl := hv
      obtain rfl : b = b' := by omega
      rfl
    subst hxy
    rw [canon_ext s t (canon_tail ha) (canon_tail hb) fun r v => by rw [at_tail ha, at_tail hb, h]]

theorem ofL_same {a b : List Rg} (ha : ∀ x ∈ a, Ok x) (hb : ∀ x ∈ b, Ok x) (pa : Apart a) (pb : Apart b) (h : ∀ r v, At a r v ↔ At b r v) : ofL a = ofL b := by
  obtain ⟨h1, h2⟩ := ofL_canon ha pa
  obtain ⟨h3, h4⟩ := ofL_canon hb pb
  exact canon_ext _ _ h1 h3 fun r v => by rw [h2, h4, h]
theorem ofL_self {c : List Rg} (h : Canon c) : ofL c = c := by
  obtain ⟨h1, h2⟩ := ofL_canon h.1 (rise_apart (canon_rise h))
  exact canon_ext _ _ h1 h h2

/-! ### Looking up -/
theorem off_of {l : List Rg} (h : Apart l) : ∀ x ∈ l, ∀ y ∈ l, x = y ∨ Off x y := by
  induction l with
  | nil => intro x hx; simp at hx
  | cons z t ih =>
    have hp := List.pairwise_cons.1 h
    intro x hx y hy
    rcases List.mem_cons.1 hx with hx1 | hx1
    · rcases List.mem_cons.1 hy with hy1 | hy1
      · exact .inl (hx1.trans hy1.symm)
      · rw [hx1]; exact .inr (hp.1 y hy1)
    · rcases List.mem_cons.1 hy with hy1 | hy1
      · rw [hy1]; exact .inr (hp.1 x hx1).symm
      · exact ih hp.2 x hx1 y hy1
theorem find_at {l : List Rg} (h : Apart l) {r v : Int} : (∃ x, find l r = some x ∧ x.val = v) ↔ At l r v := by
  constructor
  · rintro ⟨x, hx, hv⟩
    have h1 := List.mem_of_find?_eq_some hx
    have h2 := List.find?_some hx
    exact ⟨x, h1, by simpa using h2, hv⟩
  · rintro ⟨z, hz, h1, h2⟩
    cases hf : find l r with
    | none => have := List.find?_eq_none.1 hf z hz; simp at this; have := this h1.1; have := h1.2; omega
    | some x =>
      have hx := List.mem_of_find?_eq_some hf
      have hh : Has x r := by have := List.find?_some hf; simpa using this
      rcases off_of h x hx z hz with rfl | ho
      · exact ⟨x, rfl, h2⟩
      · unfold Off at ho; have := hh.1; have := hh.2; have := h1.1; have := h1.2; omega
theorem find_same {a b : List Rg} (pa : Apart a) (pb : Apart b) (h : ∀ r v, At a r v ↔ At b r v) (r : Int) : getV a r = getV b r ∧ getB a r = getB b r := by
  have hk : ∀ v, (∃ x, find a r = some x ∧ x.val = v) ↔ (∃ x, find b r = some x ∧ x.val = v) := fun v => by rw [find_at pa, find_at pb, h]
  unfold getV getB
  cases hfa : find a r with
  | none =>
    cases hfb : find b r with
    | none => exact ⟨rfl, rfl⟩
    | some y => obtain ⟨x, hx, _⟩ := (hk y.val).2 ⟨y, hfb, rfl⟩; rw [hfa] at hx; cases hx
  | some x =>
    obtain ⟨y, hy, hv⟩ := (hk x.val).1 ⟨x, hfa, rfl⟩
    rw [hy]
    simp [hv]

/-! ### How many -/
theorem manyL_perm {a b : List Rg} (h : a.Perm b) : manyL a = manyL b := by
  induction h with
  | nil => rfl
  | cons x _ ih => simp [manyL, ih]
  | swap x y l => simp [manyL]; omega
  | trans _ _ ih1 ih2 => rw [ih1, ih2]
theorem manyL_joinOne (m : List Rg) (x : Rg) : manyL (joinOne m x) = manyL m + (x.hi - x.lo + 1) := by
  rcases List.eq_nil_or_concat m with rfl | ⟨t, y, rfl⟩
  · simp [joinOne_nil, manyL]
  · rw [List.concat_eq_append, joinOne_snoc]
    split
    · simp only [manyL_append, manyL]; omega
    · simp only [manyL_append, manyL]; omega
theorem manyL_joinF : ∀ (d m : List Rg), manyL (joinF m d) = manyL m + manyL d
  | [], m => by simp [joinF, manyL]
  | x :: t, m => by
    show manyL (joinF (joinOne m x) t) = _
    rw [manyL_joinF t, manyL_joinOne]
    simp [manyL]; omega
theorem manyL_ofL (l : List Rg) : manyL (ofL l) = manyL l := by
  unfold ofL
  rw [manyL_joinF, manyL_perm (srt_perm l)]
  simp [manyL]
end Go.Proofs.Ytpghnoadeamplaa
