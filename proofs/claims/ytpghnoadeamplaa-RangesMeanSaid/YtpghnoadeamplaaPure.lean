/- Ranges that rise, joined: plain mathematics. -/
import Derived.Test.YtpghnoadeamplaaOf
namespace Go.Proofs.Ytpghnoadeamplaa
open Go.RowKit
set_option linter.unusedVariables false
set_option linter.unusedSimpArgs false

/-- A range that has a number. -/
abbrev Ok (x : Rg) : Prop := 0 ≤ x.lo ∧ x.lo ≤ x.hi
theorem goodB_iff (x : Rg) : goodB x = true ↔ Ok x := by
  unfold goodB Ok
  simp
theorem all_ok {l : List Rg} : l.all goodB = true ↔ ∀ x ∈ l, Ok x := by
  rw [List.all_eq_true]
  exact ⟨fun h x hx => (goodB_iff x).1 (h x hx), fun h x hx => (goodB_iff x).2 (h x hx)⟩

/-- Each ends ahead of all behind it. -/
def Rise (l : List Rg) : Prop := l.Pairwise fun x y => x.hi < y.lo
/-- No number in common. -/
def Off (x y : Rg) : Prop := x.hi < y.lo ∨ y.hi < x.lo
def Apart (l : List Rg) : Prop := l.Pairwise Off
instance (x y : Rg) : Decidable (Off x y) := by unfold Off; infer_instance
instance (l : List Rg) : Decidable (Apart l) := by unfold Apart; infer_instance
theorem apart_perm {a b : List Rg} (h : a.Perm b) : Apart a ↔ Apart b := List.Perm.pairwise_iff (fun h => h.symm) h
theorem rise_apart {l : List Rg} (h : Rise l) : Apart l := h.imp fun h => .inl h
theorem apart_rise {l : List Rg} (ho : ∀ x ∈ l, Ok x) (hs : Sorted l) (h : Apart l) : Rise l := by
  induction l with
  | nil => exact List.Pairwise.nil
  | cons x t ih =>
    unfold Sorted Apart Rise at *
    rw [List.pairwise_cons] at *
    refine ⟨fun y hy => ?_, ih (fun z hz => ho z (by simp [hz])) hs.2 h.2⟩
    have h1 := hs.1 y hy
    have h2 := h.1 y hy
    have h3 := ho y (by simp [hy])
    unfold Ok at h3
    unfold Off at h2
    omega

/-- One range behind the others, joined where it touches. -/
def joinOne (l : List Rg) (x : Rg) : List Rg :=
  match l.getLast? with
  | none => [x]
  | some y => if x.lo - 1 = y.hi ∧ x.val = y.val then l.dropLast ++ [⟨y.lo, x.hi, y.val⟩] else l ++ [x]
theorem joinOne_nil (x : Rg) : joinOne [] x = [x] := rfl
theorem joinOne_snoc (l : List Rg) (y x : Rg) : joinOne (l ++ [y]) x = if x.lo - 1 = y.hi ∧ x.val = y.val then l ++ [⟨y.lo, x.hi, y.val⟩] else l ++ [y] ++ [x] := by
  unfold joinOne
  simp
def joinF (m d : List Rg) : List Rg := d.foldl joinOne m

/-- Ends all of m ahead of x? -/
def Ahead (m : List Rg) (h : Int) : Prop := ∀ y, m.getLast? = some y → y.hi < h
theorem ahead_nil (h : Int) : Ahead [] h := fun y e => by simp at e
theorem ahead_snoc {m : List Rg} {y : Rg} {h : Int} : Ahead (m ++ [y]) h ↔ y.hi < h := by
  unfold Ahead
  simp
theorem addL_eq (m : List Rg) (x : Rg) : (Ahead m x.lo → addL m x = some (joinOne m x)) ∧ (¬ Ahead m x.lo → addL m x = none) := by
  rcases List.eq_nil_or_concat m with rfl | ⟨t, y, rfl⟩
  · exact ⟨fun _ => rfl, fun h => absurd (ahead_nil _) h⟩
  · rw [List.concat_eq_append, ahead_snoc, addL_snoc, joinOne_snoc]
    refine ⟨fun h => ?_, fun h => by rw [if_pos (by omega)]⟩
    rw [if_neg (by omega)]
    split <;> rfl
theorem ahead_join {m : List Rg} {x : Rg} {h : Int} : Ahead (joinOne m x) h ↔ x.hi < h := by
  rcases List.eq_nil_or_concat m with rfl | ⟨t, y, rfl⟩
  · rw [joinOne_nil]; exact ahead_snoc (m := [])
  · rw [List.concat_eq_append, joinOne_snoc]
    split
    · exact ahead_snoc
    · exact ahead_snoc
theorem addAll_eq : ∀ (d m : List Rg), (∀ x ∈ d, Ok x) → ((Rise d ∧ ∀ x ∈ d, Ahead m x.lo) → addAll m d = some (joinF m d)) ∧ (¬ (Rise d ∧ ∀ x ∈ d, Ahead m x.lo) → addAll m d = none)
  | [], m, _ => ⟨fun _ => rfl, fun h => absurd ⟨List.Pairwise.nil, fun x hx => by simp at hx⟩ h⟩
  | x :: t, m, ho => by
    have ih := addAll_eq t (joinOne m x) (fun z hz => ho z (by simp [hz]))
    have hx := ho x (by simp)
    have hkey : (Rise (x :: t) ∧ ∀ z ∈ x :: t, Ahead m z.lo) ↔ (Ahead m x.lo ∧ (Rise t ∧ ∀ z ∈ t, Ahead (joinOne m x) z.lo)) := by
      unfold Rise
      rw [List.pairwise_cons]
      constructor
      · rintro ⟨⟨h1, h2⟩, h3⟩
        exact ⟨h3 x (by simp), h2, fun z hz => ahead_join.2 (h1 z hz)⟩
      · rintro ⟨h1, h2, h3⟩
        refine ⟨⟨fun z hz => ahead_join.1 (h3 z hz), h2⟩, fun z hz => ?_⟩
        rcases List.mem_cons.1 hz with rfl | hz
        · exact h1
        · intro y hy
          have a1 := h1 y hy
          have a2 := ahead_join.1 (h3 z hz)
          unfold Ok at hx
          omega
    rw [hkey]
    simp only [addAll]
    constructor
    · rintro ⟨h1, h2⟩
      rw [(addL_eq m x).1 h1]
      exact ih.1 h2
    · intro h
      by_cases h1 : Ahead m x.lo
      · rw [(addL_eq m x).1 h1]
        exact ih.2 fun h2 => h ⟨h1, h2⟩
      · rw [(addL_eq m x).2 h1]; rfl

/-- The reference's way to sort. -/
def ins (out : List Rg) (x : Rg) : List Rg := out.takeWhile (fun y => decide (y.lo < x.lo)) ++ x :: out.dropWhile (fun y => decide (y.lo < x.lo))
def srt (l : List Rg) : List Rg := l.foldl ins []
theorem ins_perm (out : List Rg) (x : Rg) : (ins out x).Perm (x :: out) := by
  unfold ins
  refine List.perm_middle.trans ?_
  rw [List.takeWhile_append_dropWhile]
theorem srt_perm' : ∀ (l out : List Rg), (l.foldl ins out).Perm (l ++ out)
  | [], out => List.Perm.refl _
  | x :: t, out => by
    refine (srt_perm' t (ins out x)).trans ?_
    refine ((ins_perm out x).append_left t).trans ?_
    exact List.perm_middle
theorem srt_perm (l : List Rg) : (srt l).Perm l := by have := srt_perm' l []; rwa [List.append_nil] at this
theorem ins_sorted {out : List Rg} (x : Rg) (h : Sorted out) : Sorted (ins out x) := by
  induction out with
  | nil => exact List.pairwise_singleton _ _
  | cons y t ih =>
    have hp : ∀ z ∈ ins t x, z = x ∨ z ∈ t := fun z hz => by
      have := (ins_perm t x).mem_iff.1 hz
      simpa using this
    unfold Sorted at *
    rw [List.pairwise_cons] at h
    by_cases hy : y.lo < x.lo
    · have e : ins (y :: t) x = y :: ins t x := by unfold ins; simp [hy]
      rw [e, List.pairwise_cons]
      refine ⟨fun z hz => ?_, ih h.2⟩
      rcases hp z hz with rfl | hz
      · omega
      · exact h.1 z hz
    · have e : ins (y :: t) x = x :: y :: t := by unfold ins; simp [hy]
      rw [e, List.pairwise_cons]
      refine ⟨fun z hz => ?_, List.pairwise_cons.2 h⟩
      rcases List.mem_cons.1 hz with rfl | hz
      · omega
      · have := h.1 z hz; omega
theorem srt_sorted' : ∀ (l out : List Rg), Sorted out → Sorted (l.foldl ins out)
  | [], _, h => h
  | x :: t, out, h => srt_sorted' t _ (ins_sorted x h)
theorem srt_sorted (l : List Rg) : Sorted (srt l) := srt_sorted' l [] List.Pairwise.nil

/-- The ranges of a map: rising, joined. -/
def ofL (l : List Rg) : List Rg := joinF [] (srt l)

theorem sorted_unique {a b : List Rg} (h : a.Perm b) (ho : ∀ x ∈ a, Ok x) (ha : Rise a) (hb : Sorted b) : a = b := by
  have hrb : Rise b := apart_rise (fun x hx => ho x (h.mem_iff.2 hx)) hb ((apart_perm h).1 (rise_apart ha))
  refine List.Perm.eq_of_pairwise (le := fun x y : Rg => x.hi < y.lo) (fun x y hx hy h1 h2 => ?_) ha hrb h
  have := ho x hx
  have := ho y (h.mem_iff.2 hy)
  unfold Ok at *
  omega

theorem addAll_apart {l d : List Rg} (hg : l.all goodB = true) (hp : d.Perm l) (hs : Sorted d) : (Apart l → addAll [] d = some (ofL l)) ∧ (¬ Apart l → addAll [] d = none) := by
  have ho : ∀ x ∈ d, Ok x := fun x hx => all_ok.1 hg x (hp.mem_iff.1 hx)
  have hk := addAll_eq d [] ho
  constructor
  · intro h
    have hr : Rise d := apart_rise ho hs ((apart_perm hp).2 h)
    rw [hk.1 ⟨hr, fun x _ => ahead_nil _⟩]
    have : d = srt l := sorted_unique (hp.trans (srt_perm l).symm) ho hr (srt_sorted l)
    rw [this]; rfl
  · intro h
    refine hk.2 fun ⟨h1, _⟩ => h ((apart_perm hp).1 (rise_apart h1))
end Go.Proofs.Ytpghnoadeamplaa
