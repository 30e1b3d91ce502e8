/- Attributes: how they stand; lists that rise. -/
import GoSem.Op.String
namespace Go.Proofs.Ytniaijgejljjbaa
set_option linter.unusedVariables false

abbrev bless := Op.bytesLess
theorem bless_irrefl : ∀ x, bless x x = false
  | [] => rfl
  | a :: x => by
    have h := bless_irrefl x
    show (decide (a < a) || (a == a && bless x x)) = false
    rw [h]
    simp
theorem bless_cons {a b : UInt8} {x y : List UInt8} : bless (a :: x) (b :: y) = true ↔ a < b ∨ a = b ∧ bless x y = true := by
  show (decide (a < b) || (a == b && bless x y)) = true ↔ _
  simp
theorem u8_tri (a b : UInt8) : a < b ∨ a = b ∨ b < a := by
  rcases Nat.lt_trichotomy a.toNat b.toNat with h | h | h
  · exact .inl (UInt8.lt_iff_toNat_lt.2 h)
  · exact .inr (.inl (UInt8.toNat_inj.1 h))
  · exact .inr (.inr (UInt8.lt_iff_toNat_lt.2 h))
theorem u8_trans {a b c : UInt8} (h : a < b) (k : b < c) : a < c := UInt8.lt_iff_toNat_lt.2 (Nat.lt_trans (UInt8.lt_iff_toNat_lt.1 h) (UInt8.lt_iff_toNat_lt.1 k))
theorem bless_trans : ∀ {x y z : List UInt8}, bless x y = true → bless y z = true → bless x z = true
  | x, [], _, h, _ => by cases x <;> simp [bless, Op.bytesLess] at h
  | _, _ :: _, [], _, h => by simp [bless, Op.bytesLess] at h
  | [], _ :: _, _ :: _, _, _ => rfl
  | a :: x, b :: y, c :: z, h, k => by
    rw [bless_cons] at h k ⊢
    rcases h with h | ⟨rfl, h⟩
    · rcases k with k | ⟨rfl, k⟩
      · exact .inl (u8_trans h k)
      · exact .inl h
    · rcases k with k | ⟨rfl, k⟩
      · exact .inl k
      · exact .inr ⟨rfl, bless_trans h k⟩
theorem bless_tri : ∀ (x y : List UInt8), bless x y = true ∨ x = y ∨ bless y x = true
  | [], [] => .inr (.inl rfl)
  | [], _ :: _ => .inl rfl
  | _ :: _, [] => .inr (.inr rfl)
  | a :: x, b :: y => by
    rw [bless_cons, bless_cons]
    rcases u8_tri a b with h | rfl | h
    · exact .inl (.inl h)
    · rcases bless_tri x y with h | rfl | h
      · exact .inl (.inr ⟨rfl, h⟩)
      · exact .inr (.inl rfl)
      · exact .inr (.inr (.inr ⟨rfl, h⟩))
    · exact .inr (.inr (.inl h))
theorem bless_asymm {x y : List UInt8} (h : bless x y = true) : bless y x = false := by
  cases k : bless y x with
  | false => rfl
  | true => have := bless_trans h k; rw [bless_irrefl] at this; cases this

/-- An attribute: its type, its value, as bytes. -/
structure At where
  t : List UInt8
  v : List UInt8
deriving Inhabited, DecidableEq
/-- Does one stand ahead of another one? -/
def ltA (x y : At) : Bool := bless x.t y.t || (x.t == y.t && bless x.v y.v)
theorem ltA_iff {x y : At} : ltA x y = true ↔ bless x.t y.t = true ∨ x.t = y.t ∧ bless x.v y.v = true := by unfold ltA; simp
theorem ltA_irrefl (x : At) : ltA x x = false := by unfold ltA; rw [bless_irrefl, bless_irrefl]; simp
theorem ltA_trans {x y z : At} (h : ltA x y = true) (k : ltA y z = true) : ltA x z = true := by
  rw [ltA_iff] at *
  rcases h with h | ⟨e, h⟩
  · rcases k with k | ⟨e', k⟩
    · exact .inl (bless_trans h k)
    · exact .inl (e' ▸ h)
  · rcases k with k | ⟨e', k⟩
    · exact .inl (e ▸ k)
    · exact .inr ⟨e.trans e', bless_trans h k⟩
theorem ltA_tri (x y : At) : ltA x y = true ∨ x = y ∨ ltA y x = true := by
  rw [ltA_iff, ltA_iff]
  rcases bless_tri x.t y.t with h | h | h
  · exact .inl (.inl h)
  · rcases bless_tri x.v y.v with k | k | k
    · exact .inl (.inr ⟨h, k⟩)
    · exact .inr (.inl (by cases x; cases y; simp_all))
    · exact .inr (.inr (.inr ⟨h.symm, k⟩))
  · exact .inr (.inr (.inl h))
theorem ltA_asymm {x y : At} (h : ltA x y = true) : ltA y x = false := by
  cases k : ltA y x with
  | false => rfl
  | true => have := ltA_trans h k; rw [ltA_irrefl] at this; cases this
/-- -1, 0, 1. -/
def cmpA (x y : At) : Int := if ltA x y = true then -1 else if ltA y x = true then 1 else 0
def cmpB (x y : List UInt8) : Int := if bless x y = true then -1 else if bless y x = true then 1 else 0
theorem cmpA_or (x y : At) : cmpA x y = if cmpB x.t y.t = 0 then cmpB x.v y.v else cmpB x.t y.t := by
  unfold cmpA cmpB
  rcases bless_tri x.t y.t with h | h | h
  · have h2 := bless_asymm h
    have e1 : ltA x y = true := ltA_iff.2 (.inl h)
    simp [h, e1]
  · have e1 : ltA x y = bless x.v y.v := by unfold ltA; rw [h, bless_irrefl]; simp
    have e2 : ltA y x = bless y.v x.v := by unfold ltA; rw [h, bless_irrefl]; simp
    rw [h, bless_irrefl, e1, e2]
    simp
  · have h2 := bless_asymm h
    have e1 : ltA y x = true := ltA_iff.2 (.inl h)
    have e2 : ltA x y = false := ltA_asymm e1
    simp [h, h2, e1, e2]

/-- They rise, each once. -/
def Rises (l : List At) : Prop := l.Pairwise fun x y => ltA x y = true
/-- One more, in its place, each once. -/
def putA : List At → At → List At
  | [], a => [a]
  | x :: r, a => if ltA x a = true then x :: putA r a else if x = a then x :: r else a :: x :: r
theorem mem_put {a y : At} : ∀ {l : List At}, y ∈ putA l a ↔ y = a ∨ y ∈ l
  | [] => by simp [putA]
  | x :: r => by
    unfold putA
    split
    · rw [List.mem_cons, mem_put, List.mem_cons]
      constructor
      · rintro (h | h | h); exact .inr (.inl h); exact .inl h; exact .inr (.inr h)
      · rintro (h | h | h); exact .inr (.inl h); exact .inl h; exact .inr (.inr h)
    · split
      · rename_i h
        subst h
        simp
      · simp
theorem put_rises {a : At} : ∀ {l : List At}, Rises l → Rises (putA l a)
  | [], _ => List.pairwise_singleton _ _
  | x :: r, h => by
    obtain ⟨h1, h2⟩ := List.pairwise_cons.1 h
    unfold putA
    split
    · rename_i hx
      refine List.pairwise_cons.2 ⟨fun y hy => ?_, put_rises h2⟩
      rcases mem_put.1 hy with rfl | hy
      · exact hx
      · exact h1 y hy
    · split
      · exact h
      · rename_i hx hne
        have hax : ltA a x = true := by
          rcases ltA_tri x a with k | k | k
          · exact absurd k hx
          · exact absurd k hne
          · exact k
        exact List.pairwise_cons.2 ⟨fun y hy => (List.mem_cons.1 hy).elim (fun e => e ▸ hax) (fun hy => ltA_trans hax (h1 y hy)), h⟩
/-- All of some, rising, each once. -/
def sortA (l : List At) : List At := l.foldl putA []
theorem foldl_put : ∀ (l a : List At), Rises a → Rises (l.foldl putA a) ∧ ∀ y, y ∈ l.foldl putA a ↔ y ∈ l ∨ y ∈ a
  | [], a, h => ⟨h, fun y => by simp⟩
  | x :: l, a, h => by
    obtain ⟨h1, h2⟩ := foldl_put l (putA a x) (put_rises h)
    refine ⟨h1, fun y => ?_⟩
    rw [List.foldl_cons, h2 y, mem_put, List.mem_cons]
    constructor
    · rintro (h | h | h); exact .inl (.inr h); exact .inl (.inl h); exact .inr h
    · rintro ((h | h) | h); exact .inr (.inl h); exact .inl h; exact .inr (.inr h)
theorem sort_rises (l : List At) : Rises (sortA l) := (foldl_put l [] List.Pairwise.nil).1
theorem mem_sort {l : List At} {y : At} : y ∈ sortA l ↔ y ∈ l := by
  have := (foldl_put l [] List.Pairwise.nil).2 y
  simpa [sortA] using this
/-- Two that rise, and have the same, are the same. -/
theorem rises_ext : ∀ {a b : List At}, Rises a → Rises b → (∀ y, y ∈ a ↔ y ∈ b) → a = b
  | [], [], _, _, _ => rfl
  | [], y :: b, _, _, h => by have := (h y).2 (List.mem_cons_self ..); cases this
  | x :: a, [], _, _, h => by have := (h x).1 (List.mem_cons_self ..); cases this
  | x :: a, y :: b, ha, hb, h => by
    obtain ⟨a1, a2⟩ := List.pairwise_cons.1 ha
    obtain ⟨b1, b2⟩ := List.pairwise_cons.1 hb
    have hxy : x = y := by
      rcases List.mem_cons.1 ((h x).1 (List.mem_cons_self ..)) with e | hx
      · exact e
      · rcases List.mem_cons.1 ((h y).2 (List.mem_cons_self ..)) with e | hy
        · exact e.symm
        · have h1 := b1 x hx
          have h2 := a1 y hy
          rw [ltA_asymm h1] at h2
          cases h2
    subst hxy
    congr 1
    refine rises_ext a2 b2 fun z => ⟨fun hz => ?_, fun hz => ?_⟩
    · rcases List.mem_cons.1 ((h z).1 (List.mem_cons_of_mem _ hz)) with e | hz'
      · subst e
        have := a1 z hz
        rw [ltA_irrefl] at this
        cases this
      · exact hz'
    · rcases List.mem_cons.1 ((h z).2 (List.mem_cons_of_mem _ hz)) with e | hz'
      · subst e
        have := b1 z hz
        rw [ltA_irrefl] at this
        cases this
      · exact hz'
/-- Neighbours that are the same, once. -/
def compA : List At → List At
  | [] => []
  | [x] => [x]
  | x :: y :: r => if y = x then compA (x :: r) else x :: compA (y :: r)
termination_by l => l.length
theorem mem_comp : ∀ {l : List At} {z : At}, z ∈ compA l ↔ z ∈ l
  | [], z => by simp [compA]
  | [x], z => by simp [compA]
  | x :: y :: r, z => by
    unfold compA
    split
    · rename_i h
      subst h
      rw [mem_comp]
      simp
    · rw [List.mem_cons, mem_comp]
      simp
termination_by l => l.length
theorem comp_rises : ∀ {l : List At}, (l.Pairwise fun x y => ltA y x = false) → Rises (compA l)
  | [], _ => by unfold compA; exact List.Pairwise.nil
  | [x], _ => by unfold compA; exact List.pairwise_singleton _ _
  | x :: y :: r, h => by
    obtain ⟨h1, h2⟩ := List.pairwise_cons.1 h
    obtain ⟨h3, h4⟩ := List.pairwise_cons.1 h2
    unfold compA
    split
    · exact comp_rises (List.pairwise_cons.2 ⟨fun z hz => h1 z (List.mem_cons_of_mem _ hz), h4⟩)
    · rename_i hne
      refine List.pairwise_cons.2 ⟨fun z hz => ?_, comp_rises h2⟩
      have hz' := mem_comp.1 hz
      have hxy : ltA x y = true := by
        rcases ltA_tri x y with k | k | k
        · exact k
        · exact absurd k.symm hne
        · rw [h1 y (List.mem_cons_self ..)] at k; cases k
      rcases List.mem_cons.1 hz' with rfl | hz'
      · exact hxy
      · rcases ltA_tri y z with k | k | k
        · exact ltA_trans hxy k
        · exact k ▸ hxy
        · rw [h3 z hz'] at k; cases k
termination_by l => l.length
/-- A sorted row, its neighbours once each, is the list's attributes, rising. -/
theorem comp_sort {l d : List At} (hp : d.Perm l) (hs : d.Pairwise fun x y => ltA y x = false) : compA d = sortA l :=
  rises_ext (comp_rises hs) (sort_rises l) fun y => by rw [mem_comp, mem_sort, hp.mem_iff]
end Go.Proofs.Ytniaijgejljjbaa
