/- Keys, rising lists of pairs, trees with their addresses: what asks for no memory. -/
import Derived.Lib.Bytealg
import Derived.OwnWalk
namespace Go.Proofs.Ytgjcomnljonffaa.Tlv
set_option linter.unusedVariables false
set_option linter.unusedSimpArgs false
abbrev Key := List UInt8
abbrev kcmp (a b : Key) : Int := Lib.compareBytes a b
theorem kcmp_self : ∀ a : Key, kcmp a a = 0
  | [] => rfl
  | x :: a => by
    unfold kcmp Lib.compareBytes
    simp [UInt8.lt_irrefl]
    exact kcmp_self a
theorem kcmp_eq : ∀ a b : Key, kcmp a b = 0 → a = b
  | [], [], _ => rfl
  | [], _ :: _, h => by simp [kcmp, Lib.compareBytes] at h
  | _ :: _, [], h => by simp [kcmp, Lib.compareBytes] at h
  | x :: a, y :: b, h => by
    unfold kcmp Lib.compareBytes at h
    by_cases h1 : x < y
    · simp [h1] at h
    · by_cases h2 : y < x
      · simp [h1, h2] at h
      · simp [h1, h2] at h
        have : x = y := UInt8.le_antisymm (UInt8.not_lt.1 h2) (UInt8.not_lt.1 h1)
        rw [this, kcmp_eq a b h]
theorem kcmp_swap : ∀ a b : Key, kcmp b a = - kcmp a b
  | [], [] => rfl
  | [], _ :: _ => rfl
  | _ :: _, [] => rfl
  | x :: a, y :: b => by
    unfold kcmp Lib.compareBytes
    by_cases h1 : x < y
    · have h2 : ¬ y < x := UInt8.lt_asymm h1
      simp [h1, h2]
    · by_cases h2 : y < x
      · simp [h1, h2]
      · simp [h1, h2]
        exact kcmp_swap a b
theorem kcmp_range : ∀ a b : Key, kcmp a b = -1 ∨ kcmp a b = 0 ∨ kcmp a b = 1
  | [], [] => .inr (.inl rfl)
  | [], _ :: _ => .inl rfl
  | _ :: _, [] => .inr (.inr rfl)
  | x :: a, y :: b => by
    unfold kcmp Lib.compareBytes
    by_cases h1 : x < y
    · simp [h1]
    · by_cases h2 : y < x
      · simp [h1, h2]
      · simp [h1, h2]
        exact kcmp_range a b
def klt (a b : Key) : Prop := kcmp a b = -1
instance (a b : Key) : Decidable (klt a b) := inferInstanceAs (Decidable (kcmp a b = -1))
theorem klt_irrefl (a : Key) : ¬ klt a a := by unfold klt; rw [kcmp_self]; decide
theorem klt_swap {a b : Key} : klt b a ↔ kcmp a b = 1 := by unfold klt; rw [kcmp_swap a b]; omega
theorem klt_asymm {a b : Key} (h : klt a b) : ¬ klt b a := by rw [klt_swap]; unfold klt at h; omega
theorem klt_trans : ∀ {a b c : Key}, klt a b → klt b c → klt a c
  | _, _, [], _, h => by unfold klt at h; rename_i b _; cases b <;> simp [kcmp, Lib.compareBytes] at h
  | [], _, _ :: _, _, _ => rfl
  | _ :: _, [], _, h, _ => by simp [klt, kcmp, Lib.compareBytes] at h
  | x :: a, y :: b, z :: c, h, h' => by
    unfold klt kcmp Lib.compareBytes at *
    by_cases h1 : x < y
    · by_cases h2 : y < z
      · simp [UInt8.lt_trans h1 h2]
      · by_cases h3 : z < y
        · simp [h2, h3] at h'
        · have : y = z := UInt8.le_antisymm (UInt8.not_lt.1 h3) (UInt8.not_lt.1 h2)
          subst this
          simp [h1]
    · by_cases h3 : y < x
      · simp [h1, h3] at h
      · have : x = y := UInt8.le_antisymm (UInt8.not_lt.1 h3) (UInt8.not_lt.1 h1)
        subst this
        simp [h1] at h
        by_cases h2 : x < z
        · simp [h2]
        · by_cases h4 : z < x
          · simp [h2, h4] at h'
          · simp [h2, h4] at h' ⊢
            exact klt_trans (a := a) (b := b) (c := c) h h'
theorem klt_tri (a b : Key) : klt a b ∨ a = b ∨ klt b a := by
  rcases kcmp_range a b with h | h | h
  · exact .inl h
  · exact .inr (.inl (kcmp_eq a b h))
  · exact .inr (.inr (klt_swap.2 h))
theorem klt_of_not {a b : Key} (h : ¬ klt a b) (hne : a ≠ b) : klt b a := by
  rcases klt_tri a b with h1 | h1 | h1
  · exact absurd h1 h
  · exact absurd h1 hne
  · exact h1
abbrev KV := Key × Int
def loL (k : Key) (l : List KV) : List KV := l.filter fun x => decide (klt x.1 k)
def hiL (k : Key) (l : List KV) : List KV := l.filter fun x => decide (klt k x.1)
def putL (k : Key) (v : Int) (l : List KV) : List KV := loL k l ++ (k, v) :: hiL k l
def dropL (k : Key) (l : List KV) : List KV := loL k l ++ hiL k l
def getL (k : Key) (l : List KV) : Option Int := (l.find? fun x => decide (x.1 = k)).map (·.2)
def Srt (l : List KV) : Prop := l.Pairwise fun a b => klt a.1 b.1
/-- All below a key; all above. -/
def Lo (k : Key) (l : List KV) : Prop := ∀ x ∈ l, klt x.1 k
def Hi (k : Key) (l : List KV) : Prop := ∀ x ∈ l, klt k x.1
section
variable {k : Key} {v : Int} {a b l : List KV}
theorem lo_lo (h : Lo k l) : loL k l = l := List.filter_eq_self.2 fun x hx => decide_eq_true (h x hx)
theorem hi_hi (h : Hi k l) : hiL k l = l := List.filter_eq_self.2 fun x hx => decide_eq_true (h x hx)
theorem hi_lo (h : Lo k l) : hiL k l = [] := List.filter_eq_nil_iff.2 fun x hx => by simp; exact klt_asymm (h x hx)
theorem lo_hi (h : Hi k l) : loL k l = [] := List.filter_eq_nil_iff.2 fun x hx => by simp; exact klt_asymm (h x hx)
theorem lo_app : loL k (a ++ b) = loL k a ++ loL k b := List.filter_append ..
theorem hi_app : hiL k (a ++ b) = hiL k a ++ hiL k b := List.filter_append ..
theorem putL_mid (ha : Lo k a) (hb : Hi k b) : putL k v (a ++ l ++ b) = a ++ putL k v l ++ b := by
  simp [putL, lo_app, hi_app, lo_lo ha, hi_hi hb, hi_lo ha, lo_hi hb]
theorem dropL_mid (ha : Lo k a) (hb : Hi k b) : dropL k (a ++ l ++ b) = a ++ dropL k l ++ b := by
  simp [dropL, lo_app, hi_app, lo_lo ha, hi_hi hb, hi_lo ha, lo_hi hb]
theorem getL_mid (ha : Lo k a) (hb : Hi k b) : getL k (a ++ l ++ b) = getL k l := by
  have h1 : a.find? (fun x => decide (x.1 = k)) = none := List.find?_eq_none.2 fun x hx => by
    simp; intro e; have := ha x hx; rw [e] at this; exact klt_irrefl _ this
  have h2 : b.find? (fun x => decide (x.1 = k)) = none := List.find?_eq_none.2 fun x hx => by
    simp; intro e; have := hb x hx; rw [e] at this; exact klt_irrefl _ this
  simp [getL, List.find?_append, h1, h2]
theorem putL_at {v0 : Int} (ha : Lo k a) (hb : Hi k b) : putL k v (a ++ (k, v0) :: b) = a ++ (k, v) :: b := by
  have := putL_mid (v := v) (l := [(k, v0)]) ha hb
  have h : putL k v [(k, v0)] = [(k, v)] := by simp [putL, loL, hiL, klt_irrefl]
  rw [h] at this
  simpa using this
theorem putL_new (ha : Lo k a) (hb : Hi k b) : putL k v (a ++ b) = a ++ (k, v) :: b := by
  have := putL_mid (v := v) (l := []) ha hb
  simpa [putL, loL, hiL] using this
theorem dropL_at {v0 : Int} (ha : Lo k a) (hb : Hi k b) : dropL k (a ++ (k, v0) :: b) = a ++ b := by
  have := dropL_mid (l := [(k, v0)]) ha hb
  have h : dropL k [(k, v0)] = [] := by simp [dropL, loL, hiL, klt_irrefl]
  rw [h] at this
  simpa using this
theorem dropL_no (ha : Lo k a) (hb : Hi k b) : dropL k (a ++ b) = a ++ b := by
  have := dropL_mid (l := []) ha hb
  simpa [dropL, loL, hiL] using this
theorem getL_at {v0 : Int} (ha : Lo k a) (hb : Hi k b) : getL k (a ++ (k, v0) :: b) = some v0 := by
  have := getL_mid (l := [(k, v0)]) ha hb
  have h : getL k [(k, v0)] = some v0 := by simp [getL]
  rw [h] at this
  simpa using this
theorem getL_no (ha : Lo k a) (hb : Hi k b) : getL k (a ++ b) = none := by
  have := getL_mid (l := []) ha hb
  simpa [getL] using this
theorem srt_mid {x : KV} (h : Srt (a ++ x :: b)) : Lo x.1 a ∧ Hi x.1 b := by
  unfold Srt at h
  rw [List.pairwise_append] at h
  obtain ⟨h1, h2, h3⟩ := h
  exact ⟨fun y hy => h3 y hy x (by simp), fun y hy => (List.pairwise_cons.1 h2).1 y hy⟩
theorem srt_app : Srt (a ++ b) ↔ Srt a ∧ Srt b ∧ ∀ x ∈ a, ∀ y ∈ b, klt x.1 y.1 := List.pairwise_append
theorem srt_split (h : Srt l) (k : Key) : (∃ v0, l = loL k l ++ (k, v0) :: hiL k l) ∨ l = loL k l ++ hiL k l := by
  induction l with
  | nil => exact .inr rfl
  | cons x r ih =>
    have h' := List.pairwise_cons.1 h
    rcases klt_tri x.1 k with hx | hx | hx
    · have e1 : loL k (x :: r) = x :: loL k r := by simp [loL, hx]
      have e2 : hiL k (x :: r) = hiL k r := by simp [hiL, klt_asymm hx]
      rw [e1, e2]
      rcases ih h'.2 with ⟨v0, e⟩ | e
      · exact .inl ⟨v0, by rw [List.cons_append, ← e]⟩
      · exact .inr (by rw [List.cons_append, ← e])
    · have hr : Hi k r := fun y hy => by have := h'.1 y hy; rwa [hx] at this
      have e1 : loL k (x :: r) = [] := by
        have : ¬ klt x.1 k := by rw [hx]; exact klt_irrefl k
        have h2 := lo_hi hr
        simp only [loL] at h2 ⊢
        simp [this, h2]
      have e2 : hiL k (x :: r) = r := by
        have : ¬ klt k x.1 := by rw [hx]; exact klt_irrefl k
        have h2 := hi_hi hr
        simp only [hiL] at h2 ⊢
        simp [this, h2]
      rw [e1, e2]
      exact .inl ⟨x.2, by rw [← hx]; rfl⟩
    · have hr : Hi k (x :: r) := fun y hy => by
        rcases List.mem_cons.1 hy with rfl | hy
        · exact hx
        · exact klt_trans hx (h'.1 y hy)
      rw [lo_hi hr, hi_hi hr]
      exact .inr rfl
theorem lo_Lo : Lo k (loL k l) := fun x hx => by simpa using (List.mem_filter.1 hx).2
theorem hi_Hi : Hi k (hiL k l) := fun x hx => by simpa using (List.mem_filter.1 hx).2
theorem srt_put (h : Srt l) : Srt (putL k v l) := by
  unfold putL
  rw [srt_app]
  refine ⟨List.Pairwise.filter _ h, List.pairwise_cons.2 ⟨fun y hy => hi_Hi y hy, List.Pairwise.filter _ h⟩, fun x hx y hy => ?_⟩
  have h1 : klt x.1 k := lo_Lo x hx
  rcases List.mem_cons.1 hy with rfl | hy
  · exact h1
  · exact klt_trans h1 (hi_Hi y hy)
theorem srt_drop (h : Srt l) : Srt (dropL k l) := by
  unfold dropL
  rw [srt_app]
  exact ⟨List.Pairwise.filter _ h, List.Pairwise.filter _ h, fun x hx y hy => klt_trans (lo_Lo x hx) (hi_Hi y hy)⟩
theorem get_some (h : Srt l) {v0 : Int} (hg : getL k l = some v0) : l = loL k l ++ (k, v0) :: hiL k l := by
  rcases srt_split h k with ⟨v1, e⟩ | e
  · have := getL_at (v0 := v1) (lo_Lo (k := k) (l := l)) (hi_Hi (k := k) (l := l))
    rw [← e, hg] at this
    cases this
    exact e
  · have := getL_no (lo_Lo (k := k) (l := l)) (hi_Hi (k := k) (l := l))
    rw [← e, hg] at this
    cases this
theorem get_none (h : Srt l) (hg : getL k l = none) : l = loL k l ++ hiL k l := by
  rcases srt_split h k with ⟨v1, e⟩ | e
  · have := getL_at (v0 := v1) (lo_Lo (k := k) (l := l)) (hi_Hi (k := k) (l := l))
    rw [← e, hg] at this
    cases this
  · exact e
theorem put_length (h : Srt l) : (putL k v l).length = l.length + (if getL k l = none then 1 else 0) := by
  cases hg : getL k l with
  | none => have := congrArg List.length (get_none h hg); simp [putL] at this ⊢; omega
  | some v0 => have := congrArg List.length (get_some h hg); simp [putL] at this ⊢; omega
theorem drop_length (h : Srt l) (hg : getL k l ≠ none) : (dropL k l).length + 1 = l.length := by
  cases hg' : getL k l with
  | none => exact absurd hg' hg
  | some v0 => have := congrArg List.length (get_some h hg'); simp [dropL] at this ⊢; omega
end
/-- An item: where its key lies, its key, and its number. -/
structure It where
  A : Option Addr
  c : Nat
  k : Key
  v : Int
instance : Inhabited It := ⟨⟨none, 0, [], 0⟩⟩
def It.kv (x : It) : KV := (x.k, x.v)
/-- A tree with its addresses: a node's block, its two slices, its items, its children. -/
inductive Nd
  | mk (n : Nat) (vi vk : Value) (its : List It) (kids : List Nd)
instance : Inhabited Nd := ⟨.mk 0 (.slice none 0 0) (.slice none 0 0) [] []⟩
def Nd.n : Nd → Nat | .mk n _ _ _ _ => n
def Nd.vi : Nd → Value | .mk _ v _ _ _ => v
def Nd.vk : Nd → Value | .mk _ _ v _ _ => v
def Nd.its : Nd → List It | .mk _ _ _ l _ => l
def Nd.kids : Nd → List Nd | .mk _ _ _ _ l => l
theorem Nd.eta (d : Nd) : d = .mk d.n d.vi d.vk d.its d.kids := by cases d; rfl
section
variable {α : Type}
def preL (fs : List (List α)) (l : List α) : List α := (List.zipWith (fun f x => f ++ [x]) fs l).flatten
def sufL (l : List α) (fs : List (List α)) : List α := (List.zipWith (fun x f => x :: f) l fs).flatten
def inter (l : List α) : List (List α) → List α
  | [] => l
  | f :: r => f ++ sufL l r
variable {i1 i2 : List α} {f1 f2 : List (List α)} {f : List α} {x : α}
@[simp] theorem preL_nil : preL ([] : List (List α)) [] = [] := rfl
@[simp] theorem sufL_nil : sufL ([] : List α) [] = [] := rfl
@[simp] theorem sufL_cons : sufL (x :: i1) (f :: f1) = x :: f ++ sufL i1 f1 := by simp [sufL]
@[simp] theorem preL_cons : preL (f :: f1) (x :: i1) = f ++ x :: preL f1 i1 := by simp [preL]
theorem sufL_app (h : i1.length = f1.length) : sufL (i1 ++ i2) (f1 ++ f2) = sufL i1 f1 ++ sufL i2 f2 := by
  simp [sufL, List.zipWith_append h]
theorem preL_app (h : f1.length = i1.length) : preL (f1 ++ f2) (i1 ++ i2) = preL f1 i1 ++ preL f2 i2 := by
  simp [preL, List.zipWith_append h]
theorem inter_mid : ∀ {i1 i2 : List α} {f1 f2 : List (List α)} {f : List α}, i1.length = f1.length → inter (i1 ++ i2) (f1 ++ f :: f2) = preL f1 i1 ++ f ++ sufL i2 f2
  | [], i2, [], f2, f, _ => by simp [inter]
  | x :: i1, i2, g :: f1, f2, f, h => by
    have h' : i1.length = f1.length := by simpa using h
    have ih := inter_mid (i2 := i2) (f2 := f2) (f := f) h'
    cases f1 with
    | nil =>
      have : i1 = [] := List.eq_nil_of_length_eq_zero (by simpa using h')
      subst this
      simp [inter]
    | cons g' f1 =>
      simp only [List.cons_append, inter] at ih ⊢
      simp [ih, List.append_assoc]
theorem inter_cat : ∀ {f1 : List (List α)}, f1.length = i1.length + 1 → 0 < f2.length → inter (i1 ++ x :: i2) (f1 ++ f2) = inter i1 f1 ++ x :: inter i2 f2
  | g :: f1, h, h2 => by
    cases f2 with
    | nil => simp at h2
    | cons g2 f2 =>
      have h' : i1.length = f1.length := by simpa using h.symm
      simp [inter, sufL_app h', List.append_assoc]
end
/-- The items under a node of height h, in order. -/
def flat : Nat → Nd → List It
  | 0, d => d.its
  | h + 1, d => inter d.its (d.kids.map (flat h))
/-- A node of height h, at most full; what is below has as many items as it must have. -/
def Bal (t : Nat) : Nat → Nd → Prop
  | 0, d => d.kids = [] ∧ d.its.length ≤ 2 * t - 1
  | h + 1, d => d.kids.length = d.its.length + 1 ∧ d.its.length ≤ 2 * t - 1 ∧ ∀ c ∈ d.kids, Bal t h c ∧ t - 1 ≤ c.its.length
theorem Bal.most {t h : Nat} {d : Nd} (b : Bal t h d) : d.its.length ≤ 2 * t - 1 := by
  cases h
  · exact b.2
  · exact b.2.1
def own (n : Nat) (vi vk : Value) (k : Nat) : Nat := (if n = k then 1 else 0) + (if vi.ownBlock = some k then 1 else 0) + (if vk.ownBlock = some k then 1 else 0)
/-- How often a block stands in a tree. -/
def occ : Nat → Nd → Nat → Nat
  | 0, d, k => own d.n d.vi d.vk k
  | h + 1, d, k => own d.n d.vi d.vk k + (d.kids.map fun c => occ h c k).sum
def occs (h : Nat) (l : List Nd) (k : Nat) : Nat := (l.map fun c => occ h c k).sum
@[simp] theorem occs_nil (h k : Nat) : occs h [] k = 0 := rfl
@[simp] theorem occs_cons (h k : Nat) (c : Nd) (l : List Nd) : occs h (c :: l) k = occ h c k + occs h l k := by simp [occs]
@[simp] theorem occs_app (h k : Nat) (a b : List Nd) : occs h (a ++ b) k = occs h a k + occs h b k := by simp [occs]
theorem occ_succ (h k : Nat) (d : Nd) : occ (h + 1) d k = own d.n d.vi d.vk k + occs h d.kids k := rfl
theorem occ_mem {h k : Nat} {c : Nd} {l : List Nd} (hc : c ∈ l) : occ h c k ≤ occs h l k := by
  obtain ⟨a, b, rfl⟩ := List.append_of_mem hc
  simp
  omega
abbrev kvs (l : List It) : List KV := l.map It.kv
theorem flat_mid {h : Nat} {d : Nd} {i1 i2 : List It} {k1 k2 : List Nd} {c : Nd} (hi : d.its = i1 ++ i2) (hk : d.kids = k1 ++ c :: k2) (hl : i1.length = k1.length) :
    flat (h + 1) d = preL (k1.map (flat h)) i1 ++ flat h c ++ sufL i2 (k2.map (flat h)) := by
  simp only [flat, hi, hk, List.map_append, List.map_cons]
  exact inter_mid (by simpa using hl)
/-- What stands ahead of a child is below a key that the items ahead are below. -/
theorem pre_lo : ∀ {i1 : List It} {f1 : List (List It)} {key : Key} {r : List It}, i1.length = f1.length → Srt (kvs (preL f1 i1 ++ r)) → (∀ x ∈ i1, klt x.k key) → Lo key (kvs (preL f1 i1))
  | [], [], _, _, _, _, _ => by intro x hx; simp [kvs] at hx
  | x :: i1, f :: f1, key, r, hl, hs, hx => by
    have hl' : i1.length = f1.length := by simpa using hl
    have e : kvs (preL (f :: f1) (x :: i1) ++ r) = kvs f ++ x.kv :: kvs (preL f1 i1 ++ r) := by simp [kvs]
    rw [e] at hs
    have h1 := srt_mid hs
    have h2 := (srt_app.1 hs).2.1
    have hxk := hx x (by simp)
    have ih := pre_lo hl' (List.pairwise_cons.1 h2).2 fun y hy => hx y (by simp [hy])
    intro y hy
    simp only [kvs, preL_cons, List.map_append, List.map_cons, List.mem_append, List.mem_cons] at hy
    rcases hy with hy | rfl | hy
    · exact klt_trans (h1.1 y hy) hxk
    · exact hxk
    · exact ih y hy
theorem suf_hi {i2 : List It} {f2 : List (List It)} {key : Key} {r : List It} (hl : i2.length = f2.length) (hs : Srt (kvs (r ++ sufL i2 f2))) (hx : ∀ x ∈ i2, klt key x.k) : Hi key (kvs (sufL i2 f2)) := by
  cases i2 with
  | nil =>
    have : f2 = [] := List.eq_nil_of_length_eq_zero (by simpa using hl.symm)
    subst this
    intro x hx; simp [kvs] at hx
  | cons x i2 =>
    cases f2 with
    | nil => simp at hl
    | cons f f2 =>
      have hxk := hx x (by simp)
      have e : kvs (r ++ sufL (x :: i2) (f :: f2)) = kvs r ++ x.kv :: kvs (f ++ sufL i2 f2) := by simp [kvs]
      rw [e] at hs
      have h1 := srt_mid hs
      intro y hy
      have e2 : kvs (sufL (x :: i2) (f :: f2)) = x.kv :: kvs (f ++ sufL i2 f2) := by simp [kvs]
      rw [e2] at hy
      rcases List.mem_cons.1 hy with rfl | hy
      · exact hxk
      · exact klt_trans hxk (h1.2 y hy)
end Go.Proofs.Ytgjcomnljonffaa.Tlv
