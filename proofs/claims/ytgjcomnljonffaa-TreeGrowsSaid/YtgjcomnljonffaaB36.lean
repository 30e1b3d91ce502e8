/- Keys of two bytes; numbers that come in the order of multiples. -/
import Derived.Test.YtgjcomnljonffaaB35
namespace Go.Proofs.Ytgjcomnljonffaa.Tlv
open Go.RowKit
set_option maxRecDepth 100000
set_option linter.unusedVariables false
set_option linter.unusedSimpArgs false
def kk (k : Nat) : Key := [UInt8.ofNat (k / 256), UInt8.ofNat (k % 256)]
def kv (k : Nat) : KV := (kk k, (k : Int))
theorem kk_inj {a b : Nat} (ha : a < 307) (hb : b < 307) (h : kk a = kk b) : a = b := by
  unfold kk at h
  simp only [List.cons.injEq, and_true] at h
  obtain ⟨h1, h2⟩ := h
  have e1 := congrArg UInt8.toNat h1
  have e2 := congrArg UInt8.toNat h2
  rw [UInt8.toNat_ofNat', UInt8.toNat_ofNat'] at e1 e2
  omega
theorem kv_inj {a b : Nat} (h : kv a = kv b) : a = b := by
  have h1 : ((a : Nat) : Int) = (b : Int) := congrArg Prod.snd h
  omega
theorem mem_lo {k : Key} {l : List KV} {x : KV} : x ∈ loL k l ↔ x ∈ l ∧ klt x.1 k := by simp [loL]
theorem mem_hi {k : Key} {l : List KV} {x : KV} : x ∈ hiL k l ↔ x ∈ l ∧ klt k x.1 := by simp [hiL]
theorem klt_ne {a b : Key} : a ≠ b ↔ klt a b ∨ klt b a := by
  constructor
  · intro h
    by_cases h1 : klt a b
    · exact .inl h1
    · by_cases h2 : klt b a
      · exact .inr h2
      · rcases kcmp_range a b with h3 | h3 | h3
        · exact absurd h3 h1
        · exact absurd (kcmp_eq a b h3) h
        · exact absurd (klt_swap.2 h3) h2
  · rintro (h | h) rfl
    · exact klt_irrefl _ h
    · exact klt_irrefl _ h
/-- The pairs of the numbers that P says, in order. -/
def Hold (P : Nat → Prop) (l : List KV) : Prop := Srt l ∧ ∀ x, x ∈ l ↔ ∃ k, k < 307 ∧ P k ∧ x = kv k
theorem Hold.congr {P Q : Nat → Prop} {l : List KV} (h : Hold P l) (e : ∀ k, k < 307 → (P k ↔ Q k)) : Hold Q l :=
  ⟨h.1, fun x => (h.2 x).trans ⟨fun ⟨k, a, b, c⟩ => ⟨k, a, (e k a).1 b, c⟩, fun ⟨k, a, b, c⟩ => ⟨k, a, (e k a).2 b, c⟩⟩⟩
theorem Hold.none {P : Nat → Prop} (h : ∀ k, k < 307 → ¬ P k) : Hold P [] := ⟨List.Pairwise.nil, fun x => ⟨fun h => by simp at h, fun ⟨k, a, b, _⟩ => absurd b (h k a)⟩⟩
theorem get_mem {k : Key} {l : List KV} {v : Int} (h : getL k l = some v) : (k, v) ∈ l := by
  unfold getL at h
  cases hf : l.find? (fun x => decide (x.1 = k)) with
  | none => rw [hf] at h; simp at h
  | some x =>
    rw [hf] at h
    simp at h
    have h1 := List.mem_of_find?_eq_some hf
    have h2 := List.find?_some hf
    simp at h2
    rw [← h, ← h2]
    exact h1
theorem get_not {k : Key} {l : List KV} (h : getL k l = none) : ∀ x ∈ l, x.1 ≠ k := by
  unfold getL at h
  simp at h
  intro x hx e
  exact h x.1 x.2 hx e
theorem Hold.get {P : Nat → Prop} {l : List KV} (h : Hold P l) {k : Nat} {v : Int} (hk : k < 307) (hg : getL (kk k) l = some v) : P k ∧ v = k := by
  obtain ⟨j, a, b, c⟩ := (h.2 _).1 (get_mem hg)
  have e1 : kk k = kk j := congrArg Prod.fst c
  have e2 : v = (j : Int) := congrArg Prod.snd c
  have := kk_inj hk a e1
  subst this
  exact ⟨b, e2⟩
theorem Hold.not {P : Nat → Prop} {l : List KV} (h : Hold P l) {k : Nat} (hk : k < 307) (hg : getL (kk k) l = .none) : ¬ P k := fun hp =>
  get_not hg (kv k) ((h.2 _).2 ⟨k, hk, hp, rfl⟩) rfl
theorem Hold.put {P : Nat → Prop} {l : List KV} (h : Hold P l) {k : Nat} (hk : k < 307) (hs : Srt (putL (kk k) k l)) : Hold (fun j => P j ∨ j = k) (putL (kk k) k l) := by
  refine ⟨hs, fun x => ?_⟩
  unfold putL
  rw [List.mem_append, List.mem_cons, mem_lo, mem_hi]
  constructor
  · rintro (⟨h1, _⟩ | rfl | ⟨h1, _⟩)
    · obtain ⟨j, a, b, c⟩ := (h.2 x).1 h1
      exact ⟨j, a, .inl b, c⟩
    · exact ⟨k, hk, .inr rfl, rfl⟩
    · obtain ⟨j, a, b, c⟩ := (h.2 x).1 h1
      exact ⟨j, a, .inl b, c⟩
  · rintro ⟨j, a, b, rfl⟩
    by_cases e : j = k
    · subst e; exact .inr (.inl rfl)
    · have hp : P j := b.resolve_right e
      have hm := (h.2 (kv j)).2 ⟨j, a, hp, rfl⟩
      have hne : (kv j).1 ≠ kk k := fun e1 => e (kk_inj a hk e1)
      rcases klt_ne.1 hne with h1 | h1
      · exact .inl ⟨hm, h1⟩
      · exact .inr (.inr ⟨hm, h1⟩)
theorem Hold.drop {P : Nat → Prop} {l : List KV} (h : Hold P l) {k : Nat} (hk : k < 307) (hs : Srt (dropL (kk k) l)) : Hold (fun j => P j ∧ j ≠ k) (dropL (kk k) l) := by
  refine ⟨hs, fun x => ?_⟩
  unfold dropL
  rw [List.mem_append, mem_lo, mem_hi]
  constructor
  · rintro (⟨h1, h2⟩ | ⟨h1, h2⟩)
    · obtain ⟨j, a, b, rfl⟩ := (h.2 x).1 h1
      exact ⟨j, a, ⟨b, fun e => by subst e; exact klt_irrefl _ h2⟩, rfl⟩
    · obtain ⟨j, a, b, rfl⟩ := (h.2 x).1 h1
      exact ⟨j, a, ⟨b, fun e => by subst e; exact klt_irrefl _ h2⟩, rfl⟩
  · rintro ⟨j, a, ⟨hp, e⟩, rfl⟩
    have hm := (h.2 (kv j)).2 ⟨j, a, hp, rfl⟩
    have hne : (kv j).1 ≠ kk k := fun e1 => e (kk_inj a hk e1)
    rcases klt_ne.1 hne with h1 | h1
    · exact .inl ⟨hm, h1⟩
    · exact .inr ⟨hm, h1⟩
theorem Hold.len {n : Nat} {l : List KV} (h : Hold (fun k => k < n) l) (hn : n ≤ 307) : l.length = n := by
  have hp : l.Perm ((List.range n).map kv) := by
    rw [List.perm_ext_iff_of_nodup]
    · intro x
      rw [h.2 x, List.mem_map]
      constructor
      · rintro ⟨k, a, b, rfl⟩
        exact ⟨k, by simpa using b, rfl⟩
      · rintro ⟨k, a, rfl⟩
        have : k < n := by simpa using a
        exact ⟨k, by omega, this, rfl⟩
    · exact h.1.imp fun {a b} hab e => by subst e; exact klt_irrefl _ hab
    · exact List.Pairwise.map kv (fun a b hab e => hab (kv_inj e)) List.nodup_range
  simpa using hp.length_eq
theorem Hold.nil {l : List KV} {P : Nat → Prop} (h : Hold P l) (hP : ∀ k, k < 307 → ¬ P k) : l = [] := by
  cases l with
  | nil => rfl
  | cons x l =>
    obtain ⟨k, a, b, _⟩ := (h.2 x).1 (by simp)
    exact absurd b (hP k a)
/-- The way back. -/
def pw (m : Nat) : Nat := (m ^ 200 % 307) * (m ^ 105 % 307) % 307
def inv (m k : Nat) : Nat := k * pw m % 307
theorem inv_one : ∀ m, m < 307 → 1 ≤ m → m * pw m % 307 = 1 := by decide +kernel
theorem inv_lt (m k : Nat) : inv m k < 307 := Nat.mod_lt _ (by decide)
theorem mul_inv {m k : Nat} (h1 : 1 ≤ m) (h2 : m < 307) (hk : k < 307) : inv m k * m % 307 = k := by
  have h := inv_one m h2 h1
  unfold inv
  rw [Nat.mod_mul_mod, Nat.mul_assoc, Nat.mul_comm (pw m) m, Nat.mul_mod, h, Nat.mul_one, Nat.mod_mod, Nat.mod_eq_of_lt hk]
theorem inv_mul {m i : Nat} (h1 : 1 ≤ m) (h2 : m < 307) (hi : i < 307) : inv m (i * m % 307) = i := by
  have h := inv_one m h2 h1
  unfold inv
  rw [Nat.mod_mul_mod, Nat.mul_assoc, Nat.mul_mod, h, Nat.mul_one, Nat.mod_mod, Nat.mod_eq_of_lt hi]
end Go.Proofs.Ytgjcomnljonffaa.Tlv
