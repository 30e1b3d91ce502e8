/- Blocks counted: a node, its children; flat lists of cut nodes. -/
import Derived.Test.YtgjcomnljonffaaB10
namespace Go.Proofs.Ytgjcomnljonffaa.Tlv
open Go.RowKit
set_option maxRecDepth 100000
set_option linter.unusedVariables false
set_option linter.unusedSimpArgs false
theorem NodeAt.typed3 {w : World} {d : Nd} (a : NodeAt w d) {k : Nat} (hk : 0 < own d.n d.vi d.vk k) : ∃ t cs, Blk w k t cs ∧ (t = 59 ∨ t = 69 ∨ t = 55) := by
  rcases own_pos.1 hk with rfl | h | h
  · exact ⟨_, _, a.blk, .inl rfl⟩
  · obtain ⟨cs, h1⟩ := a.its.own_blk h
    exact ⟨_, _, h1, .inr (.inl rfl)⟩
  · obtain ⟨cs, h1⟩ := a.kids.own_blk h
    exact ⟨_, _, h1, .inr (.inr rfl)⟩
theorem At.typed3 {w : World} : ∀ {h : Nat} {d : Nd}, At w h d → ∀ {k : Nat}, 0 < occ h d k → ∃ t cs, Blk w k t cs ∧ (t = 59 ∨ t = 69 ∨ t = 55)
  | 0, d, a, k, hk => NodeAt.typed3 a hk
  | h + 1, d, a, k, hk => by
    rw [occ_succ] at hk
    by_cases h1 : 0 < own d.n d.vi d.vk k
    · exact a.1.typed3 h1
    · obtain ⟨c, h2, h3⟩ := occs_pos (h := h) (l := d.kids) (k := k) (by omega)
      exact (a.2 c h2).typed3 h3
theorem Chg.blk {t h : Nat} {w w' : World} {d d' : Nd} (c : Chg t h w d w' d') (a : At w h d) {g : Nat} {ty : TypeId} {cs : Array Value} (hb : Blk w g ty cs) (h1 : ty ≠ 59) (h2 : ty ≠ 69) (h3 : ty ≠ 55) : Blk w' g ty cs :=
  c.fr.b hb fun hk => by
    obtain ⟨t', cs', q, h4⟩ := a.typed3 hk
    have := blk_ty hb q
    subst this
    rcases h4 with h | h | h
    · exact h1 h
    · exact h2 h
    · exact h3 h
theorem NodeAt.form {w : World} {d : Nd} (a : NodeAt w d) : ∃ A c B e, d.vi = .slice A d.its.length c ∧ d.vk = .slice B d.kids.length e := by
  obtain ⟨A, c, e1, _⟩ := a.its.rd0
  obtain ⟨B, e, e2, _⟩ := a.kids.rd0
  exact ⟨A, c, B, e, e1, by simpa using e2⟩
theorem own_zero_of {w : World} {h : Nat} {d : Nd} (a : At w h d) {k : Nat} (hk : ¬ k < w.heap.size) : occ h d k = 0 := by
  rcases Nat.eq_zero_or_pos (occ h d k) with h1 | h1
  · exact h1
  · exact absurd (a.lt h1) hk
theorem occs_zero {w : World} {h : Nat} {l : List Nd} (a : ∀ c ∈ l, At w h c) {k : Nat} (hk : ¬ k < w.heap.size) : occs h l k = 0 := by
  rcases Nat.eq_zero_or_pos (occs h l k) with h1 | h1
  · exact h1
  · obtain ⟨c, h2, h3⟩ := occs_pos h1
    exact absurd ((a c h2).lt h3) hk
def own1 (v : Value) (k : Nat) : Nat := if v.ownBlock = some k then 1 else 0
theorem own_eq (n k : Nat) (vi vk : Value) : own n vi vk k = (if n = k then 1 else 0) + own1 vi k + own1 vk k := rfl
theorem own1_le (v : Value) (k : Nat) : own1 v k ≤ 1 := by unfold own1; split <;> omega
theorem own1_pos {v : Value} {k : Nat} : 0 < own1 v k ↔ v.ownBlock = some k := by unfold own1; split <;> simp_all
theorem own1_new {v v' : Value} {n k : Nat} (h : v'.ownBlock = v.ownBlock ∨ ∃ k, v'.ownBlock = some k ∧ n ≤ k) (hk : k < n) : own1 v' k ≤ own1 v k := by
  unfold own1
  rcases h with h | ⟨k', h, h2⟩
  · rw [h]; exact Nat.le_refl _
  · rw [h]
    split
    · rename_i e
      injection e with e
      omega
    · omega
theorem own1_row {α : Type} {K : Kind α} {w : World} {n k : Nat} {v : Value} {l : List α} (h : RowK K w n v l) (hk : k < n) : own1 v k = 0 := by
  rcases Nat.eq_zero_or_pos (own1 v k) with h1 | h1
  · exact h1
  · have := (World.ownsRow.lt h k (own1_pos.1 h1)).1
    omega
/-- How often a block stands in the children. -/
def kocc : Nat → List Nd → Nat → Nat
  | 0, _, _ => 0
  | h + 1, l, k => occs h l k
theorem occ_kocc (h k : Nat) (d : Nd) : occ h d k = own d.n d.vi d.vk k + kocc h d.kids k := by cases h <;> rfl
theorem kocc_app (h k : Nat) (a b : List Nd) : kocc h (a ++ b) k = kocc h a k + kocc h b k := by cases h <;> simp [kocc]
def KidsAt (w : World) : Nat → List Nd → Prop
  | 0, _ => True
  | h + 1, l => ∀ c ∈ l, At w h c
theorem at_kids {w : World} {h : Nat} {d : Nd} : At w h d ↔ NodeAt w d ∧ KidsAt w h d.kids := by cases h <;> simp [At, KidsAt]
theorem KidsAt.sub {w : World} {h : Nat} {l l' : List Nd} (a : KidsAt w h l) (hs : ∀ x ∈ l', x ∈ l) : KidsAt w h l' := by
  cases h
  · trivial
  · exact fun c hc => a c (hs c hc)
theorem KidsAt.kept {w w' : World} {h : Nat} {l : List Nd} (a : KidsAt w h l) (hk : ∀ k, 0 < kocc h l k → w'.heap[k]? = w.heap[k]?) : KidsAt w' h l := by
  cases h with
  | zero => trivial
  | succ h => exact fun c hc => (a c hc).kept fun k h1 => hk k (Nat.lt_of_lt_of_le h1 (occ_mem hc))
theorem KidsAt.lt {w : World} {h k : Nat} {l : List Nd} (a : KidsAt w h l) (hk : 0 < kocc h l k) : k < w.heap.size := by
  cases h with
  | zero => simp [kocc] at hk
  | succ h =>
    obtain ⟨c, h1, h2⟩ := occs_pos hk
    exact (a c h1).lt h2
/-- What the children are like. -/
def KidsOk (t : Nat) : Nat → Nat → List Nd → Prop
  | 0, _, l => l = []
  | h + 1, n, l => l.length = n + 1 ∧ ∀ c ∈ l, Bal t h c ∧ t - 1 ≤ c.its.length
theorem bal_kids {t h : Nat} {d : Nd} : Bal t h d ↔ KidsOk t h d.its.length d.kids ∧ d.its.length ≤ 2 * t - 1 := by
  cases h
  · simp [Bal, KidsOk]
  · simp only [Bal, KidsOk]
    exact ⟨fun h => ⟨⟨h.1, h.2.2⟩, h.2.1⟩, fun h => ⟨h.1.1, h.2, h.1.2⟩⟩
/-- A node's items, cut at one of them. -/
theorem flat_cat {t h : Nat} {c : Nd} {l r : List It} {m : It} {kl kr : List Nd} (hc : c.its = l ++ m :: r) (hk : c.kids = kl ++ kr) (hl : h = 0 ∨ kl.length = l.length + 1 ∧ 0 < kr.length) (n vi vk n' vi' vk') :
    flat h c = flat h (.mk n vi vk l kl) ++ m :: flat h (.mk n' vi' vk' r kr) := by
  cases h with
  | zero => exact hc
  | succ h =>
    rcases hl with h0 | ⟨h1, h2⟩
    · cases h0
    · show inter c.its (c.kids.map (flat h)) = inter l (kl.map (flat h)) ++ m :: inter r (kr.map (flat h))
      rw [hc, hk, List.map_append]
      exact inter_cat (by simpa using h1) (by simpa using h2)
theorem flat_two {h : Nat} {d : Nd} {i1 i2 : List It} {m : It} {k1 k2 : List Nd} {c' R : Nd} (hi : d.its = i1 ++ m :: i2) (hk : d.kids = k1 ++ c' :: R :: k2) (hl : i1.length = k1.length) :
    flat (h + 1) d = preL (k1.map (flat h)) i1 ++ (flat h c' ++ m :: flat h R) ++ sufL i2 (k2.map (flat h)) := by
  rw [flat_mid (i2 := m :: i2) (k2 := R :: k2) hi hk hl]
  simp
end Go.Proofs.Ytgjcomnljonffaa.Tlv
