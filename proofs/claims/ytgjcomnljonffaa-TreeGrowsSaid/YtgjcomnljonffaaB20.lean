/- Some nodes side by side, each changed in its turn. -/
import Derived.Test.YtgjcomnljonffaaB19
namespace Go.Proofs.Ytgjcomnljonffaa.Tlv
open Go.RowKit
set_option maxRecDepth 100000
set_option linter.unusedVariables false
set_option linter.unusedSimpArgs false
/-- A node with its children's blocks alone. -/
structure Nb where
  n : Nat
  vi : Value
  vk : Value
  its : List It
  ks : List Nat
structure NbAt (w : World) (x : Nb) : Prop where
  blk : Blk w x.n 59 #[x.vi, x.vk]
  ri : RowK kI w 0 x.vi x.its
  rk : RowK kP w 0 x.vk x.ks
abbrev Nb.own (x : Nb) (k : Nat) : Nat := Tlv.own x.n x.vi x.vk k
def owns (l : List Nb) (k : Nat) : Nat := (l.map fun x => x.own k).sum
@[simp] theorem owns_nil (k : Nat) : owns [] k = 0 := rfl
@[simp] theorem owns_cons (k : Nat) (x : Nb) (l : List Nb) : owns (x :: l) k = x.own k + owns l k := by simp [owns]
@[simp] theorem owns_app (k : Nat) (a b : List Nb) : owns (a ++ b) k = owns a k + owns b k := by simp [owns]
structure NS (w : World) (l : List Nb) : Prop where
  at' : ∀ x ∈ l, NbAt w x
  sep : ∀ k, owns l k ≤ 1
theorem NbAt.typed {w : World} {x : Nb} (a : NbAt w x) {k : Nat} (hk : 0 < x.own k) : ∃ t cs, Blk w k t cs ∧ (t = 59 ∨ t = 69 ∨ t = 55) := by
  rcases own_pos.1 hk with rfl | h | h
  · exact ⟨_, _, a.blk, .inl rfl⟩
  · obtain ⟨cs, h1⟩ := a.ri.own_blk h
    exact ⟨_, _, h1, .inr (.inl rfl)⟩
  · obtain ⟨cs, h1⟩ := a.rk.own_blk h
    exact ⟨_, _, h1, .inr (.inr rfl)⟩
theorem NbAt.lt {w : World} {x : Nb} (a : NbAt w x) {k : Nat} (hk : 0 < x.own k) : k < w.heap.size := by
  obtain ⟨t, cs, h, _⟩ := a.typed hk
  exact h.lt
theorem NbAt.kept {w w' : World} {x : Nb} (a : NbAt w x) (hk : ∀ k, 0 < x.own k → w'.heap[k]? = w.heap[k]?) : NbAt w' x :=
  ⟨(hk _ (own_pos.2 (.inl rfl))).trans a.blk, a.ri.kept' fun k h => hk k (own_pos.2 (.inr (.inl h))), a.rk.kept' fun k h => hk k (own_pos.2 (.inr (.inr h)))⟩
theorem owns_mem {l : List Nb} {x : Nb} (hx : x ∈ l) (k : Nat) : x.own k ≤ owns l k := by
  obtain ⟨a, b, rfl⟩ := List.append_of_mem hx
  simp
  omega
theorem NS.on {w w' : World} {l : List Nb} (a : NS w l) (hb : Below w.heap.size w w') : NS w' l := ⟨fun x hx => (a.at' x hx).kept fun k hk => hb.block k ((a.at' x hx).lt hk), a.sep⟩
theorem NS.zero {w : World} {l : List Nb} (a : NS w l) {k : Nat} (hk : ¬ k < w.heap.size) : owns l k = 0 := by
  rcases Nat.eq_zero_or_pos (owns l k) with h | h
  · exact h
  · exfalso
    have : ∃ x ∈ l, 0 < x.own k := by
      clear a
      induction l with
      | nil => simp at h
      | cons y l ih =>
        rw [owns_cons] at h
        by_cases h1 : 0 < y.own k
        · exact ⟨y, by simp, h1⟩
        · obtain ⟨x, h2, h3⟩ := ih (by omega)
          exact ⟨x, by simp [h2], h3⟩
    obtain ⟨x, h1, h2⟩ := this
    exact hk ((a.at' x h1).lt h2)
/-- One node is changed. -/
structure Stp (w : World) (x : Nb) (w' : World) (x' : Nb) : Prop where
  at' : NbAt w' x'
  n : x'.n = x.n
  fr : Fr (fun k => 0 < x.own k) w w'
  old : ∀ k, k < w.heap.size → x'.own k ≤ x.own k
  one : ∀ k, x'.own k ≤ 1
/-- Some nodes are changed. -/
structure Stps (w : World) (l : List Nb) (w' : World) (l' : List Nb) : Prop where
  ns : NS w' l'
  fr : Fr (fun k => 0 < owns l k) w w'
  old : ∀ k, k < w.heap.size → owns l' k ≤ owns l k
theorem Stps.below {w w' : World} {l : List Nb} (a : NS w l) (hb : Below w.heap.size w w') : Stps w l w' l := ⟨a.on hb, Fr.of hb, fun _ _ => Nat.le_refl _⟩
theorem Stps.trans {w w1 w2 : World} {l l1 l2 : List Nb} (a : Stps w l w1 l1) (b : Stps w1 l1 w2 l2) : Stps w l w2 l2 :=
  ⟨b.ns, a.fr.trans' b.fr fun k hk h1 => by have := a.old k hk; omega, fun k hk => Nat.le_trans (b.old k (Nat.lt_of_lt_of_le hk a.fr.bel.size)) (a.old k hk)⟩
theorem Stp.all {w w' : World} {a b : List Nb} {x x' : Nb} (h : NS w (a ++ x :: b)) (s : Stp w x w' x') : Stps w (a ++ x :: b) w' (a ++ x' :: b) := by
  have hsep : ∀ k, owns a k + (x.own k + owns b k) ≤ 1 := fun k => by have := h.sep k; simpa using this
  refine ⟨⟨fun y hy => ?_, fun k => ?_⟩, s.fr.mono fun k _ h1 => by simp; omega, fun k hk => by have := s.old k hk; simp; omega⟩
  · have hy' : y ∈ a ∨ y = x' ∨ y ∈ b := by simpa using hy
    rcases hy' with h1 | rfl | h1
    · have ay := h.at' y (by simp [h1])
      exact ay.kept fun k hk => s.fr.blk k (ay.lt hk) (by have := hsep k; have := owns_mem h1 k; omega)
    · exact s.at'
    · have ay := h.at' y (by simp [h1])
      exact ay.kept fun k hk => s.fr.blk k (ay.lt hk) (by have := hsep k; have := owns_mem h1 k; omega)
  · have h1 := hsep k
    simp only [owns_app, owns_cons]
    by_cases hk : k < w.heap.size
    · have := s.old k hk
      omega
    · have h2 := h.zero hk
      simp only [owns_app, owns_cons] at h2
      have := s.one k
      omega
/-- A node's items are written anew. -/
theorem stp_its {w w4 : World} {x : Nb} {vi : Value} {its : List It} (a : NbAt w x) (hs : ∀ k, x.own k ≤ 1) (f : Fr (fun k => x.vi.ownBlock = some k) w w4) (hr : RowK kI w4 0 vi its) (ho : vi.ownBlock = x.vi.ownBlock ∨ ∃ k, vi.ownBlock = some k ∧ w.heap.size ≤ k) :
    Stp w x (w4.setCell ⟨x.n, 0, none⟩ vi) { x with vi := vi, its := its } := by
  have hb4 : Blk w4 x.n 59 #[x.vi, x.vk] := f.b a.blk fun h => by
    obtain ⟨cs, q⟩ := a.ri.own_blk h
    exact absurd (blk_ty a.blk q) (by decide)
  have hfar : ∀ {α : Type} {K : Kind α} {v : Value} {l : List α}, RowK K w4 0 v l → K.e ≠ 59 → RowK K (w4.setCell ⟨x.n, 0, none⟩ vi) 0 v l := fun hr h59 => hr.kept' fun k hk => Below.heap_setCell _ _ _ _ (fun e => by
    obtain ⟨cs, q⟩ := hr.own_blk hk
    rw [e] at q
    exact h59 (blk_ty q hb4))
  have hk4 : RowK kP w4 0 x.vk x.ks := a.rk.kept' fun k hk => by
    obtain ⟨cs, q⟩ := a.rk.own_blk hk
    exact f.blk k q.lt fun h => by
      obtain ⟨cs', q'⟩ := a.ri.own_blk h
      exact absurd (blk_ty q q') (by decide)
  refine ⟨⟨by simpa using hb4.set_ 0 vi, hfar hr (by decide), hfar hk4 (by decide)⟩, rfl, Fr.set (S := fun k => 0 < x.own k) (f.mono fun k _ h => own_pos.2 (.inr (.inl h))) (own_pos.2 (.inl rfl)) _, fun k hk => ?_, fun k => ?_⟩
  · show own x.n vi x.vk k ≤ own x.n x.vi x.vk k
    rw [own_eq, own_eq]
    have := own1_new ho hk
    omega
  · show own x.n vi x.vk k ≤ 1
    have h1 := hs k
    have h2 : own x.n x.vi x.vk k = x.own k := rfl
    rw [← h2, own_eq] at h1
    rw [own_eq]
    by_cases hk : k < w.heap.size
    · have := own1_new ho hk
      omega
    · have z1 : ¬ x.n = k := fun e => hk (by rw [← e]; exact a.blk.lt)
      have z2 : own1 x.vk k = 0 := by
        rcases Nat.eq_zero_or_pos (own1 x.vk k) with h3 | h3
        · exact h3
        · obtain ⟨cs, q⟩ := a.rk.own_blk (own1_pos.1 h3)
          exact absurd q.lt hk
      have := own1_le vi k
      rw [if_neg z1, z2]
      omega
/-- A node's children are written anew. -/
theorem stp_ks {w w4 : World} {x : Nb} {vk : Value} {ks : List Nat} (a : NbAt w x) (hs : ∀ k, x.own k ≤ 1) (f : Fr (fun k => x.vk.ownBlock = some k) w w4) (hr : RowK kP w4 0 vk ks) (ho : vk.ownBlock = x.vk.ownBlock ∨ ∃ k, vk.ownBlock = some k ∧ w.heap.size ≤ k) :
    Stp w x (w4.setCell ⟨x.n, 1, none⟩ vk) { x with vk := vk, ks := ks } := by
  have hb4 : Blk w4 x.n 59 #[x.vi, x.vk] := f.b a.blk fun h => by
    obtain ⟨cs, q⟩ := a.rk.own_blk h
    exact absurd (blk_ty a.blk q) (by decide)
  have hfar : ∀ {α : Type} {K : Kind α} {v : Value} {l : List α}, RowK K w4 0 v l → K.e ≠ 59 → RowK K (w4.setCell ⟨x.n, 1, none⟩ vk) 0 v l := fun hr h59 => hr.kept' fun k hk => Below.heap_setCell _ _ _ _ (fun e => by
    obtain ⟨cs, q⟩ := hr.own_blk hk
    rw [e] at q
    exact h59 (blk_ty q hb4))
  have hi4 : RowK kI w4 0 x.vi x.its := a.ri.kept' fun k hk => by
    obtain ⟨cs, q⟩ := a.ri.own_blk hk
    exact f.blk k q.lt fun h => by
      obtain ⟨cs', q'⟩ := a.rk.own_blk h
      exact absurd (blk_ty q q') (by decide)
  refine ⟨⟨by simpa using hb4.set_ 1 vk, hfar hi4 (by decide), hfar hr (by decide)⟩, rfl, Fr.set (S := fun k => 0 < x.own k) (f.mono fun k _ h => own_pos.2 (.inr (.inr h))) (own_pos.2 (.inl rfl)) _, fun k hk => ?_, fun k => ?_⟩
  · show own x.n x.vi vk k ≤ own x.n x.vi x.vk k
    rw [own_eq, own_eq]
    have := own1_new ho hk
    omega
  · show own x.n x.vi vk k ≤ 1
    have h1 := hs k
    have h2 : own x.n x.vi x.vk k = x.own k := rfl
    rw [← h2, own_eq] at h1
    rw [own_eq]
    by_cases hk : k < w.heap.size
    · have := own1_new ho hk
      omega
    · have z1 : ¬ x.n = k := fun e => hk (by rw [← e]; exact a.blk.lt)
      have z2 : own1 x.vi k = 0 := by
        rcases Nat.eq_zero_or_pos (own1 x.vi k) with h3 | h3
        · exact h3
        · obtain ⟨cs, q⟩ := a.ri.own_blk (own1_pos.1 h3)
          exact absurd q.lt hk
      have := own1_le vk k
      rw [if_neg z1, z2]
      omega
/-- An item of a node is written anew, in its place. -/
theorem RowK.setItem {w : World} {base n c g : Nat} {i1 i2 : List It} {x y : It} (h : RowK kI w base (.slice (some ⟨g, 0, none⟩) n c) (i1 ++ x :: i2)) :
    RowK kI ((w.setCell ⟨g, i1.length * 2, none⟩ (.slice y.A y.k.length y.c)).setCell ⟨g, i1.length * 2 + 1, none⟩ (.int .i64 y.v)) base (.slice (some ⟨g, 0, none⟩) n c) (i1 ++ y :: i2) := by
  obtain ⟨hn, h0 | ⟨g', cur, e, hb, hg, h1, h2, h3, h4⟩⟩ := h.cases
  · cases h0.1
  · cases e
    have hl : (i1 ++ y :: i2).length = n := by rw [hn]; simp
    have hg' := (hg.set_ (i1.length * 2) (.slice y.A y.k.length y.c)).set_ (i1.length * 2 + 1) (.int .i64 y.v)
    rw [← hl]
    refine RowK.mk' (cur := (cur.set (i1.length * 2) (.slice y.A y.k.length y.c)).set (i1.length * 2 + 1) (.int .i64 y.v)) hb (by simpa using hg') (by omega) h2 (by simpa using h3) ?_
    rw [hl]
    have e1 : flatK kI (i1 ++ x :: i2) = flatK kI i1 ++ ([.slice x.A x.k.length x.c, .int .i64 x.v] ++ flatK kI i2) := by simp [flatK, kI]
    have e2 : flatK kI (i1 ++ y :: i2) = flatK kI i1 ++ ([.slice y.A y.k.length y.c, .int .i64 y.v] ++ flatK kI i2) := by simp [flatK, kI]
    have hla : (flatK kI i1).length = i1.length * 2 := flat_length kI i1
    rw [List.take_set, List.take_set, h4, e1, e2]
    rw [List.set_append_right _ _ (by omega), List.set_append_right _ _ (by omega)]
    congr 1
    rw [hla, Nat.sub_self, show i1.length * 2 + 1 - i1.length * 2 = 1 by omega]
    rfl
theorem stp_item {w : World} {x : Nb} {i1 i2 : List It} {z y : It} {g n c : Nat} (a : NbAt w x) (hs : ∀ k, x.own k ≤ 1) (hi : x.its = i1 ++ z :: i2) (hv : x.vi = .slice (some ⟨g, 0, none⟩) n c) :
    Stp w x ((w.setCell ⟨g, i1.length * 2, none⟩ (.slice y.A y.k.length y.c)).setCell ⟨g, i1.length * 2 + 1, none⟩ (.int .i64 y.v)) { x with its := i1 ++ y :: i2 } := by
  have hgo : x.vi.ownBlock = some g := by rw [hv]; rfl
  obtain ⟨cs, q⟩ := a.ri.own_blk hgo
  have hne : ∀ k t cs', Blk w k t cs' → t ≠ 69 → k ≠ g := fun k t cs' q' h1 e => by rw [e] at q'; exact h1 (blk_ty q' q)
  have hkp : ∀ k t cs', Blk w k t cs' → t ≠ 69 → ((w.setCell ⟨g, i1.length * 2, none⟩ (.slice y.A y.k.length y.c)).setCell ⟨g, i1.length * 2 + 1, none⟩ (.int .i64 y.v)).heap[k]? = w.heap[k]? := fun k t cs' q' h1 => by
    rw [Below.heap_setCell _ _ _ _ (hne k t cs' q' h1), Below.heap_setCell _ _ _ _ (hne k t cs' q' h1)]
  refine ⟨⟨(hkp _ _ _ a.blk (by decide)).trans a.blk, ?_, a.rk.kept' fun k hk => ?_⟩, rfl, Fr.set (S := fun k => 0 < x.own k) (Fr.set (S := fun k => 0 < x.own k) (Fr.refl w) (own_pos.2 (.inr (.inl hgo))) _) (own_pos.2 (.inr (.inl hgo))) _, fun k _ => Nat.le_refl _, hs⟩
  · have hr := a.ri
    rw [hi] at hr
    show RowK kI _ 0 x.vi (i1 ++ y :: i2)
    rw [hv] at hr ⊢
    exact hr.setItem
  · obtain ⟨cs', q'⟩ := a.rk.own_blk hk
    exact hkp k _ _ q' (by decide)
end Go.Proofs.Ytgjcomnljonffaa.Tlv
