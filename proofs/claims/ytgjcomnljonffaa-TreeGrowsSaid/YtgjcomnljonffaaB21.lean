/- Items carried from one child to the next; two children made one: as changes of a tree. -/
import Derived.Test.YtgjcomnljonffaaB20
namespace Go.Proofs.Ytgjcomnljonffaa.Tlv
open Go.RowKit
set_option maxRecDepth 100000
set_option linter.unusedVariables false
set_option linter.unusedSimpArgs false
def Nd.nb (d : Nd) : Nb := ⟨d.n, d.vi, d.vk, d.its, d.kids.map Nd.n⟩
theorem NodeAt.nb {w : World} {d : Nd} (a : NodeAt w d) : NbAt w d.nb := ⟨a.blk, a.its, a.kids⟩
/-- Two children side by side, and the item between them. -/
structure Pair (d : Nd) (i1 : List It) (m : It) (i2 : List It) (k1 : List Nd) (c1 c2 : Nd) (k2 : List Nd) : Prop where
  its : d.its = i1 ++ m :: i2
  kids : d.kids = k1 ++ c1 :: c2 :: k2
  len : i1.length = k1.length
theorem pair_at {t h : Nat} {d : Nd} (b : Bal t (h + 1) d) {i : Nat} (hi : i < d.its.length) : ∃ m c1 c2 k2, Pair d (d.its.take i) m (d.its.drop (i + 1)) (d.kids.take i) c1 c2 k2 ∧ d.kids[i]? = some c1 ∧ d.kids[i + 1]? = some c2 ∧ d.its[i]? = some m := by
  have h1 : d.kids.length = d.its.length + 1 := b.1
  obtain ⟨a, x, r, e, e1, e2⟩ := list_cut (show i < d.kids.length by omega)
  obtain ⟨y, r', rfl⟩ : ∃ y r', r = y :: r' := by
    cases r with
    | nil => simp at e2; omega
    | cons y r' => exact ⟨y, r', rfl⟩
  refine ⟨d.its[i], x, y, r', ⟨by simp, by rw [e, ← e1, List.take_left], by simp; omega⟩, by rw [e, ← e1]; simp, by rw [e, ← e1]; simp, by simp⟩
theorem pair_ns {t h : Nat} {w : World} {d c1 c2 : Nd} {i1 i2 : List It} {m : It} {k1 k2 : List Nd} (a : TS t (h + 1) w d) (p : Pair d i1 m i2 k1 c1 c2 k2) : NS w [d.nb, c1.nb, c2.nb] ∧ ∀ k, own d.n d.vi d.vk k + (occs h k1 k + (occ h c1 k + (occ h c2 k + occs h k2 k))) ≤ 1 := by
  have hsep : ∀ k, own d.n d.vi d.vk k + (occs h k1 k + (occ h c1 k + (occ h c2 k + occs h k2 k))) ≤ 1 := fun k => by
    have := a.sep k
    rw [occ_succ, p.kids] at this
    simpa using this
  refine ⟨⟨fun x hx => ?_, fun k => ?_⟩, hsep⟩
  · have hx' : x = d.nb ∨ x = c1.nb ∨ x = c2.nb := by simpa using hx
    rcases hx' with rfl | rfl | rfl
    · exact a.at'.1.nb
    · exact (a.at'.2 c1 (by rw [p.kids]; simp)).node.nb
    · exact (a.at'.2 c2 (by rw [p.kids]; simp)).node.nb
  · have h0 := hsep k
    have h1 := occ_own h c1 k
    have h2 := occ_own h c2 k
    simp only [owns_cons, owns_nil]
    show own d.n d.vi d.vk k + (own c1.n c1.vi c1.vk k + (own c2.n c2.vi c2.vk k + 0)) ≤ 1
    omega
theorem KidsOk.parts {t h n1 n2 m1 m2 : Nat} {a b a' b' : List Nd} (h1 : KidsOk t h n1 a) (h2 : KidsOk t h n2 b) (e : a' ++ b' = a ++ b) (ha : h = 0 ∨ a'.length = m1 + 1) (hm : m1 + m2 = n1 + n2) : KidsOk t h m1 a' ∧ KidsOk t h m2 b' := by
  cases h with
  | zero =>
    have e1 : a = [] := h1
    have e2 : b = [] := h2
    subst e1 e2
    simp at e
    exact ⟨e.1, e.2⟩
  | succ h =>
    rcases ha with ha | ha
    · cases ha
    · have hlen := congrArg List.length e
      simp at hlen
      have l1 := h1.1
      have l2 := h2.1
      have hall : ∀ c ∈ a' ++ b', Bal t h c ∧ t - 1 ≤ c.its.length := fun c hc => by
        rw [e] at hc
        rcases List.mem_append.1 hc with hc | hc
        · exact h1.2 c hc
        · exact h2.2 c hc
      exact ⟨⟨ha, fun c hc => hall c (by simp [hc])⟩, ⟨by omega, fun c hc => hall c (by simp [hc])⟩⟩
set_option maxHeartbeats 1000000 in
theorem rot_pure {t h : Nat} {d c1 c2 : Nd} {i1 i2 l r : List It} {m m' : It} {k1 k2 a' b' : List Nd} {w w' : World} {vd v1 v2 u1 u2 : Value} (a : TS t (h + 1) w d) (p : Pair d i1 m i2 k1 c1 c2 k2)
    (s : Stps w [d.nb, c1.nb, c2.nb] w' [⟨d.n, vd, d.vk, i1 ++ m' :: i2, d.kids.map Nd.n⟩, ⟨c1.n, v1, u1, l, a'.map Nd.n⟩, ⟨c2.n, v2, u2, r, b'.map Nd.n⟩])
    (ei : l ++ m' :: r = c1.its ++ m :: c2.its) (ek : a' ++ b' = c1.kids ++ c2.kids) (ha : h = 0 ∨ a'.length = l.length + 1 ∧ 0 < b'.length) (hl1 : t - 1 ≤ l.length) (hl2 : t - 1 ≤ r.length) (hm1 : l.length ≤ 2 * t - 1) (hm2 : r.length ≤ 2 * t - 1) :
    ∃ c1' c2' d', Pair d' i1 m' i2 k1 c1' c2' k2 ∧ c1'.its = l ∧ c2'.its = r ∧ c1'.n = c1.n ∧ c2'.n = c2.n ∧ Chg t (h + 1) w d w' d' ∧ flat (h + 1) d' = flat (h + 1) d := by
  obtain ⟨hns, hsep⟩ := pair_ns a p
  have hcm1 : c1 ∈ d.kids := by rw [p.kids]; simp
  have hcm2 : c2 ∈ d.kids := by rw [p.kids]; simp
  have ac1 := a.at'.2 c1 hcm1
  have ac2 := a.at'.2 c2 hcm2
  have b1 := (bal_kids.1 (a.bal.2.2 c1 hcm1).1).1
  have b2 := (bal_kids.1 (a.bal.2.2 c2 hcm2).1).1
  have hlen := congrArg List.length ei
  simp at hlen
  obtain ⟨q1, q2⟩ := b1.parts b2 ek (m1 := l.length) (m2 := r.length) (by rcases ha with h | h; exact .inl h; exact .inr h.1) (by omega)
  have e1 : ∀ k, own c1.n c1.vi c1.vk k + kocc h c1.kids k = occ h c1 k := fun k => (occ_kocc h k c1).symm
  have e2 : ∀ k, own c2.n c2.vi c2.vk k + kocc h c2.kids k = occ h c2 k := fun k => (occ_kocc h k c2).symm
  have e3 : ∀ k, kocc h a' k + kocc h b' k = kocc h c1.kids k + kocc h c2.kids k := fun k => by rw [← kocc_app, ek, kocc_app]
  have ho : ∀ k, owns [d.nb, c1.nb, c2.nb] k = own d.n d.vi d.vk k + (own c1.n c1.vi c1.vk k + own c2.n c2.vi c2.vk k) := fun k => by simp only [owns_cons, owns_nil]; rfl
  have ho' : ∀ k, owns [⟨d.n, vd, d.vk, i1 ++ m' :: i2, d.kids.map Nd.n⟩, ⟨c1.n, v1, u1, l, a'.map Nd.n⟩, ⟨c2.n, v2, u2, r, b'.map Nd.n⟩] k = own d.n vd d.vk k + (own c1.n v1 u1 k + own c2.n v2 u2 k) := fun k => by simp only [owns_cons, owns_nil]; rfl
  have hkids : KidsAt w h (a' ++ b') := by
    rw [ek]
    have k1' := (at_kids.1 ac1).2
    have k2' := (at_kids.1 ac2).2
    cases h with
    | zero => trivial
    | succ h =>
      intro c hc
      rcases List.mem_append.1 hc with hc | hc
      · exact k1' c hc
      · exact k2' c hc
  have hflat : flat (h + 1) (.mk d.n vd d.vk (i1 ++ m' :: i2) (k1 ++ .mk c1.n v1 u1 l a' :: .mk c2.n v2 u2 r b' :: k2)) = flat (h + 1) d := by
    rw [flat_two (c' := .mk c1.n v1 u1 l a') (R := .mk c2.n v2 u2 r b') rfl rfl p.len, flat_two p.its p.kids p.len]
    congr 2
    have hz : h = 0 ∨ c1.kids.length = c1.its.length + 1 ∧ 0 < c2.kids.length := by
      cases h with
      | zero => exact .inl rfl
      | succ h => exact .inr ⟨b1.1, by have := b2.1; omega⟩
    rw [← flat_cat (t := t) (c := .mk 0 (.slice none 0 0) (.slice none 0 0) (c1.its ++ m :: c2.its) (c1.kids ++ c2.kids)) (by exact ei.symm) (by exact ek.symm) ha]
    have := flat_cat (t := t) (c := .mk 0 (.slice none 0 0) (.slice none 0 0) (c1.its ++ m :: c2.its) (c1.kids ++ c2.kids)) (h := h) rfl rfl hz c1.n c1.vi c1.vk c2.n c2.vi c2.vk
    rw [this, ← Nd.eta c1, ← Nd.eta c2]
  have hkeep : ∀ k, k < w.heap.size → own d.n d.vi d.vk k + (own c1.n c1.vi c1.vk k + own c2.n c2.vi c2.vk k) = 0 → w'.heap[k]? = w.heap[k]? := fun k h1 h2 => s.fr.blk k h1 (by rw [ho]; omega)
  have hD := s.ns.at' ⟨d.n, vd, d.vk, i1 ++ m' :: i2, d.kids.map Nd.n⟩ (by simp)
  have h1 := s.ns.at' ⟨c1.n, v1, u1, l, a'.map Nd.n⟩ (by simp)
  have h2 := s.ns.at' ⟨c2.n, v2, u2, r, b'.map Nd.n⟩ (by simp)
  refine ⟨.mk c1.n v1 u1 l a', .mk c2.n v2 u2 r b', .mk d.n vd d.vk (i1 ++ m' :: i2) (k1 ++ .mk c1.n v1 u1 l a' :: .mk c2.n v2 u2 r b' :: k2), ⟨rfl, rfl, p.len⟩, rfl, rfl, rfl, rfl, ⟨⟨⟨⟨hD.blk, hD.ri, ?_⟩, ?_⟩, ?_, ?_, ?_, ?_⟩, rfl, ?_, ?_⟩, hflat⟩
  · have := hD.rk
    rw [p.kids] at this
    simpa [Nd.kids, Nd.n, Nd.vk] using this
  · intro x hx
    have hx' : x ∈ k1 ∨ x = .mk c1.n v1 u1 l a' ∨ x = .mk c2.n v2 u2 r b' ∨ x ∈ k2 := by simpa [Nd.kids] using hx
    have hk3 : ∀ l', (∀ x ∈ l', x ∈ a' ++ b') → (∀ k, kocc h l' k ≤ kocc h c1.kids k + kocc h c2.kids k) → KidsAt w' h l' := fun l' hs hle => (hkids.sub hs).kept fun k hk => hkeep k ((hkids.sub hs).lt hk) (by have := hsep k; have := hle k; have := e1 k; have := e2 k; omega)
    rcases hx' with h3 | rfl | rfl | h3
    · have ax := a.at'.2 x (by rw [p.kids]; simp [h3])
      exact ax.kept fun k hk => hkeep k (ax.lt hk) (by have := hsep k; have := e1 k; have := e2 k; have := occ_mem (h := h) (k := k) h3; omega)
    · exact at_kids.2 ⟨⟨h1.blk, h1.ri, h1.rk⟩, hk3 a' (fun x hx => by simp [hx]) fun k => by have := e3 k; omega⟩
    · exact at_kids.2 ⟨⟨h2.blk, h2.ri, h2.rk⟩, hk3 b' (fun x hx => by simp [hx]) fun k => by have := e3 k; omega⟩
    · have ax := a.at'.2 x (by rw [p.kids]; simp [h3])
      exact ax.kept fun k hk => hkeep k (ax.lt hk) (by have := hsep k; have := e1 k; have := e2 k; have := occ_mem (h := h) (k := k) h3; omega)
  · intro k
    rw [occ_succ]
    simp only [Nd.kids, occs_app, occs_cons]
    rw [occ_kocc h k (.mk c1.n _ _ _ _), occ_kocc h k (.mk c2.n _ _ _ _)]
    show own d.n vd d.vk k + (occs h k1 k + (own c1.n v1 u1 k + kocc h a' k + (own c2.n v2 u2 k + kocc h b' k + occs h k2 k))) ≤ 1
    have g1 := hsep k
    have g2 := e1 k
    have g3 := e2 k
    have g4 := e3 k
    have g5 := s.ns.sep k
    rw [ho'] at g5
    by_cases hk : k < w.heap.size
    · have g6 := s.old k hk
      rw [ho, ho'] at g6
      omega
    · have z1 := occs_zero (h := h) (l := k1) (w := w) (fun x hx => a.at'.2 x (by rw [p.kids]; simp [hx])) hk
      have z2 := occs_zero (h := h) (l := k2) (w := w) (fun x hx => a.at'.2 x (by rw [p.kids]; simp [hx])) hk
      have z3 := own_zero_of ac1 hk
      have z4 := own_zero_of ac2 hk
      omega
  · have hb := a.bal
    have hlk : (k1 ++ c1 :: c2 :: k2).length = (i1 ++ m :: i2).length + 1 := by rw [← p.kids, ← p.its]; exact hb.1
    have hlm := hb.2.1
    rw [p.its] at hlm
    simp at hlk hlm
    refine ⟨by simp [Nd.kids, Nd.its]; omega, by simp [Nd.its]; omega, fun x hx => ?_⟩
    have hx' : x ∈ k1 ∨ x = .mk c1.n v1 u1 l a' ∨ x = .mk c2.n v2 u2 r b' ∨ x ∈ k2 := by simpa [Nd.kids] using hx
    rcases hx' with h3 | rfl | rfl | h3
    · exact hb.2.2 x (by rw [p.kids]; simp [h3])
    · exact ⟨bal_kids.2 ⟨q1, hm1⟩, hl1⟩
    · exact ⟨bal_kids.2 ⟨q2, hm2⟩, hl2⟩
    · exact hb.2.2 x (by rw [p.kids]; simp [h3])
  · rw [hflat]
    refine a.keys.fr s.fr fun k _ h3 => a.at'.typed (k := k) ?_
    rw [ho] at h3
    have g2 := e1 k
    have g3 := e2 k
    rw [occ_succ, p.kids]
    simp only [occs_app, occs_cons]
    omega
  · rw [hflat]; exact a.srt
  · refine s.fr.mono fun k _ h3 => ?_
    rw [ho] at h3
    have g2 := e1 k
    have g3 := e2 k
    rw [occ_succ, p.kids]
    simp only [occs_app, occs_cons]
    omega
  · intro k hk
    rw [occ_succ, occ_succ, p.kids]
    simp only [Nd.kids, occs_app, occs_cons]
    rw [occ_kocc h k (.mk c1.n _ _ _ _), occ_kocc h k (.mk c2.n _ _ _ _)]
    show own d.n vd d.vk k + (occs h k1 k + (own c1.n v1 u1 k + kocc h a' k + (own c2.n v2 u2 k + kocc h b' k + occs h k2 k))) ≤ _
    have g2 := e1 k
    have g3 := e2 k
    have g4 := e3 k
    have g6 := s.old k hk
    rw [ho, ho'] at g6
    omega
set_option maxHeartbeats 1000000 in
theorem join_pure {t h : Nat} {d c1 c2 : Nd} {i1 i2 : List It} {m : It} {k1 k2 : List Nd} {w w' : World} {vd ud v1 u1 : Value} {y : Nb} (a : TS t (h + 1) w d) (p : Pair d i1 m i2 k1 c1 c2 k2)
    (s : Stps w [d.nb, c1.nb, c2.nb] w' [⟨d.n, vd, ud, i1 ++ i2, (k1 ++ c1 :: k2).map Nd.n⟩, ⟨c1.n, v1, u1, c1.its ++ m :: c2.its, (c1.kids ++ c2.kids).map Nd.n⟩, y])
    (hm1 : c1.its.length + c2.its.length + 1 ≤ 2 * t - 1) :
    ∃ c1' d', Place d' i1 i2 k1 c1' k2 ∧ c1'.its = c1.its ++ m :: c2.its ∧ c1'.n = c1.n ∧ Chg t (h + 1) w d w' d' ∧ flat (h + 1) d' = flat (h + 1) d := by
  obtain ⟨hns, hsep⟩ := pair_ns a p
  have hcm1 : c1 ∈ d.kids := by rw [p.kids]; simp
  have hcm2 : c2 ∈ d.kids := by rw [p.kids]; simp
  have ac1 := a.at'.2 c1 hcm1
  have ac2 := a.at'.2 c2 hcm2
  have b1 := (bal_kids.1 (a.bal.2.2 c1 hcm1).1).1
  have b2 := (bal_kids.1 (a.bal.2.2 c2 hcm2).1).1
  have l1 := a.kidLen (k1 := k1) (c := c1) (k2 := c2 :: k2) (by exact p.kids)
  have e1 : ∀ k, own c1.n c1.vi c1.vk k + kocc h c1.kids k = occ h c1 k := fun k => (occ_kocc h k c1).symm
  have e2 : ∀ k, own c2.n c2.vi c2.vk k + kocc h c2.kids k = occ h c2 k := fun k => (occ_kocc h k c2).symm
  have ho : ∀ k, owns [d.nb, c1.nb, c2.nb] k = own d.n d.vi d.vk k + (own c1.n c1.vi c1.vk k + own c2.n c2.vi c2.vk k) := fun k => by simp only [owns_cons, owns_nil]; rfl
  have ho' : ∀ k, owns [⟨d.n, vd, ud, i1 ++ i2, (k1 ++ c1 :: k2).map Nd.n⟩, ⟨c1.n, v1, u1, c1.its ++ m :: c2.its, (c1.kids ++ c2.kids).map Nd.n⟩, y] k = own d.n vd ud k + (own c1.n v1 u1 k + y.own k) := fun k => by simp only [owns_cons, owns_nil]; rfl
  have hkids : KidsAt w h (c1.kids ++ c2.kids) := by
    have k1' := (at_kids.1 ac1).2
    have k2' := (at_kids.1 ac2).2
    cases h with
    | zero => trivial
    | succ h =>
      intro c hc
      rcases List.mem_append.1 hc with hc | hc
      · exact k1' c hc
      · exact k2' c hc
  have hflat : flat (h + 1) (.mk d.n vd ud (i1 ++ i2) (k1 ++ .mk c1.n v1 u1 (c1.its ++ m :: c2.its) (c1.kids ++ c2.kids) :: k2)) = flat (h + 1) d := by
    rw [flat_mid (c := .mk c1.n v1 u1 (c1.its ++ m :: c2.its) (c1.kids ++ c2.kids)) (i1 := i1) (i2 := i2) rfl rfl p.len, flat_two p.its p.kids p.len]
    congr 2
    have hz : h = 0 ∨ c1.kids.length = c1.its.length + 1 ∧ 0 < c2.kids.length := by
      cases h with
      | zero => exact .inl rfl
      | succ h => exact .inr ⟨b1.1, by have := b2.1; omega⟩
    have := flat_cat (t := t) (c := .mk c1.n v1 u1 (c1.its ++ m :: c2.its) (c1.kids ++ c2.kids)) (h := h) rfl rfl hz c1.n c1.vi c1.vk c2.n c2.vi c2.vk
    rw [this, ← Nd.eta c1, ← Nd.eta c2]
  have hkeep : ∀ k, k < w.heap.size → own d.n d.vi d.vk k + (own c1.n c1.vi c1.vk k + own c2.n c2.vi c2.vk k) = 0 → w'.heap[k]? = w.heap[k]? := fun k h1 h2 => s.fr.blk k h1 (by rw [ho]; omega)
  have hD := s.ns.at' ⟨d.n, vd, ud, i1 ++ i2, (k1 ++ c1 :: k2).map Nd.n⟩ (by simp)
  have h1 := s.ns.at' ⟨c1.n, v1, u1, c1.its ++ m :: c2.its, (c1.kids ++ c2.kids).map Nd.n⟩ (by simp)
  refine ⟨.mk c1.n v1 u1 (c1.its ++ m :: c2.its) (c1.kids ++ c2.kids), .mk d.n vd ud (i1 ++ i2) (k1 ++ .mk c1.n v1 u1 (c1.its ++ m :: c2.its) (c1.kids ++ c2.kids) :: k2), ⟨rfl, rfl, p.len⟩, rfl, rfl, ⟨⟨⟨⟨hD.blk, hD.ri, ?_⟩, ?_⟩, ?_, ?_, ?_, ?_⟩, rfl, ?_, ?_⟩, hflat⟩
  · have := hD.rk
    simpa [Nd.kids, Nd.n, Nd.vk] using this
  · intro x hx
    have hx' : x ∈ k1 ∨ x = .mk c1.n v1 u1 (c1.its ++ m :: c2.its) (c1.kids ++ c2.kids) ∨ x ∈ k2 := by simpa [Nd.kids] using hx
    rcases hx' with h3 | rfl | h3
    · have ax := a.at'.2 x (by rw [p.kids]; simp [h3])
      exact ax.kept fun k hk => hkeep k (ax.lt hk) (by have := hsep k; have := e1 k; have := e2 k; have := occ_mem (h := h) (k := k) h3; omega)
    · refine at_kids.2 ⟨⟨h1.blk, h1.ri, h1.rk⟩, ?_⟩
      exact hkids.kept fun k hk => hkeep k (hkids.lt hk) (by rw [kocc_app] at hk; have := hsep k; have := e1 k; have := e2 k; omega)
    · have ax := a.at'.2 x (by rw [p.kids]; simp [h3])
      exact ax.kept fun k hk => hkeep k (ax.lt hk) (by have := hsep k; have := e1 k; have := e2 k; have := occ_mem (h := h) (k := k) h3; omega)
  · intro k
    rw [occ_succ]
    simp only [Nd.kids, occs_app, occs_cons]
    rw [occ_kocc h k (.mk c1.n _ _ _ _)]
    show own d.n vd ud k + (occs h k1 k + (own c1.n v1 u1 k + kocc h (c1.kids ++ c2.kids) k + occs h k2 k)) ≤ 1
    rw [kocc_app]
    have g1 := hsep k
    have g2 := e1 k
    have g3 := e2 k
    have g5 := s.ns.sep k
    rw [ho'] at g5
    by_cases hk : k < w.heap.size
    · have g6 := s.old k hk
      rw [ho, ho'] at g6
      omega
    · have z1 := occs_zero (h := h) (l := k1) (w := w) (fun x hx => a.at'.2 x (by rw [p.kids]; simp [hx])) hk
      have z2 := occs_zero (h := h) (l := k2) (w := w) (fun x hx => a.at'.2 x (by rw [p.kids]; simp [hx])) hk
      have z3 := own_zero_of ac1 hk
      have z4 := own_zero_of ac2 hk
      omega
  · have hb := a.bal
    have hlk : (k1 ++ c1 :: c2 :: k2).length = (i1 ++ m :: i2).length + 1 := by rw [← p.kids, ← p.its]; exact hb.1
    have hlm := hb.2.1
    rw [p.its] at hlm
    simp at hlk hlm
    refine ⟨by simp [Nd.kids, Nd.its]; omega, by simp [Nd.its]; omega, fun x hx => ?_⟩
    have hx' : x ∈ k1 ∨ x = .mk c1.n v1 u1 (c1.its ++ m :: c2.its) (c1.kids ++ c2.kids) ∨ x ∈ k2 := by simpa [Nd.kids] using hx
    rcases hx' with h3 | rfl | h3
    · exact hb.2.2 x (by rw [p.kids]; simp [h3])
    · have hl : (c1.its ++ m :: c2.its).length = c1.its.length + c2.its.length + 1 := by simp; omega
      refine ⟨bal_kids.2 ⟨?_, by show (c1.its ++ m :: c2.its).length ≤ _; omega⟩, by show _ ≤ (c1.its ++ m :: c2.its).length; omega⟩
      show KidsOk t h (c1.its ++ m :: c2.its).length (c1.kids ++ c2.kids)
      rw [hl]
      cases h with
      | zero =>
        have q1 : c1.kids = [] := b1
        have q2 : c2.kids = [] := b2
        rw [q1, q2]
        rfl
      | succ h =>
        refine ⟨by have := b1.1; have := b2.1; simp; omega, fun x hx => ?_⟩
        rcases List.mem_append.1 hx with hx | hx
        · exact b1.2 x hx
        · exact b2.2 x hx
    · exact hb.2.2 x (by rw [p.kids]; simp [h3])
  · rw [hflat]
    refine a.keys.fr s.fr fun k _ h3 => a.at'.typed (k := k) ?_
    rw [ho] at h3
    have g2 := e1 k
    have g3 := e2 k
    rw [occ_succ, p.kids]
    simp only [occs_app, occs_cons]
    omega
  · rw [hflat]; exact a.srt
  · refine s.fr.mono fun k _ h3 => ?_
    rw [ho] at h3
    have g2 := e1 k
    have g3 := e2 k
    rw [occ_succ, p.kids]
    simp only [occs_app, occs_cons]
    omega
  · intro k hk
    rw [occ_succ, occ_succ, p.kids]
    simp only [Nd.kids, occs_app, occs_cons]
    rw [occ_kocc h k (.mk c1.n _ _ _ _)]
    show own d.n vd ud k + (occs h k1 k + (own c1.n v1 u1 k + kocc h (c1.kids ++ c2.kids) k + occs h k2 k)) ≤ _
    rw [kocc_app]
    have g2 := e1 k
    have g3 := e2 k
    have g6 := s.old k hk
    rw [ho, ho'] at g6
    omega
end Go.Proofs.Ytgjcomnljonffaa.Tlv
