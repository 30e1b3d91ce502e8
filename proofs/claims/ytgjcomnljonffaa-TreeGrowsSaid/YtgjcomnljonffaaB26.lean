/- fromLeft, fromRight, join, of a tree. -/
import Derived.Test.YtgjcomnljonffaaB24
namespace Go.Proofs.Ytgjcomnljonffaa.Tlv
open Go.RowKit
set_option maxRecDepth 100000
set_option linter.unusedVariables false
set_option linter.unusedSimpArgs false
theorem list_last {α : Type} {l : List α} (h : 1 ≤ l.length) : ∃ a x, l = a ++ [x] ∧ a.length + 1 = l.length := by
  obtain ⟨a, x, b, e, e1, e2⟩ := list_cut (show l.length - 1 < l.length by omega)
  have : b = [] := List.eq_nil_of_length_eq_zero (by omega)
  subst this
  exact ⟨a, x, e, by omega⟩
theorem list_first {α : Type} {l : List α} (h : 1 ≤ l.length) : ∃ x a, l = x :: a := by
  cases l with
  | nil => simp at h
  | cons x a => exact ⟨x, a, rfl⟩
/-- What is so of two children side by side, in numbers. -/
structure PairNum (t h : Nat) (d c1 c2 : Nd) : Prop where
  d1 : d.its.length ≤ 127
  d2 : d.kids.length ≤ 128
  a1 : c1.its.length ≤ 127
  a2 : c2.its.length ≤ 127
  b1 : c1.kids.length ≤ 128
  b2 : c2.kids.length ≤ 128
theorem pair_num {t h : Nat} {w : World} {d c1 c2 : Nd} {i1 i2 : List It} {m : It} {k1 k2 : List Nd} (a : TS t (h + 1) w d) (p : Pair d i1 m i2 k1 c1 c2 k2) (ht : 2 ≤ t ∧ t ≤ 64) : PairNum t h d c1 c2 := by
  have hb := a.bal
  have h1 := hb.2.1
  have h2 : d.kids.length = d.its.length + 1 := hb.1
  have q1 := (hb.2.2 c1 (by rw [p.kids]; simp)).1
  have q2 := (hb.2.2 c2 (by rw [p.kids]; simp)).1
  have m1 := q1.most
  have m2 := q2.most
  have hk : ∀ c : Nd, Bal t h c → c.kids.length ≤ c.its.length + 1 := fun c q => by
    cases h with
    | zero => have : c.kids = [] := q.1; rw [this]; simp
    | succ h => exact Nat.le_of_eq q.1
  have := hk c1 q1
  have := hk c2 q2
  exact ⟨by omega, by omega, by omega, by omega, by omega, by omega⟩
def FlChg (t h : Nat) (d : Nd) (i1 i2 : List It) (m : It) (k1 : List Nd) (c1 c2 : Nd) (k2 : List Nd) (w : World) (e : Ending) (w' : World) : Prop :=
  e = .returned (.tuple #[]) ∧ ∃ z l c1' c2' d', c1.its = l ++ [z] ∧ Pair d' i1 z i2 k1 c1' c2' k2 ∧ c1'.its = l ∧ c2'.its = m :: c2.its ∧ c2'.n = c2.n ∧ Chg t (h + 1) w d w' d' ∧ flat (h + 1) d' = flat (h + 1) d
def FrChg (t h : Nat) (d : Nd) (i1 i2 : List It) (m : It) (k1 : List Nd) (c1 c2 : Nd) (k2 : List Nd) (w : World) (e : Ending) (w' : World) : Prop :=
  e = .returned (.tuple #[]) ∧ ∃ z r c1' c2' d', c2.its = z :: r ∧ Pair d' i1 z i2 k1 c1' c2' k2 ∧ c1'.its = c1.its ++ [m] ∧ c2'.its = r ∧ c1'.n = c1.n ∧ Chg t (h + 1) w d w' d' ∧ flat (h + 1) d' = flat (h + 1) d
def JoChg (t h : Nat) (d : Nd) (i1 i2 : List It) (m : It) (k1 : List Nd) (c1 c2 : Nd) (k2 : List Nd) (w : World) (e : Ending) (w' : World) : Prop :=
  e = .returned (.tuple #[]) ∧ ∃ c1' d', Place d' i1 i2 k1 c1' k2 ∧ c1'.its = c1.its ++ m :: c2.its ∧ c1'.n = c1.n ∧ Chg t (h + 1) w d w' d' ∧ flat (h + 1) d' = flat (h + 1) d
theorem fl_chg {t h : Nat} {w : World} {d c1 c2 : Nd} {i1 i2 : List It} {m : It} {k1 k2 : List Nd} (a : TS t (h + 1) w d) (p : Pair d i1 m i2 k1 c1 c2 k2) (ht : 2 ≤ t ∧ t ≤ 64) (hs : t ≤ c1.its.length) (hl : c2.its.length = t - 1) :
    Calls Try.prog 53 #[.pointer (some ⟨d.n, 0, none⟩), .int .i64 ((i1.length : Int) + 1)] w (FlChg t h d i1 i2 m k1 c1 c2 k2 w) := by
  obtain ⟨hns, _⟩ := pair_ns a p
  have hn := pair_num a p ht
  have hm1 := (a.bal.2.2 c1 (by rw [p.kids]; simp)).1.most
  obtain ⟨l, z, hc1, hl1⟩ := list_last (show 1 ≤ c1.its.length by omega)
  have q1 := (a.bal.2.2 c1 (by rw [p.kids]; simp)).1
  have q2 := (a.bal.2.2 c2 (by rw [p.kids]; simp)).1
  have hks : d.nb.ks = k1.map Nd.n ++ c1.n :: c2.n :: k2.map Nd.n := by show d.kids.map Nd.n = _; rw [p.kids]; simp
  have hi : i1.length ≤ 200 := by have := hn.d1; rw [p.its] at this; simp at this; omega
  have hkl : ∀ c : Nd, (c.nb.ks).length = c.kids.length := fun c => by show (c.kids.map Nd.n).length = _; simp
  cases h with
  | zero =>
    have e1 : c1.kids = [] := q1.1
    have e2 : c2.kids = [] := q2.1
    refine (fromLeft_leaf i1.length d.nb c1.nb c2.nb i1 i2 l m z (k1.map Nd.n) (k2.map Nd.n) w hns p.its rfl hks (by simp [p.len]) hi hc1 (Nat.le_trans hn.a1 (by decide)) (Nat.le_trans hn.a2 (by decide)) (by rw [hkl, e1]; simp) (by rw [hkl, e2]; simp) (Nat.le_trans hn.d1 (by decide)) (by rw [hkl]; exact Nat.le_trans hn.d2 (by decide)) ⟨by show c1.kids.map Nd.n = []; rw [e1]; rfl, by show c2.kids.map Nd.n = []; rw [e2]; rfl⟩).mono ?_
    rintro e w' ⟨rfl, vP, v1, u1, v2, u2, s⟩
    obtain ⟨c1', c2', d', y1, y2, y3, y4, y5, y6, y7⟩ := rot_pure (l := l) (r := m :: c2.its) (m' := z) (a' := []) (b' := []) a p s (by rw [hc1]; simp) (by rw [e1, e2]) (.inl rfl) (by omega) (by simp; omega) (by omega) (by simp; omega)
    exact ⟨rfl, z, l, c1', c2', d', hc1, y1, y2, y3, y5, y6, y7⟩
  | succ h =>
    have e1 : c1.kids.length = c1.its.length + 1 := q1.1
    have e2 : c2.kids.length = c2.its.length + 1 := q2.1
    obtain ⟨kk, x, hx, hx1⟩ := list_last (show 1 ≤ c1.kids.length by omega)
    refine (fromLeft_inner i1.length d.nb c1.nb c2.nb i1 i2 l m z (kk.map Nd.n) x.n (k1.map Nd.n) (k2.map Nd.n) w hns p.its rfl hks (by simp [p.len]) hi hc1 (Nat.le_trans hn.a1 (by decide)) (Nat.le_trans hn.a2 (by decide)) (by rw [hkl]; exact Nat.le_trans hn.b1 (by decide)) (by rw [hkl]; exact Nat.le_trans hn.b2 (by decide)) (Nat.le_trans hn.d1 (by decide)) (by rw [hkl]; exact Nat.le_trans hn.d2 (by decide)) ⟨by show c1.kids.map Nd.n = _; rw [hx]; simp, by simp; omega⟩).mono ?_
    rintro e w' ⟨rfl, vP, v1, u1, v2, u2, s⟩
    obtain ⟨c1', c2', d', y1, y2, y3, y4, y5, y6, y7⟩ := rot_pure (l := l) (r := m :: c2.its) (m' := z) (a' := kk) (b' := x :: c2.kids) a p s (by rw [hc1]; simp) (by rw [hx]; simp) (.inr ⟨by omega, by simp⟩) (by omega) (by simp; omega) (by omega) (by simp; omega)
    exact ⟨rfl, z, l, c1', c2', d', hc1, y1, y2, y3, y5, y6, y7⟩
theorem fr_chg {t h : Nat} {w : World} {d c1 c2 : Nd} {i1 i2 : List It} {m : It} {k1 k2 : List Nd} (a : TS t (h + 1) w d) (p : Pair d i1 m i2 k1 c1 c2 k2) (ht : 2 ≤ t ∧ t ≤ 64) (hs : t ≤ c2.its.length) (hl : c1.its.length = t - 1) :
    Calls Try.prog 54 #[.pointer (some ⟨d.n, 0, none⟩), .int .i64 i1.length] w (FrChg t h d i1 i2 m k1 c1 c2 k2 w) := by
  obtain ⟨hns, _⟩ := pair_ns a p
  have hn := pair_num a p ht
  have hm2 := (a.bal.2.2 c2 (by rw [p.kids]; simp)).1.most
  obtain ⟨z, r, hc2⟩ := list_first (show 1 ≤ c2.its.length by omega)
  have hr1 : r.length + 1 = c2.its.length := by rw [hc2]; simp
  have q1 := (a.bal.2.2 c1 (by rw [p.kids]; simp)).1
  have q2 := (a.bal.2.2 c2 (by rw [p.kids]; simp)).1
  have hks : d.nb.ks = k1.map Nd.n ++ c1.n :: c2.n :: k2.map Nd.n := by show d.kids.map Nd.n = _; rw [p.kids]; simp
  have hi : i1.length ≤ 200 := by have := hn.d1; rw [p.its] at this; simp at this; omega
  have hkl : ∀ c : Nd, (c.nb.ks).length = c.kids.length := fun c => by show (c.kids.map Nd.n).length = _; simp
  cases h with
  | zero =>
    have e1 : c1.kids = [] := q1.1
    have e2 : c2.kids = [] := q2.1
    refine (fromRight_leaf i1.length d.nb c1.nb c2.nb i1 i2 r m z (k1.map Nd.n) (k2.map Nd.n) w hns p.its rfl hks (by simp [p.len]) hi hc2 (Nat.le_trans hn.a1 (by decide)) (Nat.le_trans hn.a2 (by decide)) (by rw [hkl, e1]; simp) (by rw [hkl, e2]; simp) (Nat.le_trans hn.d1 (by decide)) (by rw [hkl]; exact Nat.le_trans hn.d2 (by decide)) ⟨by show c1.kids.map Nd.n = []; rw [e1]; rfl, by show c2.kids.map Nd.n = []; rw [e2]; rfl⟩).mono ?_
    rintro e w' ⟨rfl, vP, v1, u1, v2, u2, s⟩
    obtain ⟨c1', c2', d', y1, y2, y3, y4, y5, y6, y7⟩ := rot_pure (l := c1.its ++ [m]) (r := r) (m' := z) (a' := []) (b' := []) a p s (by rw [hc2]; simp) (by rw [e1, e2]) (.inl rfl) (by simp; omega) (by omega) (by simp; omega) (by omega)
    exact ⟨rfl, z, r, c1', c2', d', hc2, y1, y2, y3, y4, y6, y7⟩
  | succ h =>
    have e1 : c1.kids.length = c1.its.length + 1 := q1.1
    have e2 : c2.kids.length = c2.its.length + 1 := q2.1
    obtain ⟨x, kk, hx⟩ := list_first (show 1 ≤ c2.kids.length by omega)
    have hx1 : kk.length + 1 = c2.kids.length := by rw [hx]; simp
    refine (fromRight_inner i1.length d.nb c1.nb c2.nb i1 i2 r m z (kk.map Nd.n) x.n (k1.map Nd.n) (k2.map Nd.n) w hns p.its rfl hks (by simp [p.len]) hi hc2 (Nat.le_trans hn.a1 (by decide)) (Nat.le_trans hn.a2 (by decide)) (by rw [hkl]; exact Nat.le_trans hn.b1 (by decide)) (by rw [hkl]; exact Nat.le_trans hn.b2 (by decide)) (Nat.le_trans hn.d1 (by decide)) (by rw [hkl]; exact Nat.le_trans hn.d2 (by decide)) (by show c2.kids.map Nd.n = _; rw [hx]; simp)).mono ?_
    rintro e w' ⟨rfl, vP, v1, u1, v2, u2, s⟩
    have s' : Stps w [d.nb, c1.nb, c2.nb] w' [⟨d.n, vP, d.vk, i1 ++ z :: i2, d.kids.map Nd.n⟩, ⟨c1.n, v1, u1, c1.its ++ [m], (c1.kids ++ [x]).map Nd.n⟩, ⟨c2.n, v2, u2, r, kk.map Nd.n⟩] := by
      have e3 : (c1.kids ++ [x]).map Nd.n = c1.kids.map Nd.n ++ [x.n] := by simp
      rw [e3]
      exact s
    obtain ⟨c1', c2', d', y1, y2, y3, y4, y5, y6, y7⟩ := rot_pure (l := c1.its ++ [m]) (r := r) (m' := z) (a' := c1.kids ++ [x]) (b' := kk) a p s' (by rw [hc2]; simp) (by rw [hx]; simp) (.inr ⟨by simp; omega, by omega⟩) (by simp; omega) (by omega) (by simp; omega) (by omega)
    exact ⟨rfl, z, r, c1', c2', d', hc2, y1, y2, y3, y4, y6, y7⟩
theorem jo_chg {t h : Nat} {w : World} {d c1 c2 : Nd} {i1 i2 : List It} {m : It} {k1 k2 : List Nd} (T : Value) (a : TS t (h + 1) w d) (p : Pair d i1 m i2 k1 c1 c2 k2) (ht : 2 ≤ t ∧ t ≤ 64) (hl : c1.its.length + c2.its.length + 1 ≤ 2 * t - 1) :
    Calls Try.prog 42 #[T, .pointer (some ⟨d.n, 0, none⟩), .int .i64 i1.length] w (JoChg t h d i1 i2 m k1 c1 c2 k2 w) := by
  obtain ⟨hns, _⟩ := pair_ns a p
  have hn := pair_num a p ht
  have hks : d.nb.ks = k1.map Nd.n ++ c1.n :: c2.n :: k2.map Nd.n := by show d.kids.map Nd.n = _; rw [p.kids]; simp
  have hi : i1.length ≤ 200 := by have := hn.d1; rw [p.its] at this; simp at this; omega
  have hkl : ∀ c : Nd, (c.nb.ks).length = c.kids.length := fun c => by show (c.kids.map Nd.n).length = _; simp
  refine (join_any T i1.length d.nb c1.nb c2.nb i1 i2 m (k1.map Nd.n) (k2.map Nd.n) w hns p.its rfl hks (by simp [p.len]) hi (Nat.le_trans hn.a1 (by decide)) (Nat.le_trans hn.a2 (by decide)) (by rw [hkl]; exact Nat.le_trans hn.b1 (by decide)) (by rw [hkl]; exact Nat.le_trans hn.b2 (by decide)) (Nat.le_trans hn.d1 (by decide)) (by rw [hkl]; exact Nat.le_trans hn.d2 (by decide))).mono ?_
  rintro e w' ⟨rfl, vP, uP, v1, u1, y, s⟩
  have s' : Stps w [d.nb, c1.nb, c2.nb] w' [⟨d.n, vP, uP, i1 ++ i2, (k1 ++ c1 :: k2).map Nd.n⟩, ⟨c1.n, v1, u1, c1.its ++ m :: c2.its, (c1.kids ++ c2.kids).map Nd.n⟩, y] := by
    have e3 : (k1 ++ c1 :: k2).map Nd.n = k1.map Nd.n ++ c1.n :: k2.map Nd.n := by simp
    have e4 : (c1.kids ++ c2.kids).map Nd.n = c1.kids.map Nd.n ++ c2.kids.map Nd.n := by simp
    rw [e3, e4]
    exact s
  obtain ⟨c1', d', y1, y2, y3, y4, y5⟩ := join_pure a p s' hl
  exact ⟨rfl, c1', d', y1, y2, y3, y4, y5⟩
end Go.Proofs.Ytgjcomnljonffaa.Tlv
