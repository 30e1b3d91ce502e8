/- A text, and another one behind it; a text cut somewhere: plain facts. -/
import Derived.Test.YtnokocaodnanoaaDecFns
namespace Go.Proofs.Ytnokocaodnanoaa
open Go.RowKit
set_option linter.unusedVariables false

theorem nx_cases {f : Nat → Int} {L : Nat} (h : nxN f L ≠ 0) :
    (nxN f L = 1 ∧ 1 ≤ L ∧ f 0 ≤ 127) ∨
    (nxN f L = 2 ∧ 2 ≤ L ∧ 192 ≤ f 0 ∧ f 0 ≤ 223 ∧ cn (f 1) ∧ sizeI (v2 f) = 2) ∨
    (nxN f L = 3 ∧ 3 ≤ L ∧ 224 ≤ f 0 ∧ f 0 ≤ 239 ∧ cn (f 1) ∧ cn (f 2) ∧ sizeI (v3 f) = 3) ∨
    (nxN f L = 4 ∧ 4 ≤ L ∧ 240 ≤ f 0 ∧ f 0 ≤ 247 ∧ cn (f 1) ∧ cn (f 2) ∧ cn (f 3) ∧ sizeI (v4 f) = 4) := by
  by_cases b0 : L = 0
  · exact absurd (by unfold nxN; rw [if_pos b0]) h
  by_cases b1 : f 0 ≤ 127
  · exact .inl ⟨by unfold nxN; rw [if_neg b0, if_pos b1], by omega, b1⟩
  by_cases b2 : f 0 ≤ 191
  · exact absurd (by unfold nxN; rw [if_neg b0, if_neg b1, if_pos b2]) h
  by_cases b3 : f 0 ≤ 223
  · by_cases c : 2 ≤ L ∧ cn (f 1) ∧ sizeI (v2 f) = 2
    · exact .inr (.inl ⟨by unfold nxN; rw [if_neg b0, if_neg b1, if_neg b2, if_pos b3, if_pos c], c.1, by omega, b3, c.2⟩)
    · exact absurd (by unfold nxN; rw [if_neg b0, if_neg b1, if_neg b2, if_pos b3, if_neg c]) h
  by_cases b4 : f 0 ≤ 239
  · by_cases c : 3 ≤ L ∧ cn (f 1) ∧ cn (f 2) ∧ sizeI (v3 f) = 3
    · exact .inr (.inr (.inl ⟨by unfold nxN; rw [if_neg b0, if_neg b1, if_neg b2, if_neg b3, if_pos b4, if_pos c], c.1, by omega, b4, c.2⟩))
    · exact absurd (by unfold nxN; rw [if_neg b0, if_neg b1, if_neg b2, if_neg b3, if_pos b4, if_neg c]) h
  by_cases b5 : f 0 ≤ 247
  · by_cases c : 4 ≤ L ∧ cn (f 1) ∧ cn (f 2) ∧ cn (f 3) ∧ sizeI (v4 f) = 4
    · exact .inr (.inr (.inr ⟨by unfold nxN; rw [if_neg b0, if_neg b1, if_neg b2, if_neg b3, if_neg b4, if_pos b5, if_pos c], c.1, by omega, b5, c.2⟩))
    · exact absurd (by unfold nxN; rw [if_neg b0, if_neg b1, if_neg b2, if_neg b3, if_neg b4, if_pos b5, if_neg c]) h
  · exact absurd (by unfold nxN; rw [if_neg b0, if_neg b1, if_neg b2, if_neg b3, if_neg b4, if_neg b5]) h

theorem nx_local {f g : Nat → Int} {L M : Nat} (h : nxN f L ≠ 0) (hg : ∀ i : Nat, (i : Int) < nxN f L → g i = f i) (hM : nxN f L ≤ M) : nxN g M = nxN f L ∧ nxR g M = nxR f L := by
  have fin : nxN g M = nxN f L → (nxN f L = 1 → g 0 = f 0) → (nxN f L = 2 → v2 g = v2 f) → (nxN f L = 3 → v3 g = v3 f) → (nxN f L = 4 → v4 g = v4 f) → nxN g M = nxN f L ∧ nxR g M = nxR f L := by
    intro e e1 e2 e3 e4
    refine ⟨e, ?_⟩
    unfold nxR
    rw [e]
    by_cases a1 : nxN f L = 1
    · rw [if_pos a1, if_pos a1, e1 a1]
    by_cases a2 : nxN f L = 2
    · rw [if_neg a1, if_neg a1, if_pos a2, if_pos a2, e2 a2]
    by_cases a3 : nxN f L = 3
    · rw [if_neg a1, if_neg a1, if_neg a2, if_neg a2, if_pos a3, if_pos a3, e3 a3]
    by_cases a4 : nxN f L = 4
    · rw [if_neg a1, if_neg a1, if_neg a2, if_neg a2, if_neg a3, if_neg a3, if_pos a4, if_pos a4, e4 a4]
    · rw [if_neg a1, if_neg a1, if_neg a2, if_neg a2, if_neg a3, if_neg a3, if_neg a4, if_neg a4]
  rcases nx_cases h with ⟨n, l, a⟩ | ⟨n, l, a, a', c1, z⟩ | ⟨n, l, a, a', c1, c2, z⟩ | ⟨n, l, a, a', c1, c2, c3, z⟩
  all_goals rw [n] at hg hM
  · have g0 := hg 0 (by omega)
    exact fin (by rw [n]; unfold nxN; rw [if_neg (by omega), g0, if_pos a]) (fun _ => g0) (by rw [n]; omega) (by rw [n]; omega) (by rw [n]; omega)
  · have g0 := hg 0 (by omega)
    have g1 := hg 1 (by omega)
    have ev : v2 g = v2 f := by unfold v2; rw [g0, g1]
    exact fin (by rw [n]; unfold nxN; rw [if_neg (by omega), g0, if_neg (by omega), if_neg (by omega), if_pos a', g1, ev, if_pos ⟨by omega, c1, z⟩]) (by rw [n]; omega) (fun _ => ev) (by rw [n]; omega) (by rw [n]; omega)
  · have g0 := hg 0 (by omega)
    have g1 := hg 1 (by omega)
    have g2 := hg 2 (by omega)
    have ev : v3 g = v3 f := by unfold v3; rw [g0, g1, g2]
    exact fin (by rw [n]; unfold nxN; rw [if_neg (by omega), g0, if_neg (by omega), if_neg (by omega), if_neg (by omega), if_pos a', g1, g2, ev, if_pos ⟨by omega, c1, c2, z⟩]) (by rw [n]; omega) (by rw [n]; omega) (fun _ => ev) (by rw [n]; omega)
  · have g0 := hg 0 (by omega)
    have g1 := hg 1 (by omega)
    have g2 := hg 2 (by omega)
    have g3 := hg 3 (by omega)
    have ev : v4 g = v4 f := by unfold v4; rw [g0, g1, g2, g3]
    exact fin (by rw [n]; unfold nxN; rw [if_neg (by omega), g0, if_neg (by omega), if_neg (by omega), if_neg (by omega), if_neg (by omega), if_pos a', g1, g2, g3, ev, if_pos ⟨by omega, c1, c2, c3, z⟩]) (by rw [n]; omega) (by rw [n]; omega) (by rw [n]; omega) (fun _ => ev)

theorem nx_head {f : Nat → Int} {L : Nat} (h : nxN f L ≠ 0) : nxN f L = hdN (f 0) := by
  rcases nx_cases h with ⟨n, l, a⟩ | ⟨n, l, a, a', _⟩ | ⟨n, l, a, a', _⟩ | ⟨n, l, a, a', _⟩
  all_goals rw [n]; unfold hdN; (repeat' split) <;> omega
theorem nx_short {f g : Nat → Int} {L M : Nat} (h : nxN f L ≠ 0) (h0 : g 0 = f 0) (hM : (M : Int) < nxN f L) : nxN g M = 0 := by
  by_cases hz : nxN g M = 0
  · exact hz
  · have e1 := nx_head h
    have e2 := nx_head hz
    have := nx_range g M
    rw [h0] at e2
    omega
theorem nx_cont {f : Nat → Int} {L : Nat} (h : nxN f L ≠ 0) {i : Nat} (h0 : 0 < i) (hi : (i : Int) < nxN f L) : cn (f i) := by
  rcases nx_cases h with ⟨n, l, a⟩ | ⟨n, l, a, a', c1, z⟩ | ⟨n, l, a, a', c1, c2, z⟩ | ⟨n, l, a, a', c1, c2, c3, z⟩
  all_goals rw [n] at hi
  · omega
  · obtain rfl : i = 1 := by omega
    exact c1
  · have : i = 1 ∨ i = 2 := by omega
    rcases this with rfl | rfl
    · exact c1
    · exact c2
  · have : i = 1 ∨ i = 2 ∨ i = 3 := by omega
    rcases this with rfl | rfl | rfl
    · exact c1
    · exact c2
    · exact c3
theorem nx_mid {f : Nat → Int} {L : Nat} (h : cn (f 0)) : nxN f L = 0 := by
  by_cases hz : nxN f L = 0
  · exact hz
  · rcases nx_cases hz with ⟨n, l, a⟩ | ⟨n, l, a, a', _⟩ | ⟨n, l, a, a', _⟩ | ⟨n, l, a, a', _⟩
    all_goals omega
theorem nx_size {f : Nat → Int} {L : Nat} (h : nxN f L ≠ 0) (h0 : 0 ≤ f 0) : sizeI (nxR f L) = nxN f L := by
  rcases nx_cases h with ⟨n, l, a⟩ | ⟨n, l, a, a', c1, z⟩ | ⟨n, l, a, a', c1, c2, z⟩ | ⟨n, l, a, a', c1, c2, c3, z⟩
  · rw [nxR_1 n, n]; unfold sizeI; rw [if_neg (by unfold mayB; simp; omega), if_pos a]
  · rw [nxR_2 n, n, q2_eq, z]
  · rw [nxR_3 n, n, q3_eq, z]
  · rw [nxR_4 n, n, q4_eq, z]
theorem NN_size {s : ByteArray} {a : Nat} (h : NN s a ≠ 0) : mayB (RR s a) = true ∧ ((putI (RR s a)).length : Int) = NN s a := by
  have hz : sizeI (RR s a) = NN s a := nx_size h (bt_lo s (a + 0))
  have hm := may_of_size (r := RR s a) (by rw [hz]; exact h)
  exact ⟨hm, by rw [putI_len hm, hz]⟩

/-- The places of a text's runes, from a place on (with fuel): is cut one of them? -/
def plF (s : ByteArray) (cut : Nat) : Nat → Nat → Bool
  | 0, _ => false
  | f + 1, a => if NN s a = 0 then false else decide (a = cut) || plF s cut f (a + (NN s a).toNat)
theorem plF_fuel (s : ByteArray) (cut : Nat) : ∀ (f g a : Nat), s.size - a ≤ f → s.size - a ≤ g → plF s cut f a = plF s cut g a := by
  intro f
  induction f with
  | zero =>
    intro g a hf hg
    cases g with
    | zero => rfl
    | succ g => rw [plF, plF, if_pos (NN_zero_past s a (by omega))]
  | succ f ih =>
    intro g a hf hg
    cases g with
    | zero => rw [plF, plF, if_pos (NN_zero_past s a (by omega))]
    | succ g =>
      rw [plF, plF]
      by_cases h : NN s a = 0
      · rw [if_pos h, if_pos h]
      · rw [if_neg h, if_neg h]
        have := NN_range s a
        rw [ih g (a + (NN s a).toNat) (by omega) (by omega)]
def pl (s : ByteArray) (cut a : Nat) : Bool := plF s cut (s.size - a) a
theorem pl_stop {s : ByteArray} {cut a : Nat} (h : NN s a = 0) : pl s cut a = false := by
  unfold pl
  cases hz : s.size - a with
  | zero => rfl
  | succ f => rw [plF, if_pos h]
theorem pl_step {s : ByteArray} {cut a : Nat} (h : NN s a ≠ 0) : pl s cut a = (decide (a = cut) || pl s cut (a + (NN s a).toNat)) := by
  have hr := NN_range s a
  unfold pl
  obtain ⟨f, hf⟩ : ∃ f, s.size - a = f + 1 := ⟨s.size - a - 1, by omega⟩
  rw [hf, plF, if_neg h, plF_fuel s cut f (s.size - (a + (NN s a).toNat)) _ (by omega) (by omega)]
theorem pl_ge (s : ByteArray) (cut : Nat) : ∀ (f a : Nat), s.size - a ≤ f → pl s cut a = true → a ≤ cut := by
  intro f
  induction f with
  | zero => intro a hf h; rw [pl_stop (NN_zero_past s a (by omega))] at h; exact absurd h (by simp)
  | succ f ih =>
    intro a hf h
    by_cases hn : NN s a = 0
    · rw [pl_stop hn] at h; exact absurd h (by simp)
    · rw [pl_step hn] at h
      have hr := NN_range s a
      by_cases e : a = cut
      · omega
      · rw [decide_eq_false e, Bool.false_or] at h
        have := ih _ (by omega) h
        omega

/-- Cut: the text ahead of it. -/
theorem NN_pre {s : ByteArray} {cut a : Nat} (hc : cut ≤ s.size) (h : NN s a ≠ 0) :
    (a + (NN s a).toNat ≤ cut → NN (s.extract 0 cut) a = NN s a) ∧ (cut < a + (NN s a).toNat → NN (s.extract 0 cut) a = 0) := by
  have hr := NN_range s a
  have hz : (s.extract 0 cut).size = cut := size_extract s cut hc
  constructor
  · intro hle
    refine (nx_local (f := fun i => bt s (a + i)) (g := fun i => bt (s.extract 0 cut) (a + i)) (L := s.size - a) (M := (s.extract 0 cut).size - a) h (fun i hi => ?_) ?_).1
    · have hi' : (i : Int) < NN s a := hi
      show bt (s.extract 0 cut) (a + i) = bt s (a + i)
      rw [bt_extract s 0 cut (a + i) hc (by omega), Nat.zero_add]
    · have : NN s a ≤ (((s.extract 0 cut).size - a : Nat) : Int) := by rw [hz]; omega
      exact this
  · intro hlt
    by_cases hac : a < cut
    · refine nx_short (f := fun i => bt s (a + i)) (L := s.size - a) h ?_ ?_
      · show bt (s.extract 0 cut) (a + 0) = bt s (a + 0)
        rw [bt_extract s 0 cut (a + 0) hc (by omega), Nat.zero_add]
      · have : (((s.extract 0 cut).size - a : Nat) : Int) < NN s a := by rw [hz]; omega
        exact this
    · exact NN_zero_past _ _ (by rw [hz]; omega)
theorem pre_iff (s : ByteArray) (cut : Nat) (hc : cut ≤ s.size) : ∀ (f a : Nat), s.size - a ≤ f → a ≤ cut → (dec s a).2 = s.size →
    (((dec (s.extract 0 cut) a).2 = cut) ↔ (cut = s.size ∨ pl s cut a = true)) := by
  intro f
  have hz : (s.extract 0 cut).size = cut := size_extract s cut hc
  induction f with
  | zero =>
    intro a hf ha hd
    rw [dec_stop (NN_zero_past s a (by omega))] at hd
    rw [dec_stop (NN_zero_past _ a (by rw [hz]; omega))]
    exact ⟨fun _ => .inl (by omega), fun _ => by show a = cut; have : a = s.size := hd; omega⟩
  | succ f ih =>
    intro a hf ha hd
    by_cases hn : NN s a = 0
    · rw [dec_stop hn] at hd
      rw [dec_stop (NN_zero_past _ a (by rw [hz]; have : a = s.size := hd; omega))]
      exact ⟨fun _ => .inl (by have : a = s.size := hd; omega), fun _ => by show a = cut; have : a = s.size := hd; omega⟩
    · have hr := NN_range s a
      obtain ⟨hp, hq⟩ := NN_pre hc hn
      rw [dec_step hn] at hd
      rw [pl_step hn]
      by_cases hle : a + (NN s a).toNat ≤ cut
      · rw [dec_step (s := s.extract 0 cut) (a := a) (by rw [hp hle]; exact hn), hp hle]
        have := ih (a + (NN s a).toNat) (by omega) hle hd
        simp only
        rw [this, decide_eq_false (by omega), Bool.false_or]
      · rw [dec_stop (hq (by omega))]
        have hpl : pl s cut (a + (NN s a).toNat) = false := by
          cases hh : pl s cut (a + (NN s a).toNat)
          · rfl
          · have := pl_ge s cut _ _ (Nat.le_refl _) hh; omega
        rw [hpl, Bool.or_false, decide_eq_true_iff]
        exact ⟨fun h => .inr h, fun h => by rcases h with h | h; omega; exact h⟩
/-- Cut: the text behind it. -/
theorem post_iff (s : ByteArray) (cut : Nat) (hc : cut ≤ s.size) : ∀ (f a : Nat), s.size - a ≤ f → a ≤ cut → (dec s a).2 = s.size →
    (((dec s cut).2 = s.size) ↔ (cut = s.size ∨ pl s cut a = true)) := by
  intro f
  induction f with
  | zero =>
    intro a hf ha hd
    rw [dec_stop (NN_zero_past s cut (by omega))]
    exact ⟨fun h => .inl h, fun _ => by show cut = s.size; omega⟩
  | succ f ih =>
    intro a hf ha hd
    by_cases hn : NN s a = 0
    · rw [dec_stop hn] at hd
      have : a = s.size := hd
      rw [dec_stop (NN_zero_past s cut (by omega))]
      exact ⟨fun h => .inl h, fun _ => by show cut = s.size; omega⟩
    · have hr := NN_range s a
      have hd' := hd
      rw [dec_step hn] at hd
      rw [pl_step hn]
      by_cases hle : a + (NN s a).toNat ≤ cut
      · have := ih (a + (NN s a).toNat) (by omega) hle hd
        rw [this, decide_eq_false (by omega), Bool.false_or]
      · have hpl : pl s cut (a + (NN s a).toNat) = false := by
          cases hh : pl s cut (a + (NN s a).toNat)
          · rfl
          · have := pl_ge s cut _ _ (Nat.le_refl _) hh; omega
        rw [hpl, Bool.or_false, decide_eq_true_iff]
        by_cases e : a = cut
        · subst e
          exact ⟨fun _ => .inr rfl, fun _ => hd'⟩
        · have h0 : NN s cut = 0 := by
            refine nx_mid (f := fun i => bt s (cut + i)) ?_
            have := nx_cont (f := fun i => bt s (a + i)) (L := s.size - a) hn (i := cut - a) (by omega) (show (((cut - a : Nat)) : Int) < NN s a by omega)
            show cn (bt s (cut + 0))
            have e2 : a + (cut - a) = cut + 0 := by omega
            simp only [e2] at this
            exact this
          rw [dec_stop h0]
          exact ⟨fun h => .inl h, fun h => by
            rcases h with h | h
            · exact h
            · exact absurd h e⟩
theorem dec_tail (s : ByteArray) (cut : Nat) (hc : cut ≤ s.size) : ∀ (f b : Nat), s.size - (cut + b) ≤ f → (dec s (cut + b)).2 = cut + (dec (s.extract cut s.size) b).2 := by
  intro f
  have hz : (s.extract cut s.size).size = s.size - cut := by simp
  have hN : ∀ b, NN (s.extract cut s.size) b = NN s (cut + b) ∧ RR (s.extract cut s.size) b = RR s (cut + b) := fun b => by
    have e : (fun i => bt (s.extract cut s.size) (b + i)) = fun i => bt s (cut + b + i) := funext fun i => by rw [bt_tail, Nat.add_assoc]
    unfold NN RR
    rw [e, hz, Nat.sub_sub]
    exact ⟨rfl, rfl⟩
  induction f with
  | zero =>
    intro b hf
    rw [dec_stop (s := s) (a := cut + b) (NN_zero_past s _ (by omega)), dec_stop (s := s.extract cut s.size) (a := b) (by rw [(hN b).1]; exact NN_zero_past s _ (by omega))]
  | succ f ih =>
    intro b hf
    by_cases hn : NN s (cut + b) = 0
    · rw [dec_stop (s := s) (a := cut + b) hn, dec_stop (s := s.extract cut s.size) (a := b) (by rw [(hN b).1]; exact hn)]
    · have hr := NN_range s (cut + b)
      rw [dec_step (s := s) (a := cut + b) hn, dec_step (s := s.extract cut s.size) (a := b) (by rw [(hN b).1]; exact hn), (hN b).1]
      simp only
      rw [Nat.add_assoc, ih (b + (NN s (cut + b)).toNat) (by omega)]
theorem joins_cut (s : ByteArray) (cut : Nat) (hc : cut ≤ s.size) (hv : upto s = s.size) :
    decide (upto (s.extract 0 cut) = (s.extract 0 cut).size) = (decide (cut = s.size) || pl s cut 0) ∧
    decide (upto (s.extract cut s.size) = (s.extract cut s.size).size) = (decide (cut = s.size) || pl s cut 0) := by
  have hz : (s.extract 0 cut).size = cut := size_extract s cut hc
  have hz2 : (s.extract cut s.size).size = s.size - cut := by simp
  have h1 := pre_iff s cut hc s.size 0 (by omega) (by omega) hv
  have h2 := post_iff s cut hc s.size 0 (by omega) (by omega) hv
  have h3 := dec_tail s cut hc s.size 0 (by omega)
  constructor
  · rw [Bool.eq_iff_iff, decide_eq_true_iff, Bool.or_eq_true, decide_eq_true_iff, hz]
    exact h1
  · rw [Bool.eq_iff_iff, decide_eq_true_iff, Bool.or_eq_true, decide_eq_true_iff, hz2, ← h2]
    rw [Nat.add_zero] at h3
    rw [h3]
    unfold upto
    constructor <;> intro h <;> omega
/-- Two texts, one behind the other. -/
theorem joins_app (s t : ByteArray) (hv : upto s = s.size) : upto (s ++ t) = s.size + upto t := by
  have hz : (s ++ t).size = s.size + t.size := by simp
  have hd : (s ++ t).data = s.data ++ t.data := by simp
  have hl : ∀ i, i < s.size → bt (s ++ t) i = bt s i := fun i hi => by
    have hi' : i < s.data.size := hi
    unfold bt; rw [hd, Array.getD_eq_getD_getElem?, Array.getD_eq_getD_getElem?, Array.getElem?_append_left hi']
  have hr : ∀ i, bt (s ++ t) (s.size + i) = bt t i := fun i => by
    have e : s.data.size = s.size := rfl
    unfold bt; rw [hd, Array.getD_eq_getD_getElem?, Array.getD_eq_getD_getElem?, Array.getElem?_append_right (by omega)]
    rw [show s.size + i - s.data.size = i from by omega]
  have first : ∀ (f a : Nat), s.size - a ≤ f → (dec s a).2 = s.size → (dec (s ++ t) a).2 = (dec (s ++ t) s.size).2 := by
    intro f
    induction f with
    | zero =>
      intro a hf h
      rw [dec_stop (NN_zero_past s a (by omega))] at h
      have : a = s.size := h
      rw [this]
    | succ f ih =>
      intro a hf h
      by_cases hn : NN s a = 0
      · rw [dec_stop hn] at h
        have : a = s.size := h
        rw [this]
      · have hrg := NN_range s a
        have e : NN (s ++ t) a = NN s a := by
          refine (nx_local (f := fun i => bt s (a + i)) (g := fun i => bt (s ++ t) (a + i)) (L := s.size - a) (M := (s ++ t).size - a) hn (fun i hi => ?_) ?_).1
          · have hi' : (i : Int) < NN s a := hi
            exact hl _ (by omega)
          · have : NN s a ≤ (((s ++ t).size - a : Nat) : Int) := by rw [hz]; omega
            exact this
        rw [dec_step hn] at h
        rw [dec_step (s := s ++ t) (a := a) (by rw [e]; exact hn), e]
        exact ih _ (by omega) h
  have e : ∀ b, NN (s ++ t) (s.size + b) = NN t b := fun b => by
    unfold NN
    rw [show (fun i => bt (s ++ t) (s.size + b + i)) = fun i => bt t (b + i) from funext fun i => by rw [Nat.add_assoc]; exact hr _, hz, show s.size + t.size - (s.size + b) = t.size - b from by omega]
  have second : ∀ (f b : Nat), t.size - b ≤ f → (dec (s ++ t) (s.size + b)).2 = s.size + (dec t b).2 := by
    intro f
    induction f with
    | zero => intro b hf; rw [dec_stop (s := s ++ t) (a := s.size + b) (by rw [e]; exact NN_zero_past t b (by omega)), dec_stop (s := t) (a := b) (NN_zero_past t b (by omega))]
    | succ f ih =>
      intro b hf
      by_cases hn : NN t b = 0
      · rw [dec_stop (s := s ++ t) (a := s.size + b) (by rw [e]; exact hn), dec_stop (s := t) (a := b) hn]
      · have hrg := NN_range t b
        rw [dec_step (s := s ++ t) (a := s.size + b) (by rw [e]; exact hn), dec_step (s := t) (a := b) hn, e]
        simp only
        rw [Nat.add_assoc, ih _ (by omega)]
  have h1 := first s.size 0 (by omega) hv
  have h2 := second t.size 0 (by omega)
  rw [Nat.add_zero] at h2
  exact h1.trans h2
end Go.Proofs.Ytnokocaodnanoaa
