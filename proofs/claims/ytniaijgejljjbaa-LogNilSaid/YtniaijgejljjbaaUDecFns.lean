/- What a text's runes are, from a place on: plain functions. -/
import Derived.Test.YtniaijgejljjbaaURefNext
namespace Go.Proofs.Ytniaijgejljjbaa.Utf
open Go.RowKit
set_option linter.unusedVariables false

theorem bt_past (s : ByteArray) (i : Nat) (h : s.size ≤ i) : bt s i = 0 := by
  have h' : s.data.size ≤ i := h
  unfold bt
  rw [Array.getD_eq_getD_getElem?, Array.getElem?_eq_none h']; rfl
theorem bt_tail (s : ByteArray) (a i : Nat) : bt (s.extract a s.size) i = bt s (a + i) := by
  by_cases h : a + i < s.size
  · exact bt_extract s a s.size i (Nat.le_refl _) h
  · rw [bt_past s _ (by omega), bt_past _ _ (by simp; omega)]
theorem bt_four (s : ByteArray) (a e i : Nat) (he : e = min s.size (a + 4)) (hi : i < 4) : bt (s.extract a e) i = bt s (a + i) := by
  by_cases h : a + i < s.size
  · exact bt_extract s a e i (by omega) (by omega)
  · rw [bt_past s _ (by omega), bt_past _ _ (by simp; omega)]

theorem nxN_congr {f g : Nat → Int} {L M : Nat} (h0 : f 0 = g 0) (h1 : f 1 = g 1) (h2 : f 2 = g 2) (h3 : f 3 = g 3) (hL : min L 4 = min M 4) : nxN f L = nxN g M := by
  have e2 : v2 f = v2 g := by unfold v2; rw [h0, h1]
  have e3 : v3 f = v3 g := by unfold v3; rw [h0, h1, h2]
  have e4 : v4 f = v4 g := by unfold v4; rw [h0, h1, h2, h3]
  unfold nxN
  rw [e2, e3, e4, h0, h1, h2, h3]
  have a0 : (L = 0) = (M = 0) := by apply propext; omega
  have a2 : (2 ≤ L) = (2 ≤ M) := by apply propext; omega
  have a3 : (3 ≤ L) = (3 ≤ M) := by apply propext; omega
  have a4 : (4 ≤ L) = (4 ≤ M) := by apply propext; omega
  simp only [a0, a2, a3, a4]
theorem nxR_congr {f g : Nat → Int} {L M : Nat} (h0 : f 0 = g 0) (h1 : f 1 = g 1) (h2 : f 2 = g 2) (h3 : f 3 = g 3) (hL : min L 4 = min M 4) : nxR f L = nxR g M := by
  have e2 : v2 f = v2 g := by unfold v2; rw [h0, h1]
  have e3 : v3 f = v3 g := by unfold v3; rw [h0, h1, h2]
  have e4 : v4 f = v4 g := by unfold v4; rw [h0, h1, h2, h3]
  unfold nxR
  rw [nxN_congr h0 h1 h2 h3 hL, e2, e3, e4, h0]

/-- How many bytes the rune at a place has (0: none stands there), and the rune. -/
def NN (s : ByteArray) (a : Nat) : Int := nxN (fun i => bt s (a + i)) (s.size - a)
def RR (s : ByteArray) (a : Nat) : Int := nxR (fun i => bt s (a + i)) (s.size - a)
theorem NN_range (s : ByteArray) (a : Nat) : 0 ≤ NN s a ∧ NN s a ≤ 4 ∧ NN s a ≤ ((s.size - a : Nat) : Int) := nx_range _ _

theorem next_at (s : ByteArray) (a : Nat) (w : World) (h1 : s.size ≤ 9223372036854775807) :
    Calls Try.prog 102 #[.string (s.extract a s.size)] w fun e w' => e = .returned (.tuple #[.int .i32 (RR s a), .int .i64 (NN s a), .int .i64 (nxE (NN s a))]) ∧ w = w' := by
  have := next_any_utf (s.extract a s.size) w (by simp; omega)
  rwa [show bt (s.extract a s.size) = fun i => bt s (a + i) from funext fun i => bt_tail s a i, show (s.extract a s.size).size = s.size - a from by simp] at this
theorem refNext_at (s : ByteArray) (a e : Nat) (w : World) (he : e = min s.size (a + 4)) (h1 : s.size ≤ 9223372036854775807) :
    Calls Try.prog 91 #[.string (s.extract a e)] w fun x w' => x = .returned (.tuple #[.int .i32 (RR s a), .int .i64 (NN s a)]) ∧ Below w.heap.size w w' := by
  have := refNext_any (s.extract a e) w (by simp; omega)
  have hz : (s.extract a e).size = e - a := by simp; omega
  have hb := fun i => bt_four s a e i he
  rw [nxN_congr (M := s.size - a) (g := fun i => bt s (a + i)) (hb 0 (by omega)) (hb 1 (by omega)) (hb 2 (by omega)) (hb 3 (by omega)) (by rw [hz]; omega),
    nxR_congr (M := s.size - a) (g := fun i => bt s (a + i)) (hb 0 (by omega)) (hb 1 (by omega)) (hb 2 (by omega)) (hb 3 (by omega)) (by rw [hz]; omega)] at this
  exact this

/-- The runes from a place on, and the place where none stands any more (with fuel). -/
def decF (s : ByteArray) : Nat → Nat → List Int × Nat
  | 0, a => ([], a)
  | f + 1, a => if NN s a = 0 then ([], a) else (RR s a :: (decF s f (a + (NN s a).toNat)).1, (decF s f (a + (NN s a).toNat)).2)
theorem NN_zero_past (s : ByteArray) (a : Nat) (h : s.size ≤ a) : NN s a = 0 := by have := NN_range s a; omega
theorem decF_fuel (s : ByteArray) : ∀ (f g a : Nat), s.size - a ≤ f → s.size - a ≤ g → decF s f a = decF s g a := by
  intro f
  induction f with
  | zero =>
    intro g a hf hg
    cases g with
    | zero => rfl
    | succ g => rw [decF, decF, if_pos (NN_zero_past s a (by omega))]
  | succ f ih =>
    intro g a hf hg
    cases g with
    | zero => rw [decF, decF, if_pos (NN_zero_past s a (by omega))]
    | succ g =>
      rw [decF, decF]
      by_cases h : NN s a = 0
      · rw [if_pos h, if_pos h]
      · rw [if_neg h, if_neg h]
        have := NN_range s a
        rw [ih g (a + (NN s a).toNat) (by omega) (by omega)]
def dec (s : ByteArray) (a : Nat) : List Int × Nat := decF s (s.size - a) a
theorem dec_stop {s : ByteArray} {a : Nat} (h : NN s a = 0) : dec s a = ([], a) := by
  unfold dec
  cases hz : s.size - a with
  | zero => rfl
  | succ f => rw [decF, if_pos h]
theorem dec_step {s : ByteArray} {a : Nat} (h : NN s a ≠ 0) : dec s a = (RR s a :: (dec s (a + (NN s a).toNat)).1, (dec s (a + (NN s a).toNat)).2) := by
  have hr := NN_range s a
  unfold dec
  obtain ⟨f, hf⟩ : ∃ f, s.size - a = f + 1 := ⟨s.size - a - 1, by omega⟩
  rw [hf, decF, if_neg h, decF_fuel s f (s.size - (a + (NN s a).toNat)) _ (by omega) (by omega)]
theorem dec_place (s : ByteArray) : ∀ (f a : Nat), s.size - a ≤ f → a ≤ s.size → a ≤ (dec s a).2 ∧ (dec s a).2 ≤ s.size ∧ NN s (dec s a).2 = 0 ∧ (dec s a).1.length ≤ (dec s a).2 - a := by
  intro f
  induction f with
  | zero => intro a hf ha; rw [dec_stop (NN_zero_past s a (by omega))]; exact ⟨Nat.le_refl _, ha, NN_zero_past s a (by omega), by simp⟩
  | succ f ih =>
    intro a hf ha
    by_cases h : NN s a = 0
    · rw [dec_stop h]; exact ⟨Nat.le_refl _, ha, h, by simp⟩
    · rw [dec_step h]
      have hr := NN_range s a
      obtain ⟨h1, h2, h3, h4⟩ := ih (a + (NN s a).toNat) (by omega) (by omega)
      refine ⟨by simp only; omega, h2, h3, ?_⟩
      simp only [List.length_cons]
      omega
/-- The runes of a text, and up to where it is well made. -/
def runes (s : ByteArray) : List Int := (dec s 0).1
def upto (s : ByteArray) : Nat := (dec s 0).2
theorem upto_le (s : ByteArray) : upto s ≤ s.size := (dec_place s s.size 0 (by omega) (by omega)).2.1
theorem runes_len (s : ByteArray) : (runes s).length ≤ s.size := by
  have h := dec_place s s.size 0 (by omega) (by omega)
  have := h.2.2.2
  have := h.2.1
  unfold runes; omega
end Go.Proofs.Ytniaijgejljjbaa.Utf
