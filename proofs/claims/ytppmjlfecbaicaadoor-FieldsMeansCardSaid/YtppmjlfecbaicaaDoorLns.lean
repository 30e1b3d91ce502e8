/- The lines that say something, and their fields. -/
import Derived.Test.YtppmjlfecbaicaaDoorParts
namespace Go.Proofs.YtppmjlfecbaicaaDoor
open Go.RowKit
set_option linter.unusedVariables false
set_option linter.unusedSimpArgs false

/-- Bytes without the blanks at their ends. -/
def tl (l : List UInt8) : List UInt8 := dr (dl l)
theorem trim_mk (s : ByteArray) : trimV s = mk (tl s.data.toList) := rfl
theorem dl_cons_b {b : UInt8} {t : List UInt8} (h : bB b = true) : dl (b :: t) = dl t := by unfold dl; rw [List.dropWhile_cons_of_pos h]
theorem dl_cons_n {b : UInt8} {t : List UInt8} (h : bB b = false) : dl (b :: t) = b :: t := by unfold dl; rw [List.dropWhile_cons_of_neg (by rw [h]; decide)]
theorem tl_cons_b {b : UInt8} {t : List UInt8} (h : bB b = true) : tl (b :: t) = tl t := by unfold tl; rw [dl_cons_b h]
theorem tl_snoc_b {b : UInt8} {t : List UInt8} (h : bB b = true) : tl (t ++ [b]) = tl t := by
  unfold tl
  rw [← dl_dr, ← dl_dr, dr_snoc, if_pos h]
/-- The parts, each without the blanks at its ends. -/
def fieldsL (c : UInt8) (l : List UInt8) : List (List UInt8) := (partsL c l).map tl
theorem fields_b {c b : UInt8} {t : List UInt8} (hb : bB b = true) (hc : b ≠ c) : fieldsL c (b :: t) = fieldsL c t := by
  obtain ⟨x, r, h1, h2⟩ := parts_cons (t := t) hc
  unfold fieldsL
  rw [h1, h2, List.map_cons, List.map_cons, tl_cons_b hb]
theorem fields_snoc {c b : UInt8} {t : List UInt8} (hb : bB b = true) (hc : b ≠ c) : fieldsL c (t ++ [b]) = fieldsL c t := by
  obtain ⟨p, x, h1, h2⟩ := parts_snoc hc t
  unfold fieldsL
  rw [h1, h2, List.map_append, List.map_append]
  simp only [List.map_cons, List.map_nil, tl_snoc_b hb]
theorem fields_dl {c : UInt8} (hc : ∀ b, bB b = true → b ≠ c) : ∀ l, fieldsL c (dl l) = fieldsL c l
  | [] => rfl
  | b :: t => by
    cases hb : bB b with
    | true => rw [dl_cons_b hb, fields_b hb (hc b hb), fields_dl hc t]
    | false => rw [dl_cons_n hb]
theorem fields_dr {c : UInt8} (hc : ∀ b, bB b = true → b ≠ c) : ∀ (n : Nat) (l : List UInt8), l.length ≤ n → fieldsL c (dr l) = fieldsL c l
  | n, l, hn => by
    rcases List.eq_nil_or_concat l with rfl | ⟨t, b, rfl⟩
    · rfl
    · rw [List.concat_eq_append] at hn ⊢
      rw [dr_snoc]
      split
      · cases n with
        | zero => simp at hn
        | succ n => rw [fields_dr hc n t (by simp at hn; omega), fields_snoc (by assumption) (hc b (by assumption))]
      · rfl
theorem fields_tl {c : UInt8} (hc : ∀ b, bB b = true → b ≠ c) (l : List UInt8) : fieldsL c (tl l) = fieldsL c l := by
  unfold tl
  rw [fields_dr hc _ _ (Nat.le_refl _), fields_dl hc]
theorem blank_ne {c : UInt8} (h : bB c = false) : ∀ b, bB b = true → b ≠ c := fun b hb e => by subst e; rw [h] at hb; cases hb

/-- What a line says, ahead of its remark. -/
def sayL (l : List UInt8) : List UInt8 := (partsL 35 l).headD []
def lineL (l : List UInt8) : Option (List (List UInt8)) := if tl (sayL l) = [] then none else some (fieldsL 59 (sayL l))
def linesF : Nat → List (List UInt8) → List (Nat × List (List UInt8))
  | _, [] => []
  | n, x :: r => match lineL x with
    | none => linesF (n + 1) r
    | some f => (n, f) :: linesF (n + 1) r
theorem linesF_cons (n : Nat) (x : List UInt8) (r : List (List UInt8)) : linesF n (x :: r) = match lineL x with | none => linesF (n + 1) r | some f => (n, f) :: linesF (n + 1) r := by rw [linesF]
def linesL (l : List UInt8) : List (Nat × List (List UInt8)) := linesF 1 (partsL 10 l)
theorem linesF_app : ∀ (n : Nat) (a b : List (List UInt8)), linesF n (a ++ b) = linesF n a ++ linesF (n + a.length) b
  | n, [], b => rfl
  | n, x :: r, b => by
    rw [List.cons_append, linesF_cons, linesF_cons, linesF_app (n + 1) r b, show n + 1 + r.length = n + (x :: r).length by simp; omega]
    cases lineL x <;> rfl
theorem linesF_shift (k : Nat) : ∀ (n : Nat) (a : List (List UInt8)), linesF (n + k) a = (linesF n a).map fun x => (x.1 + k, x.2)
  | n, [] => rfl
  | n, x :: r => by
    unfold linesF
    rw [show n + k + 1 = n + 1 + k by omega, linesF_shift k (n + 1) r]
    cases lineL x <;> rfl
theorem say_snoc (l : List UInt8) : sayL (l ++ [32]) = sayL l ∨ sayL (l ++ [32]) = sayL l ++ [32] := by
  obtain ⟨p, x, h1, h2⟩ := parts_snoc (c := 35) (b := 32) (by decide) l
  unfold sayL
  rw [h1, h2]
  cases p with
  | nil => exact .inr rfl
  | cons q p => exact .inl rfl
theorem line_snoc (l : List UInt8) : lineL (l ++ [32]) = lineL l := by
  unfold lineL
  rcases say_snoc l with h | h
  · rw [h]
  · rw [h, tl_snoc_b (by decide), fields_snoc (by decide) (by decide)]
theorem line_nil : lineL [] = none := rfl
theorem line_remark (l : List UInt8) : lineL (35 :: l) = none := by
  have h : sayL (35 :: l) = [] := by unfold sayL; simp [partsL]
  unfold lineL
  rw [h]
  rfl
/-- Two texts, one behind the other, a remark between them. -/
theorem lines_both (a b k : List UInt8) (hk : ∀ x ∈ k, x ≠ 10) : linesL (a ++ 32 :: 10 :: 35 :: (k ++ 10 :: b)) = linesL a ++ (linesL b).map fun x => (x.1 + ((partsL 10 a).length + 1), x.2) := by
  have e : a ++ 32 :: 10 :: 35 :: (k ++ 10 :: b) = (a ++ [32]) ++ 10 :: ((35 :: k) ++ 10 :: b) := by simp
  obtain ⟨p, x, h1, h2⟩ := parts_snoc (c := 10) (b := 32) (by decide) a
  unfold linesL
  rw [e, parts_app, parts_first b (fun y hy => (List.mem_cons.1 hy).elim (fun e => by subst e; decide) (hk y)), h2, h1, linesF_app, linesF_app, linesF_app]
  have e1 : ∀ n, linesF n [x ++ [32]] = linesF n [x] := fun n => by rw [linesF_cons, linesF_cons, line_snoc]
  have e2 : ∀ n r, linesF n ((35 :: k) :: r) = linesF (n + 1) r := fun n r => by conv => lhs; unfold linesF; rw [line_remark]
  rw [e1, e2, ← linesF_shift]
  congr 2
  simp
  omega
theorem parts_count : ∀ l : List UInt8, (partsL 10 l).length = (l.filter (· == 10)).length + 1
  | [] => rfl
  | b :: t => by
    have ih := parts_count t
    by_cases hb : b = 10
    · subst hb
      simp [partsL, ih]
    · obtain ⟨x, r, h1, h2⟩ := parts_cons (t := t) hb
      rw [h2]
      rw [h1] at ih
      have hf : (b == 10) = false := by simpa using hb
      rw [List.filter_cons, hf]
      simpa using ih
theorem lines_len : ∀ (n : Nat) (a : List (List UInt8)), (linesF n a).length ≤ a.length
  | n, [] => Nat.le_refl _
  | n, x :: r => by
    have := lines_len (n + 1) r
    unfold linesF
    cases lineL x <;> simp <;> omega

/-- All lines, as the program goes: their numbers, what they say. -/
def allL : Nat → Nat → List UInt8 → List (Nat × List UInt8)
  | 0, _, _ => []
  | f + 1, n, l => if l = [] then [] else (n, (Lib.cut (Lib.cut l [10]).1 [35]).1) :: allL f (n + 1) (Lib.cut l [10]).2.1
theorem cut_say (l : List UInt8) : (Lib.cut l [35]).1 = sayL l := by
  obtain ⟨r, h, _⟩ := cut_parts 35 l
  unfold sayL
  rw [← h]
  rfl
/-- What the program hands on of all lines. -/
def pick (x : Nat × List UInt8) : List (Nat × List (List UInt8)) := if tl x.2 = [] then [] else [(x.1, fieldsL 59 x.2)]
theorem all_lines : ∀ (f n : Nat) (l : List UInt8), l.length < f → (allL f n l).flatMap pick = linesF n (partsL 10 l)
  | 0, _, _, h => by omega
  | f + 1, n, l, h => by
    unfold allL
    by_cases hl : l = []
    · subst hl
      rfl
    · rw [if_neg hl, List.flatMap_cons, cut_say]
      obtain ⟨r, h1, h2, h3⟩ := cut_parts 10 l
      rw [← h1]
      have hp : linesF n ((Lib.cut l [10]).1 :: r) = pick (n, sayL (Lib.cut l [10]).1) ++ linesF (n + 1) r := by
        conv => lhs; unfold linesF
        unfold pick lineL
        dsimp only
        by_cases ht : tl (sayL (Lib.cut l [10]).1) = []
        · rw [if_pos ht, if_pos ht]; rfl
        · rw [if_neg ht, if_neg ht]; rfl
      rw [hp]
      congr 1
      by_cases hr : r = []
      · rw [h2 hr, hr]
        cases f <;> rfl
      · obtain ⟨h4, h5⟩ := h3 hr
        rw [h4]
        exact all_lines f (n + 1) _ (by omega)
end Go.Proofs.YtppmjlfecbaicaaDoor
