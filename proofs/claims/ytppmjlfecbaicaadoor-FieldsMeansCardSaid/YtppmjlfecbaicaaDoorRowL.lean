/- Rows of lines: a line's number is turned. -/
import Derived.Test.YtppmjlfecbaicaaDoorLaw1
namespace Go.Proofs.YtppmjlfecbaicaaDoor
open Go.RowKit
set_option linter.unusedVariables false
set_option linter.unusedSimpArgs false

theorem flatL_set : ∀ (l : List Rec) (i : Nat) (x y : Rec), l[i]? = some x → y.v = x.v → flatK kL (l.set i y) = (flatK kL l).set (i * 2) (.int .i64 (y.n : Int))
  | [], i, x, y, h, _ => by simp at h
  | z :: t, 0, x, y, h, hv => by
    simp at h
    subst h
    simp only [flatK, List.set_cons_zero, List.flatMap_cons]
    show [_, _] ++ _ = _
    rw [show y.v = z.v from hv]
    rfl
  | z :: t, i + 1, x, y, h, hv => by
    have ih := flatL_set t i x y (by simpa using h) hv
    simp only [flatK, List.set_cons_succ, List.flatMap_cons] at ih ⊢
    rw [ih, show (i + 1) * 2 = i * 2 + 1 + 1 by omega]
    rfl
theorem flatL_at {l : List Rec} {i : Nat} {x : Rec} (h : l[i]? = some x) : (flatK kL l)[i * 2]? = some (.int .i64 (x.n : Int)) := by
  have hi : i < l.length := (List.getElem?_eq_some_iff.1 h).1
  have := flat_at kL l i 0 hi (by decide)
  rw [Nat.add_zero, List.getD_eq_getElem?_getD, h] at this
  exact this
theorem rowL_at {w : World} {base g n c : Nat} {l : List Rec} (h : RowK kL w base (.slice (some ⟨g, 0, none⟩) n c) l) (hn : l.length = n) {i : Nat} {x : Rec} (hx : l[i]? = some x) :
    w.cell? ⟨g, i * 2, none⟩ = some (.int .i64 (x.n : Int)) ∧ w.frozen? ⟨g, i * 2, none⟩ = false := by
  subst hn
  have hi : i < l.length := (List.getElem?_eq_some_iff.1 hx).1
  have h2 : w.ownsRow base 42 2 (.slice (some ⟨g, 0, none⟩) l.length c) l.length (flatK kL l) := h
  exact ⟨(h2.cellAt (i * 2) (by omega)).trans (flatL_at hx), h2.frozenAt _⟩
theorem rowL_set {w : World} {base g n c : Nat} {l : List Rec} (h : RowK kL w base (.slice (some ⟨g, 0, none⟩) n c) l) (hn : l.length = n) {i : Nat} {x : Rec} (hx : l[i]? = some x) (y : Rec) (hv : y.v = x.v) :
    RowK kL (w.setCell ⟨g, i * 2, none⟩ (.int .i64 (y.n : Int))) base (.slice (some ⟨g, 0, none⟩) n c) (l.set i y) ∧ w.grownBy (w.setCell ⟨g, i * 2, none⟩ (.int .i64 (y.n : Int))) (some g) := by
  subst hn
  have h2 := World.ownsRow.stored h (i * 2) (.int .i64 (y.n : Int))
  refine ⟨?_, h2.2⟩
  unfold RowK
  rw [flatL_set l i x y hx hv, List.length_set]
  exact h2.1
theorem rowL_some {w : World} {base n c : Nat} {A : Option Addr} {l : List Rec} (h : RowK kL w base (.slice A n c) l) (hn : 0 < n) : ∃ g, A = some ⟨g, 0, none⟩ ∧ base ≤ g := by
  rcases h.2 with ⟨e, _⟩ | ⟨g, cap, cur, hv, hg, _⟩
  · injection e with _ e2 _
    omega
  · injection hv with e1 _ _
    exact ⟨g, e1, hg⟩
/-- The same line, later by some. -/
def later (k : Nat) (x : Rec) : Rec := { x with n := x.n + k }
theorem take_setR {l m : List Rec} {i : Nat} {x : Rec} (h : l.take i = m.take i) (hi : i < l.length) (hx : m[i]? = some x) : (l.set i x).take (i + 1) = m.take (i + 1) := by
  rw [List.take_add_one, List.take_add_one, hx, List.take_set_of_le (Nat.le_refl _), h, List.getElem?_set_self hi]
theorem lines_num (l : List UInt8) : ∀ y ∈ linesV l, y.1 ≤ l.length + 1 := by
  have key : ∀ (P : List (List UInt8)) (n : Nat), ∀ y ∈ linesF n P, y.1 < n + P.length := by
    intro P
    induction P with
    | nil => intro n y hy; cases hy
    | cons x r ih =>
      intro n y hy
      rw [linesF_cons] at hy
      have h := ih (n + 1)
      cases hl : lineL x with
      | none => rw [hl] at hy; have := h y hy; simp; omega
      | some f =>
        rw [hl] at hy
        rcases List.mem_cons.1 hy with rfl | hy
        · simp
        · have := h y hy; simp; omega
  intro y hy
  unfold linesV linesL at hy
  obtain ⟨z, hz, rfl⟩ := List.mem_map.1 hy
  have := key _ 1 z hz
  have := parts_len_le 10 l
  show z.1 ≤ _
  omega
/-- A store into a row of lines keeps rows of texts. -/
theorem row_keepS {w w' : World} {base b2 g n c : Nat} {u : Value} {hs : List Rec} {fs : List ByteArray} (hout : RowK kL w base (.slice (some ⟨g, 0, none⟩) n c) hs) (hg : w.grownBy w' (some g)) (h : RowK kS w b2 u fs) : RowK kS w' b2 u fs :=
  row_app (v := .slice (some ⟨g, 0, none⟩) n c) hout hg h
end Go.Proofs.YtppmjlfecbaicaaDoor
