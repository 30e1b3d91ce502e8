/- The reference's insertion: its steps. -/
import Derived.Test.YtpghnoadeamplaaShift
namespace Go.Proofs.Ytpghnoadeamplaa
open Go.RowKit
set_option linter.unusedVariables false
set_option linter.unusedSimpArgs false

theorem wpList_shift {w : World} {ops : Array Oper} {rest : List Oper} {o : Oper} {a : Act} {Q : Exit → Act → World → Prop} (hgd : o.guard = none) (d s : Operand)
    (ho : o.op = .call { callee := .builtin .copy, args := #[d, s], argTypes := #[22, 22] }) {base g c : Nat} {l : List Rg} (j : Nat)
    (dp : Option Addr) (dLen dCap sLen sCap n : Nat) (hd : a.eval d = .slice dp dLen dCap) (hs : a.eval s = .slice (some ⟨g, j * 3, none⟩) sLen sCap)
    (hrow : RowR w base (.slice (some ⟨g, 0, none⟩) n c) l) (hnl : n = l.length) (hdl : dLen = l.length - (j + 1)) (hsl : sLen = l.length - j) (hb : base ≤ w.heap.size) (hj : j < l.length) (hdp : j + 1 < l.length → dp = some ⟨g, (j + 1) * 3, none⟩)
    (h : ∀ w', RowR w' base (.slice (some ⟨g, 0, none⟩) n c) (l.take (j + 1) ++ (l.drop j).take (l.length - (j + 1))) → Below base w w' → wpList Try.prog ops Q rest (a.put o.dst (goInt dLen)) w') :
    wpList Try.prog ops Q (o :: rest) a w := by
  subst hnl
  subst hdl
  subst hsl
  rcases hrow.form with ⟨h2, _⟩ | ⟨g', c', cur, he, h1, h2, h3, h4, h5, h6, h7⟩
  · cases h2
  · injection he with e1 e2 e3
    injection e1 with e1
    injection e1 with e1
    subst e1
    subst e3
    have hs3 : (Try.prog.info? 24).map (·.size) = some 3 := info24
    obtain ⟨s1, s2⟩ := row_shift hrow h4 h7 hj (by rw [h6]; omega)
    have hlen : (((flat l).drop (j * 3)).take ((l.length - (j + 1)) * 3)).length = (l.length - (j + 1)) * 3 := by
      rw [s1, flat_length, List.length_take, List.length_drop]; omega
    refine wpList_copyK (w := w) hgd d s 22 22 ho 24 3 Try.underlying22 hs3 dp (some ⟨g, j * 3, none⟩) (l.length - (j + 1)) dCap (l.length - j) sCap hd hs g ((j + 1) * 3) cur 24 h4
      (((flat l).drop (j * 3)).take ((l.length - (j + 1)) * 3)) (l.length - (j + 1)) ?_ hlen ?_ ?_ ?_ ?_
    · exact Nat.min_eq_right (by omega)
    · intro hp
      refine ⟨hdp (by omega), _, rfl, fun i v hv => ?_⟩
      rw [List.getElem?_take] at hv
      split at hv
      · rw [List.getElem?_drop, ← h7, List.getElem?_take] at hv
        split at hv
        · rw [Addr.add_mid, Blk.cell (t := 24) h4, ← Array.getElem?_toList]; exact hv
        · cases hv
      · cases hv
    · rw [hlen, h6]; omega
    · intro v hv
      exact flat_one l v (List.mem_of_mem_drop (List.mem_of_mem_take hv))
    · refine h _ s2 ?_
      exact (Below.refl base w).trans ⟨rfl, rfl, rfl, by simp [World.setRow], fun k hk => setRow_other w g k _ (by omega)⟩

/-- One range appended, at a plain region's list. -/
theorem wpList_oneR {w : World} {ops : Array Oper} {rest : List Oper} {o : Oper} {a : Act} {Q : Exit → Act → World → Prop} (hgd : o.guard = none) (s x : Operand)
    (ho : o.op = .call { callee := .builtin .append, args := #[s, x], argTypes := #[22, 22] })
    {base : Nat} {v : Value} {l : List Rg} {b : Nat} {c : Nat} (m : Rg) (hs : a.eval s = v) (hown : RowR w base v l) (hx : a.eval x = .slice (some ⟨b, 0, none⟩) 1 c) (hr : Blk w b 24 #[.int .i32 m.lo, .int .i32 m.hi, .int .i64 m.val])
    (hn : l.length + 1 ≤ 1000000000000) (hb : base ≤ w.heap.size)
    (h : ∀ g c' w', RowR w' base (.slice (some ⟨g, 0, none⟩) (l.length + 1) c') (l ++ [m]) → w.grownBy w' v.ownBlock → (v.ownBlock = some g ∨ g = w.heap.size) → wpList Try.prog ops Q rest (a.put o.dst (.slice (some ⟨g, 0, none⟩) (l.length + 1) c')) w') :
    wpList Try.prog ops Q (o :: rest) a w := by
  obtain ⟨i0, hi, hz0, hz1, hz2⟩ := zero24
  refine wpList_append_lies w hgd s x 22 ho base 24 i0 _ 3 16 Try.underlying22 hi hz0 hz1 hz2 rfl (by decide) v l.length (flat l) hs
    hown ⟨b, 0, none⟩ 1 c m.cells hx rfl ?_ ?_ (by omega) ?_ ?_ hb _ rfl ?_
  · exact World.news_of_block hr
  · intro u hu
    simp only [Rg.cells, List.mem_cons, List.not_mem_nil, or_false] at hu
    rcases hu with rfl | rfl | rfl <;> rfl
  · unfold maxLen; omega
  · omega
  · intro g cap w' h2 h3 h4 _
    refine h g cap w' ?_ h3 h4
    unfold RowR flat
    simpa using h2

theorem ins_length (m : List Rg) (x : Rg) : (ins m x).length = m.length + 1 := by
  have := (ins_perm m x).length_eq
  simpa using this
theorem foldl_ins_length : ∀ (l m : List Rg), (l.foldl ins m).length = m.length + l.length
  | [], m => by simp
  | x :: t, m => by
    rw [List.foldl_cons, foldl_ins_length t, ins_length]; simp; omega
theorem insK_length {l : List Rg} {k : Nat} (hk : k ≤ l.length) : ((l.take k).foldl ins []).length = k := by
  rw [foldl_ins_length, List.length_take]; simp; omega
theorem insK_next {l : List Rg} {k : Nat} (hk : k < l.length) : (l.take (k + 1)).foldl ins [] = ins ((l.take k).foldl ins []) (l.getD k default) := by
  rw [List.take_add_one, List.getElem?_eq_getElem hk, List.foldl_append]
  simp [List.getD_eq_getElem?_getD, List.getElem?_eq_getElem hk]
/-- Where the while loop stops. -/
theorem ins_at {m : List Rg} {x : Rg} {q : Nat} (hq : q ≤ m.length) (h1 : ∀ j, j < q → (m.getD j default).lo < x.lo) (h2 : q < m.length → ¬ (m.getD q default).lo < x.lo) : ins m x = m.take q ++ x :: m.drop q := by
  unfold ins
  induction m generalizing q with
  | nil => simp
  | cons y t ih =>
    cases q with
    | zero =>
      have := h2 (by simp)
      simp at this
      simp [show ¬ y.lo < x.lo by omega]
    | succ q =>
      have h0 := h1 0 (by omega)
      simp at h0
      have := ih (q := q) (by simpa using hq) (fun j hj => by have := h1 (j + 1) (by omega); simpa using this) (fun hh => by have := h2 (by simp; omega); simpa using this)
      simp only [List.takeWhile_cons, List.dropWhile_cons, h0, decide_true, if_true, List.take_succ_cons, List.drop_succ_cons, List.cons_append]
      rw [this]
/-- The row behind append, copy, and the store. -/
theorem shift_ins {m : List Rg} {x z : Rg} {q : Nat} (hq : q ≤ m.length) :
    ((m ++ [z]).take (q + 1) ++ ((m ++ [z]).drop q).take ((m ++ [z]).length - (q + 1))).set q x = m.take q ++ x :: m.drop q := by
  have hl : (m ++ [z]).length = m.length + 1 := by simp
  apply List.ext_getElem?
  intro i
  rw [hl]
  simp only [List.getElem?_set, List.getElem?_append, List.length_append, List.length_take, List.length_drop, List.getElem?_take, List.getElem?_drop, List.length_cons, List.length_nil, Nat.zero_add, hl]
  have e1 : min (q + 1) (m.length + 1) = q + 1 := by omega
  have e2 : min q m.length = q := by omega
  rw [e1, e2]
  by_cases a1 : i < q
  · have b1 : ¬ q = i := by omega
    have b2 : i < q + 1 := by omega
    have b3 : i < m.length := by omega
    simp [a1, b1, b2, b3]
  · by_cases a2 : i = q
    · subst a2
      simp
      omega
    · have b1 : ¬ q = i := by omega
      have b2 : ¬ i < q + 1 := by omega
      obtain ⟨t, rfl⟩ : ∃ t, i = q + 1 + t := ⟨i - (q + 1), by omega⟩
      have b4 : q + 1 + t - q = t + 1 := by omega
      have b5 : q + 1 + t - (q + 1) = t := by omega
      rw [if_neg b1, if_neg b2, if_neg a1, b4, b5]
      simp only [List.getElem?_cons_succ, List.getElem?_drop]
      by_cases b6 : q + t < m.length
      · have b7 : t < m.length + 1 - (q + 1) := by omega
        simp [b6, b7]
        omega
      · have b7 : ¬ t < m.length + 1 - (q + 1) := by omega
        rw [if_neg b7]
        exact (List.getElem?_eq_none (by omega)).symm
theorem len_shift (m : List Rg) (z : Rg) (q : Nat) (hq : q ≤ m.length) : ((m ++ [z]).take (q + 1) ++ ((m ++ [z]).drop q).take ((m ++ [z]).length - (q + 1))).length = m.length + 1 := by
  simp only [List.length_append, List.length_take, List.length_drop, List.length_cons, List.length_nil]; omega

/-- The cells of a range of a row, for a store. -/
theorem row_cells {w : World} {base g n c j : Nat} {l : List Rg} (h : RowR w base (.slice (some ⟨g, 0, none⟩) n c) l) (hj : j < l.length) : ∃ y : Rg,
    w.cell? ⟨g, j * 3, none⟩ = some (.int .i32 y.lo) ∧ w.cell? ⟨g, j * 3 + 1, none⟩ = some (.int .i32 y.hi) ∧ w.cell? ⟨g, j * 3 + 2, none⟩ = some (.int .i64 y.val) ∧
    w.frozen? ⟨g, j * 3, none⟩ = false ∧ w.frozen? ⟨g, j * 3 + 1, none⟩ = false ∧ w.frozen? ⟨g, j * 3 + 2, none⟩ = false ∧ base ≤ g ∧ g < w.heap.size := by
  rcases h.form with ⟨h2, _⟩ | ⟨g', c', cur, he, h1, h2, h3, h4, h5, h6, h7⟩
  · cases h2
  · injection he with e1 e2 e3
    injection e1 with e1
    injection e1 with e1
    subst e1
    have h8 := h5 j hj
    simp only [Nat.zero_add] at h8
    exact ⟨l.getD j default, by simpa using h8 0 _ rfl, h8 1 _ rfl, h8 2 _ rfl, h4.frozen _, h4.frozen _, h4.frozen _, h3, h4.lt⟩
theorem row_set' {w : World} {base g n c j : Nat} {l : List Rg} (x : Rg) (h : RowR w base (.slice (some ⟨g, 0, none⟩) n c) l) (hn : n = l.length) (hj : j < l.length) :
    RowR (((w.setCell ⟨g, j * 3, none⟩ (.int .i32 x.lo)).setCell ⟨g, j * 3 + 1, none⟩ (.int .i32 x.hi)).setCell ⟨g, j * 3 + 2, none⟩ (.int .i64 x.val)) base (.slice (some ⟨g, 0, none⟩) n c) (l.set j x) := by
  subst hn
  exact row_set x h hj
end Go.Proofs.Ytpghnoadeamplaa
