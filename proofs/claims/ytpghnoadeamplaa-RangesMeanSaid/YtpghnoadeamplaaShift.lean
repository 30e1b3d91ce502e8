/- copy within a row of ranges; a range appended; a range stored. -/
import Derived.Test.YtpghnoadeamplaaWith2
import Derived.Laws.CopyOwn
namespace Go.Proofs.Ytpghnoadeamplaa
open Go.RowKit
set_option linter.unusedVariables false
set_option linter.unusedSimpArgs false

theorem run_copyK {P : Program} (w : World) (dT sT ty elem : TypeId) (k : Nat) (dp sp : Option Addr) (g off dLen dCap sLen sCap : Nat) (cur : Array Value) (t : TypeId) (cs : List Value) (m : Nat)
    (hu : P.underlying dT = some (.slice elem)) (hs : (P.info? elem).map (·.size) = some k)
    (hg : w.heap[g]? = some (.cells cur t (0, 0))) (hm : Nat.min sLen dLen = m) (hl : cs.length = m * k)
    (hpos : 0 < m → dp = some ⟨g, off, none⟩ ∧ ∃ ad, sp = some ad ∧ ∀ j v, cs[j]? = some v → w.cell? (ad.add j) = some v)
    (hfit : off + cs.length ≤ cur.size) (h1 : ∀ v ∈ cs, v.oneCell' = true) :
    (Builtin.copy_ #[dT, sT] ty #[.slice dp dLen dCap, .slice sp sLen sCap]).run P w =
      .ok (goInt m) (w.setRow g (cur.toList.take off ++ cs ++ cur.toList.drop (off + cs.length)).toArray) := by
  cases hq : P.info? elem with
  | none => simp [hq] at hs
  | some i =>
    have hi : i.size = k := by simpa [hq] using hs
    rcases Nat.eq_zero_or_pos m with h0 | h0
    · subst h0
      have hc : cs = [] := List.eq_nil_of_length_eq_zero (by simpa using hl)
      subst hc
      have hl0 : ∀ (x : Addr), (loadCells x 0).run P w = .ok #[] w := fun x => by simpa using run_loadCells_list (P := P) w x [] (by simp)
      have hself : w.setRow g (cur.toList.take off ++ [] ++ cur.toList.drop (off + ([] : List Value).length)).toArray = w := by
        simp
        exact setRow_self w g cur t (0, 0) hg
      rw [hself]
      cases dp <;> cases sp <;> simp [Builtin.copy_, run_underlying hu, Builtin.lenOf, Builtin.firstCells, sizeOf, typeInfo, hq, hm, storeCells, hl0]
    · obtain ⟨rfl, ad, rfl, hsrc⟩ := hpos h0
      have hld := run_loadCells_list (P := P) w ad cs hsrc
      have hst := run_storeCells_at P g off t cs 0 cur w hg (by simpa using hfit) h1
      rw [hl] at hld
      simp [Builtin.copy_, run_underlying hu, Builtin.lenOf, Builtin.firstCells, sizeOf, typeInfo, hq, hi, hm, hld, hst]

theorem wpList_copyK {P : Program} {w : World} {ops : Array Oper} {rest : List Oper} {o : Oper} {a : Act} {Q : Exit → Act → World → Prop} (hgd : o.guard = none) (d s : Operand) (dT sT : TypeId)
    (ho : o.op = .call { callee := .builtin .copy, args := #[d, s], argTypes := #[dT, sT] }) (elem : TypeId) (k : Nat) (hu : P.underlying dT = some (.slice elem)) (hsz : (P.info? elem).map (·.size) = some k)
    (dp sp : Option Addr) (dLen dCap sLen sCap : Nat) (hd : a.eval d = .slice dp dLen dCap) (hs : a.eval s = .slice sp sLen sCap)
    (g off : Nat) (cur : Array Value) (t : TypeId) (hg : w.heap[g]? = some (.cells cur t (0, 0))) (cs : List Value) (m : Nat) (hm : Nat.min sLen dLen = m) (hl : cs.length = m * k)
    (hpos : 0 < m → dp = some ⟨g, off, none⟩ ∧ ∃ ad, sp = some ad ∧ ∀ j v, cs[j]? = some v → w.cell? (ad.add j) = some v)
    (hfit : off + cs.length ≤ cur.size) (h1 : ∀ v ∈ cs, v.oneCell' = true)
    (h : wpList P ops Q rest (a.put o.dst (goInt m)) (w.setRow g (cur.toList.take off ++ cs ++ cur.toList.drop (off + cs.length)).toArray)) :
    wpList P ops Q (o :: rest) a w := by
  refine wpList_plain hgd fun _ hK => ?_
  have hrun := run_copyK (P := P) w dT sT o.type elem k dp sp g off dLen dCap sLen sCap cur t cs m hu hsz hg hm hl hpos hfit h1
  unfold Oper.wp
  simp only [execOp, ho, resolve, invoke, builtin, Sem.run_bind, Sem.run_pure, Result.andThen_ok, List.map_toArray, List.map_cons, List.map_nil, hd, hs, hrun]
  exact hK _ _ h

theorem flat_append (a b : List Rg) : flat (a ++ b) = flat a ++ flat b := by simp [flat]
theorem flat_take (l : List Rg) (j : Nat) : flat (l.take j) = (flat l).take (j * 3) := by
  induction l generalizing j with
  | nil => simp [flat]
  | cons x t ih =>
    cases j with
    | zero => simp [flat]
    | succ j =>
      have h3 : x.cells.length = 3 := rfl
      rw [List.take_succ_cons, show flat (x :: t.take j) = x.cells ++ flat (t.take j) from by simp [flat], show flat (x :: t) = x.cells ++ flat t from by simp [flat], ih,
        List.take_append, h3, List.take_of_length_le (l := x.cells) (by rw [h3]; omega), show (j + 1) * 3 - 3 = j * 3 from by omega]
theorem flat_drop (l : List Rg) (j : Nat) : flat (l.drop j) = (flat l).drop (j * 3) := by
  induction l generalizing j with
  | nil => simp [flat]
  | cons x t ih =>
    cases j with
    | zero => simp [flat]
    | succ j =>
      have h3 : x.cells.length = 3 := rfl
      rw [List.drop_succ_cons, show flat (x :: t) = x.cells ++ flat t from by simp [flat], ih,
        List.drop_append, h3, show x.cells.drop ((j + 1) * 3) = [] from List.drop_eq_nil_of_le (by rw [h3]; omega), show (j + 1) * 3 - 3 = j * 3 from by omega]
      rfl

/-- A row behind a write of its block: the same, but for the ranges. -/
theorem row_put {w : World} {base g c : Nat} {l l' : List Rg} {cur cur' : Array Value} (h : RowR w base (.slice (some ⟨g, 0, none⟩) l.length c) l) (hb : Blk w g 24 cur) (hn : l'.length = l.length) (hs : cur'.size = cur.size)
    (ht : cur'.toList.take (l.length * 3) = flat l') {w' : World} (hb' : Blk w' g 24 cur') : RowR w' base (.slice (some ⟨g, 0, none⟩) l.length c) l' := by
  rcases h.2 with ⟨h2, _⟩ | ⟨g', cap, cur0, he, hbase, hh, ha, hc, hsz, _⟩
  · cases h2
  · injection he with e1 e2 e3
    injection e1 with e1
    injection e1 with e1
    subst e1
    subst e3
    unfold Blk at hb
    rw [hb] at hh
    injection hh with hh
    injection hh with hh _
    subst hh
    have hfl : (flat l').length = l.length * 3 := by rw [flat_length, hn]
    refine ⟨by rw [flat_length], .inr ⟨g, c, cur', by rw [hn], hbase, hb', by rw [hn]; exact ha, hc, by rw [hs]; exact hsz, ?_⟩⟩
    rw [hn, ht]

/-- The row behind copy(out[j+1:], out[j:]). -/
theorem row_shift {w : World} {base g c : Nat} {l : List Rg} {cur : Array Value} {j : Nat} (h : RowR w base (.slice (some ⟨g, 0, none⟩) l.length c) l) (hb : Blk w g 24 cur) (ht : cur.toList.take (l.length * 3) = flat l) (hj : j < l.length) (hsz : l.length * 3 ≤ cur.size) :
    ((flat l).drop (j * 3)).take ((l.length - (j + 1)) * 3) = flat ((l.drop j).take (l.length - (j + 1))) ∧
    RowR (w.setRow g (cur.toList.take ((j + 1) * 3) ++ ((flat l).drop (j * 3)).take ((l.length - (j + 1)) * 3) ++ cur.toList.drop ((j + 1) * 3 + (((flat l).drop (j * 3)).take ((l.length - (j + 1)) * 3)).length)).toArray) base (.slice (some ⟨g, 0, none⟩) l.length c)
      (l.take (j + 1) ++ (l.drop j).take (l.length - (j + 1))) := by
  have e : ((flat l).drop (j * 3)).take ((l.length - (j + 1)) * 3) = flat ((l.drop j).take (l.length - (j + 1))) := by rw [flat_take, flat_drop]
  have hlen : (((flat l).drop (j * 3)).take ((l.length - (j + 1)) * 3)).length = (l.length - (j + 1)) * 3 := by
    rw [e, flat_length, List.length_take, List.length_drop]; omega
  refine ⟨e, row_put h hb ?_ ?_ ?_ (setRow_heap w g cur _ 24 _ hb)⟩
  · rw [List.length_append, List.length_take, List.length_take, List.length_drop]; omega
  · simp only [List.size_toArray, List.length_append, hlen, List.length_take, List.length_drop, Array.length_toList]; omega
  · rw [hlen, List.toList_toArray, List.take_append_of_le_length (by simp only [List.length_append, hlen, List.length_take, Array.length_toList]; omega), List.take_of_length_le (by simp only [List.length_append, hlen, List.length_take, Array.length_toList]; omega), flat_append, ← e]
    congr 1
    have := congrArg (List.take ((j + 1) * 3)) ht
    rw [List.take_take, Nat.min_eq_left (by omega), ← flat_take] at this
    exact this

/-- The row behind a store of a whole range. -/
theorem row_set {w : World} {base g c : Nat} {l : List Rg} {j : Nat} (x : Rg) (h : RowR w base (.slice (some ⟨g, 0, none⟩) l.length c) l) (hj : j < l.length) :
    RowR (((w.setCell ⟨g, j * 3, none⟩ (.int .i32 x.lo)).setCell ⟨g, j * 3 + 1, none⟩ (.int .i32 x.hi)).setCell ⟨g, j * 3 + 2, none⟩ (.int .i64 x.val)) base (.slice (some ⟨g, 0, none⟩) l.length c) (l.set j x) := by
  rcases h.form with ⟨h2, _⟩ | ⟨g', c', cur, he, h1, h2, h3, h4, h5, h6, h7⟩
  · cases h2
  · injection he with e1 e2 e3
    injection e1 with e1
    injection e1 with e1
    subst e1
    subst e3
    refine row_put h h4 (by simp) ?_ ?_ (((h4.set_ (j * 3) _).set_ (j * 3 + 1) _).set_ (j * 3 + 2) _)
    · simp
    · simp only [Array.toList_setIfInBounds, List.take_set, h7]
      apply List.ext_getElem?
      intro i
      have hset : l.set j x = l.take j ++ [x] ++ l.drop (j + 1) := by
        rw [List.set_eq_take_append_cons_drop, if_pos hj]; simp
      rw [hset, flat_append, flat_append, flat_take, flat_drop]
      have hfl := flat_length l
      have hx : flat [x] = [.int .i32 x.lo, .int .i32 x.hi, .int .i64 x.val] := rfl
      rw [hx]
      simp only [List.getElem?_set, List.getElem?_append, List.length_append, List.length_take, List.length_set, hfl, List.length_cons, List.length_nil, List.getElem?_take, List.getElem?_drop]
      have hmin : min (j * 3) (l.length * 3) = j * 3 := by omega
      rw [hmin]
      by_cases a1 : i < j * 3
      · have b1 : ¬ j * 3 + 2 = i := by omega
        have b2 : ¬ j * 3 + 1 = i := by omega
        have b3 : ¬ j * 3 = i := by omega
        have b4 : i < j * 3 + (0 + 1 + 1 + 1) := by omega
        simp [a1, b1, b2, b3, b4]
      · by_cases a2 : i = j * 3
        · subst a2
          have b1 : j * 3 < l.length * 3 := by omega
          simp [b1]
        · by_cases a3 : i = j * 3 + 1
          · subst a3
            have b1 : j * 3 + 1 < l.length * 3 := by omega
            simp [b1]
            exact fun hh => absurd hh a1
          · by_cases a4 : i = j * 3 + 2
            · subst a4
              have b1 : j * 3 + 2 < l.length * 3 := by omega
              simp [b1]
              exact fun hh => absurd hh a1
            · have b1 : ¬ j * 3 + 2 = i := by omega
              have b2 : ¬ j * 3 + 1 = i := by omega
              have b3 : ¬ j * 3 = i := by omega
              have b4 : ¬ i < j * 3 + (0 + 1 + 1 + 1) := by omega
              simp [b1, b2, b3, b4]
              congr 1
              omega
end Go.Proofs.Ytpghnoadeamplaa
