/- Regions whose order is drawn: equal values; what waits; candidates. -/
import Derived.Test.YtgoiaciamgailaaGreatDoorRRRREvD3
namespace Go.Ev
set_option linter.unusedVariables false
set_option linter.unusedSimpArgs false
set_option linter.unusedSectionVars false
set_option linter.unnecessarySimpa false

theorem bytes_eq {x y : ByteArray} (h : (x.data.toList == y.data.toList) = true) : x = y := by
  have h1 : x.data.toList = y.data.toList := by simpa using h
  have h2 : x.data = y.data := Array.toList_inj.1 h1
  cases x; cases y
  simp only at h2
  rw [h2]
theorem isEmpty_eq {α : Type} {a b : Array α} (h : (a.isEmpty && b.isEmpty) = true) : a = b := by
  rw [Bool.and_eq_true, Array.isEmpty_iff, Array.isEmpty_iff] at h
  rw [h.1, h.2]
theorem scal_eq {a b : Value} (h : scal a b = true) : a = b := by
  unfold scal at h
  split at h <;> first
    | rfl
    | (rw [bytes_eq h])
    | (rw [isEmpty_eq h])
    | (simp only [Bool.and_eq_true, beq_iff_eq, decide_eq_true_eq, Tr.beq_of] at h; (try obtain ⟨h1, h2⟩ := h); subst_vars; rfl)
    | cases h
theorem beqVs_eq : ∀ {a b : List Value}, beqVs a b = true → a = b
  | [], [], _ => rfl
  | x :: xs, y :: ys, h => by
    simp only [beqVs, Bool.and_eq_true] at h
    rw [scal_eq h.1, beqVs_eq h.2]
  | [], _ :: _, h => by cases h
  | _ :: _, [], h => by cases h
theorem beqVal_eq {a b : Value} (h : beqS (.val a) (.val b) = true) : a = b := by
  unfold beqS at h
  split at h <;> first
      | rfl
      | (rw [bytes_eq h])
      | (rw [isEmpty_eq h])
      | (rw [Array.toList_inj.1 (beqVs_eq h)])
      | (simp only [Bool.and_eq_true, beq_iff_eq, decide_eq_true_eq, Tr.beq_of] at h; obtain ⟨h1, h2⟩ := h; rw [h1, scal_eq h2]; done)
      | (simp only [Bool.and_eq_true, beq_iff_eq, decide_eq_true_eq, Tr.beq_of] at h; (try obtain ⟨h1, h2⟩ := h); subst_vars; rfl)
      | cases h
mutual
theorem beqS_eq : ∀ (a b : SV), beqS a b = true → a = b
  | .val a, y, h => by
    cases y <;> first
      | (rw [beqVal_eq h])
      | (unfold beqS at h; cases h)
  | .ptr a b, y, h => by
    cases y <;> unfold beqS at h <;> first
      | (simp only [Bool.and_eq_true, Tr.beq_of, decide_eq_true_eq] at h; rw [h.1, h.2])
      | cases h
  | .slice a b n c, y, h => by
    cases y <;> unfold beqS at h <;> first
      | (simp only [Bool.and_eq_true, Tr.beq_of, decide_eq_true_eq, beq_iff_eq] at h; rw [h.1.1.1, h.1.1.2, h.1.2, h.2])
      | cases h
  | .map a, y, h => by
    cases y <;> unfold beqS at h <;> first
      | (simp only [Tr.beq_of, decide_eq_true_eq] at h; rw [h])
      | cases h
  | .func fn x y, z, h => by
    cases z with
    | func fn' x' y' =>
      cases fn <;> cases fn' <;> unfold beqS at h <;> first
        | (simp only [Bool.and_eq_true, Tr.beq_of, decide_eq_true_eq] at h; rw [h.1.1, beqSs_eq _ _ h.1.2, beqSs_eq _ _ h.2])
        | cases h
    | _ => cases fn <;> unfold beqS at h <;> cases h
  | .iface t x, y, h => by
    cases y <;> unfold beqS at h <;> first
      | (simp only [Bool.and_eq_true, Tr.beq_of, decide_eq_true_eq] at h; rw [h.1, beqS_eq _ _ h.2])
      | cases h
  | .unk, y, h => by
    cases y <;> first
      | rfl
      | (unfold beqS at h; cases h)
  | .zstr a, y, h => by
    cases y <;> unfold beqS at h <;> first
      | (simp only [Tr.beq_of, decide_eq_true_eq] at h; rw [h])
      | cases h
  | .arr t l n, y, h => by
    cases y <;> unfold beqS at h <;> first
      | (simp only [Bool.and_eq_true, Tr.beq_of, decide_eq_true_eq] at h; rw [h.1.1, beqSs_eq _ _ h.1.2, beqT_eq _ _ h.2])
      | cases h
  | .agg l, y, h => by
    cases y <;> unfold beqS at h <;> first
      | (rw [beqSs_eq _ _ h])
      | cases h
  | .tup l, y, h => by
    cases y <;> unfold beqS at h <;> first
      | (rw [beqSs_eq _ _ h])
      | cases h
theorem beqT_eq : ∀ (a b : Tr SV), beqT a b = true → a = b
  | .e, .e, _ => rfl
  | .e, .n _ _ _, h => by unfold beqT at h; cases h
  | .n _ _ _, .e, h => by unfold beqT at h; cases h
  | .n l v r, .n l' v' r', h => by
    unfold beqT at h
    simp only [Bool.and_eq_true] at h
    rw [beqO_eq _ _ h.1.1, beqT_eq _ _ h.1.2, beqT_eq _ _ h.2]
theorem beqO_eq : ∀ (a b : Option SV), beqO a b = true → a = b
  | none, none, _ => rfl
  | none, some _, h => by unfold beqO at h; cases h
  | some _, none, h => by unfold beqO at h; cases h
  | some a, some b, h => by
    unfold beqO at h
    rw [beqS_eq _ _ h]
theorem beqSs_eq : ∀ (a b : List SV), beqSs a b = true → a = b
  | [], [], _ => rfl
  | [], _ :: _, h => by unfold beqSs at h; cases h
  | _ :: _, [], h => by unfold beqSs at h; cases h
  | x :: xs, y :: ys, h => by
    unfold beqSs at h
    simp only [Bool.and_eq_true] at h
    rw [beqS_eq _ _ h.1, beqSs_eq _ _ h.2]
end
theorem keepP_mem {m : Nat} {p : Pend} : ∀ {ps : List Pend}, p ∈ keepP m ps ↔ p ∈ ps ∧ m.testBit p.i = false
  | [] => by simp [keepP]
  | q :: ps => by
    have ih := keepP_mem (m := m) (p := p) (ps := ps)
    have e : keepP m (q :: ps) = bif has m q.i then keepP m ps else q :: keepP m ps := rfl
    rw [e, has_eq]
    cases hq : m.testBit q.i with
    | true =>
      rw [cond_true, ih, List.mem_cons]
      constructor
      · exact fun ⟨a, b⟩ => ⟨.inr a, b⟩
      · rintro ⟨rfl | a, b⟩
        · rw [hq] at b; cases b
        · exact ⟨a, b⟩
    | false =>
      rw [cond_false, List.mem_cons, ih, List.mem_cons]
      constructor
      · rintro (rfl | ⟨a, b⟩)
        · exact ⟨.inl rfl, hq⟩
        · exact ⟨.inr a, b⟩
      · rintro ⟨rfl | a, b⟩
        · exact .inl rfl
        · exact .inr ⟨a, b⟩
theorem cands_mem {E : Env} {ms : Tr Nat} {d : Nat} : ∀ {l : List Oper} {k : Nat} {c : Nat × Oper}, c ∈ cands E ms d l k ↔ ∃ j, l[j]? = some c.2 ∧ c.1 = k + j ∧ quietOp E c.2 = false ∧ d.testBit c.1 = false ∧ sub (mkOf ms c.1) d = true
  | [], k, c => by simp [cands]
  | o :: l, k, c => by
    have ih := cands_mem (E := E) (ms := ms) (d := d) (l := l) (k := k + 1) (c := c)
    have e : cands E ms d (o :: l) k = bif not (quietOp E o) && not (has d k) && sub ((ms.get k).getD 0) d then (k, o) :: cands E ms d l (k + 1) else cands E ms d l (k + 1) := rfl
    have stp : (∃ j, (o :: l)[j]? = some c.2 ∧ c.1 = k + j ∧ quietOp E c.2 = false ∧ d.testBit c.1 = false ∧ sub (mkOf ms c.1) d = true) ↔ (c = (k, o) ∧ quietOp E o = false ∧ d.testBit k = false ∧ sub (mkOf ms k) d = true) ∨ ∃ j, l[j]? = some c.2 ∧ c.1 = k + 1 + j ∧ quietOp E c.2 = false ∧ d.testBit c.1 = false ∧ sub (mkOf ms c.1) d = true := by
      constructor
      · rintro ⟨j, h1, h2, h3, h4, h5⟩
        cases j with
        | zero =>
          simp only [List.getElem?_cons_zero, Option.some.injEq] at h1
          have h2' : c.1 = k := by omega
          obtain ⟨c1, c2⟩ := c
          simp only at h1 h2' h3 h4 h5
          subst h1; subst h2'
          exact .inl ⟨rfl, h3, h4, h5⟩
        | succ j => exact .inr ⟨j, by simpa using h1, by omega, h3, h4, h5⟩
      · rintro (⟨rfl, h3, h4, h5⟩ | ⟨j, h1, h2, h3, h4, h5⟩)
        · exact ⟨0, by simp, rfl, h3, h4, h5⟩
        · exact ⟨j + 1, by simpa using h1, by omega, h3, h4, h5⟩
    rw [stp, e]
    cases hc : (not (quietOp E o) && not (has d k) && sub ((ms.get k).getD 0) d) with
    | true =>
      simp only [Bool.and_eq_true, Bool.not_eq_true', has_eq] at hc
      rw [cond_true, List.mem_cons, ih]
      constructor
      · rintro (rfl | h)
        · exact .inl ⟨rfl, hc.1.1, hc.1.2, hc.2⟩
        · exact .inr h
      · rintro (h | h)
        · exact .inl h.1
        · exact .inr h
    | false =>
      rw [cond_false, ih]
      constructor
      · exact .inr
      · rintro (⟨_, h1, h2, h3⟩ | h)
        · rw [h1, has_eq, h2] at hc
          rw [show sub ((ms.get k).getD 0) d = true from h3] at hc
          cases hc
        · exact h
theorem recheck_mem {E : Env} {ops : List Oper} {h : Heap} : ∀ {ps : List Pend}, recheck E ops h ps = true → ∀ p, p ∈ ps → quietRun E ops p.o p.st h = some p.v
  | [], _, p, hp => by cases hp
  | q :: ps, hv, p, hp => by
    unfold recheck at hv
    cases hr : quietRun E ops q.o q.st h with
    | none => rw [hr] at hv; cases hv
    | some v =>
      rw [hr] at hv
      simp only at hv
      cases hb : beqS v q.v with
      | false => rw [hb] at hv; cases hv
      | true =>
        rw [hb] at hv
        rcases List.mem_cons.1 hp with rfl | hp
        · rw [hr, beqS_eq _ _ hb]
        · exact recheck_mem hv p hp
theorem look_map (f : Tmp → SV) (t : Tmp) : ∀ (l : List Tmp), look (l.map fun t => (t, f t)) t = if t ∈ l then some (f t) else none
  | [] => by simp [look_nil]
  | x :: l => by
    rw [List.map_cons, look_cons, look_map f t l]
    by_cases e : x = t
    · subst e; rw [if_pos rfl, if_pos (.head _)]
    · rw [if_neg e]
      by_cases h : t ∈ l
      · rw [if_pos h, if_pos (.tail _ h)]
      · rw [if_neg h, if_neg (fun hm => by rcases List.mem_cons.1 hm with e2 | h2; exact e e2.symm; exact h h2)]
theorem AR.restrict {ρ : Rho} {N : Nat} {ops : List Oper} {o : Oper} {X : St} {tmps : Array Value} (hs : tmps.size = X.n) (hl : ∀ t, t ∈ looks ops o → VR ρ N (getT X t) (tmps.getD t undef)) : AR ρ N (restrict ops o X) tmps [] := by
  refine ⟨hs, rfl, Nat.zero_le _, fun t => ?_, .nil⟩
  have e : getT (Ev.restrict ops o X) t = orUnk (look ((looks ops o).map fun t => (t, getT X t)) t) := by
    simp only [getT, Ev.restrict, blt_eq]
    rw [decide_eq_false (Nat.not_lt_zero _), cond_false]
  rw [e, look_map]
  by_cases h : t ∈ looks ops o
  · rw [if_pos h]; exact hl t h
  · rw [if_neg h]; exact .unk _
end Go.Ev
