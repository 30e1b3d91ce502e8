/- Regions whose order is drawn: bits, edges, what looks and writes. -/
import Derived.Test.YtgoiaciamgailaaGreatDoorRRRREvQ8
import Derived.Orders
namespace Go.Ev
set_option linter.unusedVariables false
set_option linter.unusedSimpArgs false
set_option linter.unusedSectionVars false
set_option linter.unnecessarySimpa false

theorem has_eq (m i : Nat) : has m i = m.testBit i := by
  unfold has
  rw [Nat.testBit_eq_decide_div_mod_eq, Nat.shiftRight_eq_div_pow]
  exact Tr.beq_of
theorem sub_iff {m d : Nat} : sub m d = true ↔ ∀ j, m.testBit j = true → d.testBit j = true := by
  unfold sub
  rw [Tr.beq_of, decide_eq_true_eq]
  constructor
  · intro h j hj
    have h2 : (m &&& d).testBit j = true := by rw [show m &&& d = m from h]; exact hj
    rw [Nat.testBit_and, Bool.and_eq_true] at h2
    exact h2.2
  · intro h
    apply Nat.eq_of_testBit_eq
    intro j
    show (m &&& d).testBit j = m.testBit j
    rw [Nat.testBit_and]
    cases hj : m.testBit j with
    | false => rfl
    | true => rw [h j hj]; rfl
theorem lor_bit (m i j : Nat) : (Nat.lor m (2 ^ i)).testBit j = (m.testBit j || decide (i = j)) := by
  show (m ||| 2 ^ i).testBit j = _
  rw [Nat.testBit_or, Nat.testBit_two_pow]
/-- What an operation waits for. -/
noncomputable def mkOf (ms : Tr Nat) (i : Nat) : Nat := (ms.get i).getD 0
theorem maskOf_bit (acc : Tr Nat) : ∀ (es : List Edge) (s j : Nat), (maskOf acc es s).testBit j = true → s.testBit j = true ∨ ∃ e, e ∈ es ∧ bindsE e = true ∧ (j = e.on ∨ (mkOf acc e.on).testBit j = true)
  | [], s, j, h => .inl h
  | e :: es, s, j, h => by
    unfold maskOf at h
    cases hb : bindsE e with
    | false =>
      rw [hb] at h
      rcases maskOf_bit acc es s j h with h | ⟨e', h1, h2⟩
      · exact .inl h
      · exact .inr ⟨e', .tail _ h1, h2⟩
    | true =>
      rw [hb] at h
      rcases maskOf_bit acc es _ j h with h | ⟨e', h1, h2⟩
      · have h' : (s ||| (2 ^ e.on ||| mkOf acc e.on)).testBit j = true := h
        rw [Nat.testBit_or, Nat.testBit_or, Nat.testBit_two_pow, Bool.or_eq_true, Bool.or_eq_true, decide_eq_true_eq] at h'
        rcases h' with h | h | h
        · exact .inl h
        · exact .inr ⟨e, .head _, hb, .inl h.symm⟩
        · exact .inr ⟨e, .head _, hb, .inr h⟩
      · exact .inr ⟨e', .tail _ h1, h2⟩
theorem lowEdges_mem {i : Nat} : ∀ {es : List Edge}, lowEdges i es = true → ∀ e, e ∈ es → bindsE e = true → e.on < i
  | [], _, e, he, _ => by cases he
  | e' :: es, h, e, he, hb => by
    unfold lowEdges at h
    cases hc : (!(bindsE e') || Nat.blt e'.on i) with
    | false => rw [hc] at h; cases h
    | true =>
      rw [hc] at h
      rcases List.mem_cons.1 he with rfl | he
      · rw [hb] at hc
        simp only [Bool.not_true, Bool.false_or, blt_eq, decide_eq_true_eq] at hc
        exact hc
      · exact lowEdges_mem h e he hb
structure MsOk (ms : Tr Nat) (ops : Array Oper) : Prop where
  low : ∀ (i : Nat) (o : Oper), ops[i]? = some o → ∀ e, e ∈ o.after.toList → bindsE e = true → e.on < i
  lt : ∀ (i : Nat) (o : Oper), ops[i]? = some o → ∀ j, (mkOf ms i).testBit j = true → j < i
  cl : ∀ (i : Nat) (o : Oper), ops[i]? = some o → ∀ j, (mkOf ms i).testBit j = true → ∃ e, e ∈ o.after.toList ∧ bindsE e = true ∧ (j = e.on ∨ (mkOf ms e.on).testBit j = true)
theorem msOk_mem {ms : Tr Nat} : ∀ {l : List Oper} {k : Nat}, msOk ms l k = true → ∀ i o, l[i]? = some o →
    lowEdges (k + i) o.after.toList = true ∧ mkOf ms (k + i) < 2 ^ (k + i) ∧ sub (mkOf ms (k + i)) (maskOf ms o.after.toList 0) = true
  | [], k, h, i, o, hi => by simp at hi
  | x :: l, k, h, i, o, hi => by
    unfold msOk at h
    cases hc : (lowEdges k x.after.toList && Nat.blt ((ms.get k).getD 0) (2 ^ k) && sub ((ms.get k).getD 0) (maskOf ms x.after.toList 0)) with
    | false => rw [hc] at h; cases h
    | true =>
      rw [hc] at h
      cases i with
      | zero =>
        simp only [List.getElem?_cons_zero, Option.some.injEq] at hi
        subst hi
        simp only [Bool.and_eq_true, blt_eq, decide_eq_true_eq] at hc
        exact ⟨hc.1.1, hc.1.2, hc.2⟩
      | succ i =>
        have := msOk_mem (k := k + 1) h i o (by simpa using hi)
        rw [show k + 1 + i = k + (i + 1) from by omega] at this
        exact this
theorem MsOk.of {ms : Tr Nat} {ops : Array Oper} (h : msOk ms ops.toList 0 = true) : MsOk ms ops := by
  have key : ∀ i o, ops[i]? = some o → lowEdges i o.after.toList = true ∧ mkOf ms i < 2 ^ i ∧ sub (mkOf ms i) (maskOf ms o.after.toList 0) = true := fun i o hi => by
    have := msOk_mem h i o (by simpa using hi)
    simpa using this
  refine ⟨fun i o hi => lowEdges_mem (key i o hi).1, fun i o hi j hj => ?_, fun i o hi j hj => ?_⟩
  · have h1 := (key i o hi).2.1
    by_cases hlt : j < i
    · exact hlt
    · exfalso
      have h2 := Nat.ge_two_pow_of_testBit hj
      have h3 : 2 ^ i ≤ 2 ^ j := Nat.pow_le_pow_right (by decide) (by omega)
      omega
  · have h1 := (sub_iff.1 (key i o hi).2.2) j hj
    rcases maskOf_bit ms _ 0 j h1 with h | h
    · simp at h
    · exact h
/-! ### Who writes -/
theorem writers_get : ∀ (l : List Oper) (k : Nat) (d : Tmp) (i : Nat), (d, i) ∈ writers l k ↔ ∃ j o, l[j]? = some o ∧ o.dst = some d ∧ i = k + j
  | [], k, d, i => by simp [writers]
  | o :: l, k, d, i => by
    have ih := writers_get l (k + 1) d i
    have step : (∃ j o', (o :: l)[j]? = some o' ∧ o'.dst = some d ∧ i = k + j) ↔ (o.dst = some d ∧ i = k) ∨ ∃ j o', l[j]? = some o' ∧ o'.dst = some d ∧ i = k + 1 + j := by
      constructor
      · rintro ⟨j, o', h1, h2, h3⟩
        cases j with
        | zero => simp only [List.getElem?_cons_zero, Option.some.injEq] at h1; subst h1; exact .inl ⟨h2, h3⟩
        | succ j => exact .inr ⟨j, o', by simpa using h1, h2, by omega⟩
      · rintro (⟨h1, h2⟩ | ⟨j, o', h1, h2, h3⟩)
        · exact ⟨0, o, by simp, h1, by omega⟩
        · exact ⟨j + 1, o', by simpa using h1, h2, by omega⟩
    rw [step, ← ih]
    have e : writers (o :: l) k = (match o.dst with | some d => (d, k) :: writers l (k + 1) | none => writers l (k + 1)) := rfl
    rw [e]
    cases hd : o.dst with
    | none => simp
    | some d' =>
      simp only [List.mem_cons, Prod.mk.injEq, Option.some.injEq]
      constructor
      · rintro (⟨h1, h2⟩ | h)
        · exact .inl ⟨h1.symm, h2⟩
        · exact .inr h
      · rintro (⟨h1, h2⟩ | h)
        · exact .inl ⟨h1.symm, h2⟩
        · exact .inr h
theorem writerOf_none {t : Tmp} : ∀ {l : List (Tmp × Nat)}, writerOf t l = none → ∀ i, (t, i) ∉ l
  | [], _, i, h => by cases h
  | (d, j) :: l, h, i, hm => by
    unfold writerOf at h
    cases hb : Nat.beq d t with
    | true => rw [hb] at h; cases h
    | false =>
      rw [hb] at h
      rcases List.mem_cons.1 hm with e | hm
      · cases e; exact Nat.ne_of_beq_eq_false hb rfl
      · exact writerOf_none h i hm
theorem writerOf_some {t : Tmp} : ∀ {l : List (Tmp × Nat)} {i : Nat}, writerOf t l = some i → (t, i) ∈ l
  | (d, j) :: l, i, h => by
    unfold writerOf at h
    cases hb : Nat.beq d t with
    | true =>
      rw [hb] at h
      cases h
      rw [Nat.eq_of_beq_eq_true hb]
      exact .head _
    | false => rw [hb] at h; exact .tail _ (writerOf_some h)
theorem once_unique : ∀ {l : List (Tmp × Nat)}, onceOk l = true → ∀ t i j, (t, i) ∈ l → (t, j) ∈ l → i = j
  | [], _, t, i, j, h, _ => by cases h
  | (d, k) :: l, h, t, i, j, hi, hj => by
    unfold onceOk at h
    cases hw : writerOf d l with
    | some _ => rw [hw] at h; cases h
    | none =>
      rw [hw] at h
      have no := writerOf_none hw
      rcases List.mem_cons.1 hi with e | hi <;> rcases List.mem_cons.1 hj with e2 | hj
      · cases e; cases e2; rfl
      · cases e; exact absurd hj (no j)
      · cases e2; exact absurd hi (no i)
      · exact once_unique h t i j hi hj
theorem dsts_lt {n : Nat} : ∀ {l : List (Tmp × Nat)}, dstsOk n l = true → ∀ t i, (t, i) ∈ l → t < n
  | [], _, t, i, h => by cases h
  | (d, k) :: l, h, t, i, hi => by
    unfold dstsOk at h
    cases hb : Nat.blt d n with
    | false => rw [hb] at h; cases h
    | true =>
      rw [hb] at h
      rcases List.mem_cons.1 hi with e | hi
      · cases e; simpa [blt_eq] using hb
      · exact dsts_lt h t i hi
theorem looksOk_mem {ms : Tr Nat} {ws : List (Tmp × Nat)} {i : Nat} : ∀ {l : List Tmp}, looksOk ms ws i l = true → ∀ t, t ∈ l → ∀ j, writerOf t ws = some j → (mkOf ms i).testBit j = true ∨ (mkOf ms j).testBit i = true
  | [], _, t, h, _, _ => by cases h
  | t' :: l, h, t, ht, j, hj => by
    unfold looksOk at h
    cases hw : writerOf t' ws with
    | none =>
      rw [hw] at h
      rcases List.mem_cons.1 ht with rfl | ht
      · rw [hw] at hj; cases hj
      · exact looksOk_mem h t ht j hj
    | some k =>
      rw [hw] at h
      simp only at h
      cases hb : (has ((ms.get i).getD 0) k || has ((ms.get k).getD 0) i) with
      | false => rw [hb] at h; cases h
      | true =>
        rw [hb] at h
        rcases List.mem_cons.1 ht with rfl | ht
        · rw [hw] at hj
          cases hj
          rw [has_eq, has_eq, Bool.or_eq_true] at hb
          exact hb
        · exact looksOk_mem h t ht j hj
theorem allLooks_mem {all : List Oper} {ms : Tr Nat} {ws : List (Tmp × Nat)} : ∀ {l : List Oper} {k : Nat}, allLooks all ms ws l k = true → ∀ i o, l[i]? = some o → looksOk ms ws (k + i) (looks all o) = true
  | [], k, h, i, o, hi => by simp at hi
  | x :: l, k, h, i, o, hi => by
    unfold allLooks at h
    cases hb : looksOk ms ws k (looks all x) with
    | false => rw [hb] at h; cases h
    | true =>
      rw [hb] at h
      cases i with
      | zero => simp only [List.getElem?_cons_zero, Option.some.injEq] at hi; subst hi; exact hb
      | succ i =>
        have := allLooks_mem (k := k + 1) h i o (by simpa using hi)
        rw [show k + 1 + i = k + (i + 1) from by omega] at this
        exact this
/-- What is known of who writes and who looks. -/
structure Ssa (ms : Tr Nat) (ops : Array Oper) (n : Nat) : Prop where
  m : MsOk ms ops
  once : ∀ (i j : Nat) (o o' : Oper) (d : Tmp), ops[i]? = some o → ops[j]? = some o' → o.dst = some d → o'.dst = some d → i = j
  lt : ∀ (i : Nat) (o : Oper) (d : Tmp), ops[i]? = some o → o.dst = some d → d < n
  looks : ∀ (i : Nat) (o : Oper), ops[i]? = some o → ∀ (t : Tmp), t ∈ Ev.looks ops.toList o → ∀ (j : Nat) (o' : Oper), ops[j]? = some o' → o'.dst = some t → (mkOf ms i).testBit j = true ∨ (mkOf ms j).testBit i = true
theorem Ssa.of {ops : Array Oper} {n : Nat} (h : ssaOk ops.toList n = true) : Ssa (masks ops.toList 0 .e) ops n := by
  unfold ssaOk at h
  simp only [Bool.and_eq_true] at h
  obtain ⟨⟨⟨h1, h2⟩, h3⟩, h4⟩ := h
  have wr : ∀ {i : Nat} {o : Oper} {d : Tmp}, ops[i]? = some o → o.dst = some d → (d, i) ∈ writers ops.toList 0 := fun {i o d} hi hd => (writers_get _ 0 _ _).2 ⟨i, o, by simpa using hi, hd, by omega⟩
  refine ⟨.of h3, fun i j o o' d hi hj hd hd' => once_unique h1 d i j (wr hi hd) (wr hj hd'), fun i o d hi hd => dsts_lt h4 d i (wr hi hd), ?_⟩
  intro i o hi t ht j o' hj hd
  have h5 := allLooks_mem h2 i o (by simpa using hi)
  rw [Nat.zero_add] at h5
  cases hw : writerOf t (writers ops.toList 0) with
  | none => exact absurd (wr hj hd) (writerOf_none hw j)
  | some k =>
    have h6 := looksOk_mem h5 t ht k hw
    have : k = j := once_unique h1 t k j (writerOf_some hw) (wr hj hd)
    subst this
    exact h6
end Go.Ev
