/- Regions whose order is drawn: the run as it is followed. -/
import Derived.Test.YtgoiaciamgailaaGreatDoorRRRREvD2
namespace Go.Ev
set_option linter.unusedVariables false
set_option linter.unusedSimpArgs false
set_option linter.unusedSectionVars false
set_option linter.unnecessarySimpa false

theorem getT_put {st : St} (hl : st.vars.length = st.cut) (hc : st.cut ≤ st.n) {d : Tmp} (hd : d < st.n) (v : SV) (t : Tmp) : getT (putSt st (some d) v) t = if t = d then v else getT st t := by
  simp only [putSt, blt_eq]
  by_cases h1 : d < st.cut
  · rw [decide_eq_true h1, cond_true]
    simp only [getT, blt_eq]
    by_cases h2 : t < st.cut
    · rw [decide_eq_true h2, cond_true, cond_true, nth_eq, nth_eq, nth_setNth, hl]
      by_cases e : t = d
      · subst e; rw [if_pos ⟨rfl, h1⟩, if_pos rfl]; rfl
      · rw [if_neg (fun x => e x.1), if_neg e]
    · rw [decide_eq_false h2, cond_false, cond_false]
      rw [if_neg (fun e => by subst e; exact h2 h1)]
  · rw [decide_eq_false h1, cond_false, decide_eq_true hd, cond_true]
    simp only [getT, blt_eq]
    by_cases h2 : t < st.cut
    · rw [decide_eq_true h2, cond_true, cond_true, if_neg (fun e => by subst e; exact h1 h2)]
    · rw [decide_eq_false h2, cond_false, cond_false, look_cons]
      by_cases e : t = d
      · subst e; rw [if_pos rfl, if_pos rfl]; rfl
      · rw [if_neg (fun x => e x.symm), if_neg e]
theorem putSt_same (st : St) (d : Option Tmp) (v : SV) : (putSt st d v).n = st.n ∧ (putSt st d v).cut = st.cut ∧ (putSt st d v).vars.length = st.vars.length ∧ (putSt st d v).ds = st.ds ∧ (putSt st d v).round = st.round := by
  cases d with
  | none => exact ⟨rfl, rfl, rfl, rfl, rfl⟩
  | some p =>
    simp only [putSt]
    cases Nat.blt p st.cut
    · cases Nat.blt p st.n <;> exact ⟨rfl, rfl, rfl, rfl, rfl⟩
    · exact ⟨rfl, rfl, length_setNth _ _ _, rfl, rfl⟩

section
variable (E : Env) (ops : Array Oper) (ms : Tr Nat) (st0 : St)
/-- t is what operation j writes. -/
def Wr (j : Nat) (t : Tmp) : Prop := ∃ o, ops[j]? = some o ∧ o.dst = some t
/-- What operation i sees in X. -/
structure View (r : Rg) (i : Nat) (o : Oper) (X : St) : Prop where
  n : X.n = st0.n
  new : ∀ t, t ∈ looks ops.toList o → ∀ j, Wr ops j t → (mkOf ms i).testBit j = true → getT X t = getT r.st t
  old : ∀ t, t ∈ looks ops.toList o → (∀ j, Wr ops j t → (mkOf ms i).testBit j = false) → getT X t = getT st0 t
structure PendOk (r : Rg) (p : Pend) : Prop where
  op : ops[p.i]? = some p.o
  done : r.done.testBit p.i = true
  quiet : quietOp E p.o = true
  view : ∃ X, p.st = restrict ops.toList p.o X ∧ View ops ms st0 r p.i p.o X
  val : ∀ d, p.o.dst = some d → getT r.st d = p.v
  run : quietRun E ops.toList p.o p.st r.h = some p.v
structure Pre (r : Rg) : Prop where
  cl : ∀ i, r.done.testBit i = true → i < ops.size ∧ ∀ j, (mkOf ms i).testBit j = true → r.done.testBit j = true
  n : r.st.n = st0.n
  round : r.st.round = st0.round
  ds : r.st.ds = st0.ds
  len : r.st.vars.length = r.st.cut
  le : r.st.cut ≤ r.st.n
  old : ∀ t, (∀ j, Wr ops j t → r.done.testBit j = false) → getT r.st t = getT st0 t
  pend : ∀ p, p ∈ r.pend → PendOk E ops ms st0 r p
end
section
variable {E : Env} {ops : Array Oper} {ms : Tr Nat} {st0 : St} (ssa : Ssa ms ops st0.n)
include ssa
theorem Ssa.uniq {i j : Nat} {t : Tmp} (h1 : Wr ops i t) (h2 : Wr ops j t) : i = j := by
  obtain ⟨o, a, b⟩ := h1
  obtain ⟨o', c, d⟩ := h2
  exact ssa.once i j o o' t a c b d
theorem Pre.getT_put {r : Rg} (hr : Pre E ops ms st0 r) {i : Nat} {o : Oper} (hi : ops[i]? = some o) (v : SV) (t : Tmp) : (Wr ops i t → getT (putSt r.st o.dst v) t = v) ∧ (¬ Wr ops i t → getT (putSt r.st o.dst v) t = getT r.st t) := by
  cases hd : o.dst with
  | none => exact ⟨fun ⟨o', a, b⟩ => (by rw [hi] at a; cases a; rw [hd] at b; cases b), fun _ => rfl⟩
  | some d =>
    have hlt : d < r.st.n := by rw [hr.n]; exact ssa.lt i o d hi hd
    rw [Ev.getT_put hr.len hr.le hlt]
    refine ⟨fun ⟨o', a, b⟩ => ?_, fun hn => if_neg fun e => hn ⟨o, hi, by rw [hd, e]⟩⟩
    rw [hi] at a; cases a; rw [hd] at b; cases b; exact if_pos rfl
theorem Pre.add {r : Rg} (hr : Pre E ops ms st0 r) {i : Nat} {o : Oper} (hi : ops[i]? = some o) (hnd : r.done.testBit i = false) (hm : ∀ j, (mkOf ms i).testBit j = true → r.done.testBit j = true) (v : SV) (H : Heap) (L : List Pend)
    (hL : ∀ p, p ∈ L → p ∈ r.pend ∧ quietRun E ops.toList p.o p.st H = some p.v) : Pre E ops ms st0 ⟨Nat.lor r.done (2 ^ i), putSt r.st o.dst v, H, L⟩ := by
  obtain ⟨s1, s2, s3, s4, s5⟩ := putSt_same r.st o.dst v
  have hisz : i < ops.size := (Array.getElem?_eq_some_iff.1 hi).1
  refine ⟨fun k hk => ?_, s1.trans hr.n, s5.trans hr.round, s4.trans hr.ds, by rw [s3, s2]; exact hr.len, by rw [s2, s1]; exact hr.le, fun t ht => ?_, fun p hp => ?_⟩
  · simp only [lor_bit, Bool.or_eq_true, decide_eq_true_eq] at hk ⊢
    rcases hk with hk | rfl
    · exact ⟨(hr.cl k hk).1, fun j hj => .inl ((hr.cl k hk).2 j hj)⟩
    · exact ⟨hisz, fun j hj => .inl (hm j hj)⟩
  · have hn : ¬ Wr ops i t := fun hw => by
      have := ht i hw
      simp [lor_bit] at this
    rw [(hr.getT_put ssa hi v t).2 hn]
    exact hr.old t fun j hj => by
      have := ht j hj
      simp only [lor_bit, Bool.or_eq_false_iff] at this
      exact this.1
  · obtain ⟨h1, h2⟩ := hL p hp
    have hp := hr.pend p h1
    have hne : p.i ≠ i := fun e => by rw [← e, hp.done] at hnd; cases hnd
    refine ⟨hp.op, by simp only [lor_bit, hp.done, Bool.true_or], hp.quiet, ?_, fun d hd => ?_, h2⟩
    · obtain ⟨X, e, hv⟩ := hp.view
      refine ⟨X, e, hv.n, fun t ht j hj hm2 => ?_, hv.old⟩
      have hji : ¬ Wr ops i t := fun hw => by
        have := ssa.uniq hw hj
        subst this
        rw [(hr.cl p.i hp.done).2 _ hm2] at hnd; cases hnd
      rw [(hr.getT_put ssa hi v t).2 hji]
      exact hv.new t ht j hj hm2
    · have hji : ¬ Wr ops i d := fun hw => hne (ssa.uniq ⟨p.o, hp.op, hd⟩ hw)
      rw [(hr.getT_put ssa hi v d).2 hji]
      exact hp.val d hd
/-- What is seen now. -/
theorem Pre.view {r : Rg} (hr : Pre E ops ms st0 r) {i : Nat} {o : Oper} (hi : ops[i]? = some o) (hnd : r.done.testBit i = false) : View ops ms st0 r i o r.st := by
  refine ⟨hr.n, fun t ht j hj hm => rfl, fun t ht hno => hr.old t fun j hj => ?_⟩
  obtain ⟨o', a, b⟩ := hj
  rcases ssa.looks i o hi t ht j o' a b with h | h
  · rw [hno j ⟨o', a, b⟩] at h; cases h
  · cases hdj : r.done.testBit j with
    | false => rfl
    | true => rw [(hr.cl j hdj).2 i h] at hnd; cases hnd
theorem Pre.quiet {r : Rg} (hr : Pre E ops ms st0 r) {i : Nat} {o : Oper} (hi : ops[i]? = some o) (hq : quietOp E o = true) (hnd : r.done.testBit i = false) (hm : ∀ j, (mkOf ms i).testBit j = true → r.done.testBit j = true) {v : SV}
    (hv : quietRun E ops.toList o (restrict ops.toList o r.st) r.h = some v) : Pre E ops ms st0 ⟨Nat.lor r.done (2 ^ i), putSt r.st o.dst v, r.h, ⟨i, o, restrict ops.toList o r.st, v⟩ :: r.pend⟩ := by
  have h1 := hr.add ssa hi hnd hm v r.h r.pend fun p hp => ⟨hp, (hr.pend p hp).run⟩
  refine ⟨h1.cl, h1.n, h1.round, h1.ds, h1.len, h1.le, h1.old, fun p hp => ?_⟩
  rcases List.mem_cons.1 hp with rfl | hp
  · refine ⟨hi, by simp [lor_bit], hq, ⟨r.st, rfl, ?_⟩, fun d hd => (hr.getT_put ssa hi v d).1 ⟨o, hi, hd⟩, hv⟩
    have hv := hr.view ssa hi hnd
    refine ⟨hv.n, fun t ht j hj hm2 => ?_, hv.old⟩
    have hji : ¬ Wr ops i t := fun hw => by
      have := ssa.uniq hw hj
      subst this
      have := ssa.m.lt _ _ hi _ hm2
      omega
    exact ((hr.getT_put ssa hi v t).2 hji).symm
  · have := h1.pend p hp
    obtain ⟨X, e, hV⟩ := this.view
    exact ⟨this.op, this.done, this.quiet, ⟨X, e, hV.n, hV.new, hV.old⟩, this.val, this.run⟩
structure After (E : Env) (ops : Array Oper) (ms : Tr Nat) (k : Nat) (r r' : Rg) : Prop where
  h : r'.h = r.h
  more : ∀ i, r.done.testBit i = true → r'.done.testBit i = true
  only : ∀ i, r'.done.testBit i = true → r.done.testBit i = false → k ≤ i ∧ (∃ o, ops[i]? = some o ∧ quietOp E o = true) ∧ ∃ p, p ∈ r'.pend ∧ p.i = i
  keep : ∀ p, p ∈ r.pend → p ∈ r'.pend
  st : ∀ t, (∀ j, Wr ops j t → r'.done.testBit j = true → r.done.testBit j = true) → getT r'.st t = getT r.st t
  full : ∀ i o, k ≤ i → ops[i]? = some o → quietOp E o = true → (∀ j, (mkOf ms i).testBit j = true → r'.done.testBit j = true) → r'.done.testBit i = true
theorem asap_ok : ∀ (l : List Oper) (k : Nat), ops.toList.drop k = l → ∀ (r r' : Rg), Pre E ops ms st0 r → asap E ops.toList ms l k r = some r' → Pre E ops ms st0 r' ∧ After E ops ms k r r' := by
  intro l
  induction l with
  | nil =>
    intro k hd r r' hr hv
    cases hv
    have hsz : ops.size ≤ k := by simpa using hd
    exact ⟨hr, rfl, fun _ h => h, fun i h1 h2 => (by rw [h1] at h2; cases h2), fun _ h => h, fun _ _ => rfl, fun i o hk hi => (by
      have := (Array.getElem?_eq_some_iff.1 hi).1
      omega)⟩
  | cons o l ih =>
    intro k hd r r' hr hv
    have hi : ops[k]? = some o := by
      have := congrArg (·[0]?) hd
      simpa using this
    have hd' : ops.toList.drop (k + 1) = l := by rw [← List.drop_drop, hd]; rfl
    have hv' : cond (quietOp E o && not (has r.done k) && sub ((ms.get k).getD 0) r.done)
      (match quietRun E ops.toList o (restrict ops.toList o r.st) r.h with
        | some v => asap E ops.toList ms l (Nat.succ k) ⟨Nat.lor r.done (2 ^ k), putSt r.st o.dst v, r.h, ⟨k, o, restrict ops.toList o r.st, v⟩ :: r.pend⟩
        | none => none)
      (asap E ops.toList ms l (Nat.succ k) r) = some r' := hv
    cases hc : (quietOp E o && not (has r.done k) && sub ((ms.get k).getD 0) r.done) with
    | false =>
      rw [hc] at hv'
      obtain ⟨h1, h2⟩ := ih (k + 1) hd' r r' hr hv'
      refine ⟨h1, h2.h, h2.more, fun i a b => ⟨Nat.le_of_succ_le (h2.only i a b).1, (h2.only i a b).2⟩, h2.keep, h2.st, fun i o' hk hio hq hm => ?_⟩
      by_cases e : i = k
      · subst e
        rw [hi] at hio
        cases hio
        cases hdk : r.done.testBit i with
        | true => exact h2.more i hdk
        | false =>
          exfalso
          have hsub : sub ((ms.get i).getD 0) r.done = true := sub_iff.2 fun j hj => by
            have h3 := hm j hj
            cases hdj : r.done.testBit j with
            | true => rfl
            | false =>
              have := (h2.only j h3 hdj).1
              have := ssa.m.lt _ _ hi j hj
              omega
          rw [hq, has_eq, hdk, hsub] at hc
          cases hc
      · exact h2.full i o' (by omega) hio hq hm
    | true =>
      rw [hc] at hv'
      simp only [cond_true] at hv'
      simp only [Bool.and_eq_true, Bool.not_eq_true', has_eq] at hc
      obtain ⟨⟨hq, hnd⟩, hsub⟩ := hc
      cases hrun : quietRun E ops.toList o (restrict ops.toList o r.st) r.h with
      | none => rw [hrun] at hv'; cases hv'
      | some v =>
        rw [hrun] at hv'
        have hP := hr.quiet ssa hi hq hnd (sub_iff.1 hsub) hrun
        obtain ⟨h1, h2⟩ := ih (k + 1) hd' _ r' hP hv'
        have mem : (⟨k, o, restrict ops.toList o r.st, v⟩ : Pend) ∈ r'.pend := h2.keep _ (.head _)
        have hk' : r'.done.testBit k = true := h2.more k (by simp [lor_bit])
        refine ⟨h1, h2.h, fun i a => h2.more i (by simp [lor_bit, a]), fun i a b => ?_, fun p hp => h2.keep p (.tail _ hp), fun t ht => ?_, fun i o' hki hio hq2 hm => ?_⟩
        · by_cases e : i = k
          · subst e; exact ⟨Nat.le_refl _, ⟨o, hi, hq⟩, _, mem, rfl⟩
          · have := h2.only i a (by simp only [lor_bit, b, Bool.false_or, decide_eq_false_iff_not]; exact fun x => e x.symm)
            exact ⟨Nat.le_of_succ_le this.1, this.2⟩
        · have hn : ¬ Wr ops k t := fun hw => by rw [ht k hw hk'] at hnd; cases hnd
          rw [h2.st t (fun j hj hdj => by simp only [lor_bit, ht j hj hdj, Bool.true_or])]
          exact (hr.getT_put ssa hi v t).2 hn
        · by_cases e : i = k
          · subst e; exact hk'
          · exact h2.full i o' (by omega) hio hq2 hm
end
end Go.Ev
