/- Regions whose order is drawn: each order comes to one of the outcomes. -/
import Derived.Test.YtgoiaciamgailaaGreatDoorRRRREvD4
namespace Go.Ev
set_option linter.unusedVariables false
set_option linter.unusedSimpArgs false
set_option linter.unusedSectionVars false
set_option linter.unnecessarySimpa false

/-- What is done stands so. -/
structure Inv (E : Env) (ops : Array Oper) (ms : Tr Nat) (st0 : St) (ρ0 : Rho) (h0 : Heap) (w0 : World) (r : Rg) (D : Nat → Bool) (ρ : Rho) (a : Act) (w : World) : Prop where
  pre : Pre E ops ms st0 r
  qs : ∀ i o, ops[i]? = some o → quietOp E o = true → (∀ j, (mkOf ms i).testBit j = true → r.done.testBit j = true) → r.done.testBit i = true
  dcl : ∀ i, D i = true → ∀ j, (mkOf ms i).testBit j = true → D j = true
  dsub : ∀ i, D i = true → r.done.testBit i = true
  imp : ∀ i o, ops[i]? = some o → quietOp E o = false → r.done.testBit i = true → D i = true
  cov : ∀ i o, ops[i]? = some o → quietOp E o = true → r.done.testBit i = true → D i = false → ∃ p, p ∈ r.pend ∧ p.i = i
  go : Go E ρ0 h0 w0 ρ r.h w
  size : a.tmps.size = st0.n
  new : ∀ t j, Wr ops j t → D j = true → VR ρ r.h.next (getT r.st t) (a.tmps.getD t undef)
  old : ∀ t, (∀ j, Wr ops j t → D j = false) → VR ρ r.h.next (getT st0 t) (a.tmps.getD t undef)
  defs : DefsR ρ r.h.next st0.ds a.defers

theorem put_get {a : Act} {d : Option Tmp} {v : Value} (hs : ∀ t, d = some t → t < a.tmps.size) (t : Nat) : (d = some t → (a.put d v).tmps.getD t undef = v) ∧ (d ≠ some t → (a.put d v).tmps.getD t undef = a.tmps.getD t undef) := by
  cases d with
  | none => exact ⟨fun h => (by cases h), fun _ => rfl⟩
  | some d =>
    have hd := hs d rfl
    simp only [Act.put, Array.getD_eq_getD_getElem?, Array.getElem?_setIfInBounds]
    refine ⟨fun h => ?_, fun h => ?_⟩
    · cases h; simp [hd]
    · have : ¬ d = t := fun e => h (by rw [e])
      simp [this]
theorem put_size (a : Act) (d : Option Tmp) (v : Value) : (a.put d v).tmps.size = a.tmps.size := by cases d <;> simp [Act.put]
theorem put_defers (a : Act) (d : Option Tmp) (v : Value) : (a.put d v).defers = a.defers := by cases d <;> rfl

section
variable {E : Env} {ops : Array Oper} {ms : Tr Nat} {st0 : St} {ρ0 : Rho} {h0 : Heap} {w0 : World} (ssa : Ssa ms ops st0.n)
include ssa
/-- What operation i sees stands in the frame. -/
theorem Inv.sees {r : Rg} {D : Nat → Bool} {ρ : Rho} {a : Act} {w : World} (inv : Inv E ops ms st0 ρ0 h0 w0 r D ρ a w) {i : Nat} {o : Oper} (hi : ops[i]? = some o) (hnd : D i = false) (hm : ∀ j, (mkOf ms i).testBit j = true → D j = true) {X : St} (hv : View ops ms st0 r i o X) :
    AR ρ r.h.next (restrict ops.toList o X) a.tmps [] := by
  refine AR.restrict (by rw [hv.n]; exact inv.size) fun t ht => ?_
  by_cases hw : ∃ j, Wr ops j t ∧ (mkOf ms i).testBit j = true
  · obtain ⟨j, h1, h2⟩ := hw
    rw [hv.new t ht j h1 h2]
    exact inv.new t j h1 (hm j h2)
  · have hno : ∀ j, Wr ops j t → (mkOf ms i).testBit j = false := fun j hj => by
      cases hb : (mkOf ms i).testBit j with
      | false => rfl
      | true => exact absurd ⟨j, hj, hb⟩ hw
    rw [hv.old t ht hno]
    refine inv.old t fun j hj => ?_
    obtain ⟨o', a1, a2⟩ := hj
    rcases ssa.looks i o hi t ht j o' a1 a2 with h | h
    · rw [hno j ⟨o', a1, a2⟩] at h; cases h
    · cases hd : D j with
      | false => rfl
      | true => rw [inv.dcl j hd i h] at hnd; cases hnd
/-- One more is done, quietly or not: the frame. -/
theorem Inv.put {r : Rg} {D : Nat → Bool} {ρ : Rho} {a : Act} {w : World} (inv : Inv E ops ms st0 ρ0 h0 w0 r D ρ a w) {i : Nat} {o : Oper} (hi : ops[i]? = some o) (hnd : D i = false) (hm : ∀ j, (mkOf ms i).testBit j = true → D j = true)
    {r2 : Rg} {ρ2 : Rho} {w2 : World} {v : SV} {v' : Value} (hV : VR ρ2 r2.h.next v v') (hG : Go E ρ r.h w ρ2 r2.h w2)
    (hpre : Pre E ops ms st0 r2)
    (hqs : ∀ i o, ops[i]? = some o → quietOp E o = true → (∀ j, (mkOf ms i).testBit j = true → r2.done.testBit j = true) → r2.done.testBit i = true)
    (hdone : ∀ k, r.done.testBit k = true → r2.done.testBit k = true) (hdi : r2.done.testBit i = true)
    (hst : ∀ t j, Wr ops j t → D j = true → getT r2.st t = getT r.st t) (hsti : ∀ t, Wr ops i t → getT r2.st t = v)
    (himp : ∀ k o, ops[k]? = some o → quietOp E o = false → r2.done.testBit k = true → k ≠ i → r.done.testBit k = true)
    (hcov : ∀ k o, ops[k]? = some o → quietOp E o = true → r2.done.testBit k = true → k ≠ i → D k = false → ∃ p, p ∈ r2.pend ∧ p.i = k) :
    Inv E ops ms st0 ρ0 h0 w0 r2 (fun k => D k || decide (k = i)) ρ2 (a.put o.dst v') w2 := by
  have hlt : ∀ t, o.dst = some t → t < a.tmps.size := fun t ht => by rw [inv.size]; exact ssa.lt i o t hi ht
  refine ⟨hpre, hqs, fun k hk j hj => ?_, fun k hk => ?_, fun k o' hk hq hd => ?_, fun k o' hk hq hd hn => ?_, inv.go.trans E hG, by rw [put_size]; exact inv.size, fun t j hj hd => ?_, fun t hno => ?_, ?_⟩
  · simp only [Bool.or_eq_true, decide_eq_true_eq] at hk ⊢
    rcases hk with hk | rfl
    · exact .inl (inv.dcl k hk j hj)
    · exact .inl (hm j hj)
  · simp only [Bool.or_eq_true, decide_eq_true_eq] at hk
    rcases hk with hk | rfl
    · exact hdone k (inv.dsub k hk)
    · exact hdi
  · simp only [Bool.or_eq_true, decide_eq_true_eq]
    by_cases e : k = i
    · exact .inr e
    · exact .inl (inv.imp k o' hk hq (himp k o' hk hq hd e))
  · simp only [Bool.or_eq_false_iff, decide_eq_false_iff_not] at hn
    exact hcov k o' hk hq hd hn.2 hn.1
  · by_cases e : Wr ops i t
    · have hdst : o.dst = some t := by obtain ⟨o', b1, b2⟩ := e; rw [hi] at b1; cases b1; exact b2
      rw [(put_get hlt t).1 hdst, hsti t e]
      exact hV
    · have hdst : o.dst ≠ some t := fun h => e ⟨o, hi, h⟩
      have hji : j ≠ i := fun h => e (h ▸ hj)
      simp only [Bool.or_eq_true, decide_eq_true_eq] at hd
      have hd' : D j = true := hd.resolve_right hji
      rw [(put_get hlt t).2 hdst, hst t j hj hd']
      exact (inv.new t j hj hd').ren hG.ren
  · have hdst : o.dst ≠ some t := fun h => by
      have := hno i ⟨o, hi, h⟩
      simp at this
    rw [(put_get hlt t).2 hdst]
    exact (inv.old t fun j hj => by
      have := hno j hj
      simp only [Bool.or_eq_false_iff] at this
      exact this.1).ren hG.ren
  · rw [put_defers]; exact inv.defs.ren hG.ren
end
section
variable {E : Env} {fs : Fns} {ops : Array Oper} {ms : Tr Nat} {st0 : St} {ρ0 : Rho} {h0 : Heap} {w0 : World} (ok : ProgOk E) (fo : FnsOk E fs) (ssa : Ssa ms ops st0.n)
include ok fo ssa
/-- An operation that may be done, done. -/
theorem Inv.step {f : Nat} {r : Rg} {D : Nat → Bool} {ρ : Rho} {a : Act} {w : World} (inv : Inv E ops ms st0 ρ0 h0 w0 r D ρ a w) {outs : List Rg} (hv : imps E fs ops.toList ms f r = some outs) {i : Nat} {o : Oper} (hi : ops[i]? = some o) (hnd : D i = false) (hm : ∀ j, (mkOf ms i).testBit j = true → D j = true)
    {rd : Option Nat} {n : Nat} {next : Act → World → Prop} {Q : Exit → Act → World → Prop}
    (hn : ∀ f' r' ρ' a' w' outs', Inv E ops ms st0 ρ0 h0 w0 r' (fun k => D k || decide (k = i)) ρ' a' w' → imps E fs ops.toList ms f' r' = some outs' → (∀ x, x ∈ outs' → x ∈ outs) → next a' w') :
    if Region.wanted o (yielded ops a.tmps) then o.wpIn (W rd) n E.P a w next Q else (∀ g, o.about E.P w a.eval = some g → (W rd).fn g) ∧ next (a.put o.dst undef) w := by
  have hsub : ∀ j, (mkOf ms i).testBit j = true → r.done.testBit j = true := fun j hj => inv.dsub j (hm j hj)
  cases hq : quietOp E o with
  | true =>
    have hdi := inv.qs i o hi hq hsub
    obtain ⟨p, hp, hpi⟩ := inv.cov i o hi hq hdi hnd
    have hP := inv.pre.pend p hp
    have hpo : p.o = o := by have := hP.op; rw [hpi, hi] at this; cases this; rfl
    obtain ⟨X, hX, hV⟩ := hP.view
    rw [hpi, hpo] at hV
    rw [hpo] at hX
    have hrun := hP.run
    rw [hpo, hX] at hrun
    have hev := quietRun_ev (fs := fs) hq hrun
    refine evOp_ok ok fo inv.go.hr (inv.sees ssa hi hnd hm hV) ops o hev ?_
    intro v h' v' ρ' w' hmem hV' hG
    cases List.mem_singleton.1 hmem
    refine hn f r ρ' _ w' outs (inv.put ssa hi hnd hm hV' hG inv.pre inv.qs (fun _ h => h) hdi (fun _ _ _ _ => rfl) (fun t ht => ?_) (fun _ _ _ _ h _ => h) (fun k o' hk hq' hd hne hDk => inv.cov k o' hk hq' hd hDk)) hv fun _ h => h
    obtain ⟨o', b1, b2⟩ := ht
    rw [hi] at b1; cases b1
    exact hP.val t (by rw [hpo]; exact b2)
  | false =>
    have hndone : r.done.testBit i = false := by
      cases hd : r.done.testBit i with
      | false => rfl
      | true => rw [inv.imp i o hi hq hd] at hnd; cases hnd
    cases f with
    | zero => cases hv
    | succ f =>
      have hc : (i, o) ∈ cands E ms r.done ops.toList 0 := cands_mem.2 ⟨i, by simpa using hi, by simp, hq, hndone, sub_iff.2 hsub⟩
      unfold imps at hv
      cases hcs : cands E ms r.done ops.toList 0 with
      | nil => rw [hcs] at hc; cases hc
      | cons c cs =>
        rw [hcs] at hv hc
        simp only at hv
        obtain ⟨os, e1, k1⟩ := andThen_some hv (i, o) hc
        obtain ⟨l, e2, k2⟩ := bindM_some e1
        refine evOp_ok ok fo inv.go.hr (inv.sees ssa hi hnd hm (inv.pre.view ssa hi hndone)) ops o e2 ?_
        intro v h' v' ρ' w' hmem hV' hG
        obtain ⟨os2, e3, k3⟩ := k2 (v, h') hmem
        simp only at e3
        cases hrc : recheck E ops.toList h' (keepP ((ms.get i).getD 0) r.pend) with
        | false => rw [hrc] at e3; cases e3
        | true =>
          rw [hrc] at e3
          simp only [cond_true] at e3
          cases has : asap E ops.toList ms ops.toList 0 ⟨Nat.lor r.done (2 ^ i), putSt r.st o.dst v, h', keepP ((ms.get i).getD 0) r.pend⟩ with
          | none => rw [has] at e3; cases e3
          | some r2 =>
            rw [has] at e3
            simp only at e3
            have h1 := inv.pre.add ssa hi hndone hsub v h' (keepP ((ms.get i).getD 0) r.pend) fun p hp => ⟨(keepP_mem.1 hp).1, recheck_mem hrc p hp⟩
            obtain ⟨h2, A⟩ := asap_ok ssa ops.toList 0 rfl _ r2 h1 has
            have hAh : r2.h = h' := A.h
            have hdone1 : ∀ k, r.done.testBit k = true → (Nat.lor r.done (2 ^ i)).testBit k = true := fun k hk => by simp [lor_bit, hk]
            have hdi1 : (Nat.lor r.done (2 ^ i)).testBit i = true := by simp [lor_bit]
            subst hAh
            refine hn f r2 ρ' _ w' os2 (inv.put ssa hi hnd hm hV' hG h2 (fun k o' hk hq' hmk => A.full k o' (Nat.zero_le _) hk hq' hmk) (fun k hk => A.more k (hdone1 k hk)) (A.more i hdi1) (fun t j hj hDj => ?_) (fun t ht => ?_) (fun k o' hk hq' hd hne => ?_) (fun k o' hk hq' hd hne hDk => ?_)) e3 fun x hx => k1 x (k3 x hx)
            · have hji : ¬ Wr ops i t := fun hw => by
                have := ssa.uniq hw hj
                subst this
                rw [hDj] at hnd; cases hnd
              rw [A.st t fun k hk hdk => by rw [ssa.uniq hk hj]; exact hdone1 j (inv.dsub j hDj)]
              exact (inv.pre.getT_put ssa hi v t).2 hji
            · rw [A.st t fun k hk hdk => by rw [ssa.uniq hk ht]; exact hdi1]
              exact (inv.pre.getT_put ssa hi v t).1 ht
            · cases hd1 : (Nat.lor r.done (2 ^ i)).testBit k with
              | true =>
                rw [lor_bit, Bool.or_eq_true, decide_eq_true_eq] at hd1
                exact hd1.resolve_right fun e => hne e.symm
              | false =>
                obtain ⟨_, ⟨o2, b1, b2⟩, _⟩ := A.only k hd hd1
                rw [hk] at b1; cases b1
                rw [hq'] at b2; cases b2
            · cases hd1 : (Nat.lor r.done (2 ^ i)).testBit k with
              | true =>
                rw [lor_bit, Bool.or_eq_true, decide_eq_true_eq] at hd1
                have hdk := hd1.resolve_right fun e => hne e.symm
                obtain ⟨p, hp, hpk⟩ := inv.cov k o' hk hq' hdk hDk
                refine ⟨p, A.keep p (keepP_mem.2 ⟨hp, ?_⟩), hpk⟩
                cases hb : (mkOf ms i).testBit p.i with
                | false => exact hb
                | true => rw [hpk] at hb; rw [hm k hb] at hDk; cases hDk
              | false =>
                obtain ⟨_, _, p, hp, hpk⟩ := A.only k hd hd1
                exact ⟨p, hp, hpk⟩
/-- All is done. -/
theorem Inv.last {f : Nat} {r : Rg} {D : Nat → Bool} {ρ : Rho} {a : Act} {w : World} (inv : Inv E ops ms st0 ρ0 h0 w0 r D ρ a w) {outs : List Rg} (hv : imps E fs ops.toList ms f r = some outs) (hall : ∀ i, i < ops.size → D i = true) :
    r ∈ outs ∧ AR ρ r.h.next r.st a.tmps a.defers := by
  refine ⟨?_, by rw [inv.pre.n]; exact inv.size, inv.pre.len, inv.pre.le, fun t => ?_, by rw [inv.pre.ds]; exact inv.defs⟩
  · cases f with
    | zero => cases hv
    | succ f =>
      unfold imps at hv
      cases hcs : cands E ms r.done ops.toList 0 with
      | nil =>
        rw [hcs] at hv
        simp only at hv
        cases hb : Nat.beq r.done (2 ^ ops.toList.length - 1) with
        | false => rw [hb] at hv; cases hv
        | true => rw [hb] at hv; cases hv; exact .head _
      | cons c cs =>
        exfalso
        obtain ⟨j, h1, h2, h3, h4, h5⟩ := cands_mem.1 (show c ∈ cands E ms r.done ops.toList 0 by rw [hcs]; exact .head _)
        have hj : j < ops.size := by
          have := (List.getElem?_eq_some_iff.1 h1).1
          simpa using this
        have := inv.dsub j (hall j hj)
        rw [h2, Nat.zero_add, this] at h4
        cases h4
  · by_cases hw : ∃ j, Wr ops j t
    · obtain ⟨j, hj⟩ := hw
      have hlt : j < ops.size := by obtain ⟨o, b1, _⟩ := hj; exact (Array.getElem?_eq_some_iff.1 b1).1
      exact inv.new t j hj (hall j hlt)
    · rw [inv.pre.old t fun j hj => absurd ⟨j, hj⟩ hw]
      exact inv.old t fun j hj => absurd ⟨j, hj⟩ hw
end
end Go.Ev
