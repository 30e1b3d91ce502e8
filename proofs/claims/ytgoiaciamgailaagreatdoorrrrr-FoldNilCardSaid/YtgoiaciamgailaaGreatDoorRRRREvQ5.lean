/- What runs on what is known: code. -/
import Derived.Test.YtgoiaciamgailaaGreatDoorRRRREvQ4
namespace Go.Ev
set_option linter.unusedVariables false
set_option linter.unusedSimpArgs false
set_option linter.unusedSectionVars false
set_option linter.unnecessarySimpa false

/-- Drawn regions. -/
def DrawnOk (E : Env) (fs : Fns) : Prop :=
  ∀ (id : Nat) (ops : Array Oper) (st : St) (h : Heap) (l : List (St × Heap)), drawn E fs ops.toList st h = some l → ∀ ρ a w r n, HR E ρ h w → AR ρ h.next st a.tmps a.defers →
    (Code.region id ops true).wpIn (W r) n E.P (fun e a' w' => ∃ st' h' ρ', (st', h') ∈ l ∧ e = .normal ∧ Go E ρ h w ρ' h' w' ∧ AR ρ' h'.next st' a'.tmps a'.defers ∧ st'.round = st.round) a w

section
variable {E : Env} {fs : Fns} {lf : Nat}
theorem cok_skip : COk E .skip (evCode E fs lf .skip) := fun st h outs hv ρ a w r n hr ha hro => by
  cases hv
  exact wpIn_skip ⟨_, ρ, .head _, rfl, .refl E hr, ha, hro⟩
theorem cok_label (l : Nat) : COk E (.label l) (evCode E fs lf (.label l)) := fun st h outs hv ρ a w r n hr ha hro => by
  cases hv
  exact wpIn_label ⟨_, ρ, .head _, rfl, .refl E hr, ha, hro⟩
theorem cok_exit (id : Nat) : COk E (.exit id) (evCode E fs lf (.exit id)) := fun st h outs hv ρ a w r n hr ha hro => by
  cases hv
  exact wpIn_exit ⟨_, ρ, .head _, rfl, .refl E hr, ha, hro⟩
theorem cok_goto (l : Nat) : COk E (.goto l) (evCode E fs lf (.goto l)) := fun st h outs hv ρ a w r n hr ha hro => by
  cases hv
  exact wpIn_goto ⟨_, ρ, .head _, rfl, .refl E hr, ha, hro⟩
theorem cok_ret : COk E .ret (evCode E fs lf .ret) := fun st h outs hv ρ a w r n hr ha hro => by
  cases hv
  exact wpIn_ret ⟨_, ρ, .head _, rfl, .refl E hr, ha, hro⟩
theorem cok_refuse (s : String) : COk E (.refuse s) (evCode E fs lf (.refuse s)) := fun st h outs hv => by cases hv
theorem cok_seq {x y : Code} (hx : COk E x (evCode E fs lf x)) (hy : COk E y (evCode E fs lf y)) : COk E (.seq x y) (evCode E fs lf (.seq x y)) := fun st h outs hv ρ a w r n hr ha hro => by
  obtain ⟨l, e1, k1⟩ := bindM_some (show bindM (evCode E fs lf x st h) (seqK (evCode E fs lf y)) = some outs from hv)
  refine wpIn_seq (wpIn_mono (hx st h l e1 ρ a w r n hr ha hro) ?_)
  rintro e a' w' ⟨o, ρ', m1, c1, c2, c3, c4⟩
  obtain ⟨os, e2, k2⟩ := k1 o m1
  subst c1
  unfold seqK at e2
  cases hj : o.j <;> rw [hj] at e2 <;> simp only at e2
  · exact wpIn_mono (hy o.st o.h os e2 ρ' a' w' r n c2.hr c3 c4) fun e a'' w'' hq => OutR.lift k2 c2 hq
  all_goals
    cases e2
    exact OutR.lift k2 c2 ⟨o, ρ', .head _, by rw [hj], .refl E c2.hr, c3, c4⟩
theorem cok_cond {c : Operand} {x y : Code} (hx : COk E x (evCode E fs lf x)) (hy : COk E y (evCode E fs lf y)) : COk E (.cond c x y) (evCode E fs lf (.cond c x y)) := fun st h outs hv ρ a w r n hr ha hro => by
  have hv' : condK (opd st c) (evCode E fs lf x st h) (evCode E fs lf y st h) = some outs := hv
  have hc := ha.opd c
  unfold condK at hv'
  split at hv'
  · rename_i t he
    rw [he] at hc
    refine wpIn_cond (t := t) (by generalize a.eval c = z at hc; cases hc; rfl) ?_
    cases t
    · exact hy st h outs hv' ρ a w r n hr ha hro
    · exact hx st h outs hv' ρ a w r n hr ha hro
  · cases hv'
theorem cok_block {id : Nat} {x : Code} (hx : COk E x (evCode E fs lf x)) : COk E (.block id x) (evCode E fs lf (.block id x)) := fun st h outs hv ρ a w r n hr ha hro => by
  obtain ⟨l, e1, k1⟩ := bindM_some (show bindM (evCode E fs lf x st h) (blockK id) = some outs from hv)
  refine wpIn_block (wpIn_mono (hx st h l e1 ρ a w r n hr ha hro) ?_)
  rintro e a' w' ⟨o, ρ', m1, c1, c2, c3, c4⟩
  obtain ⟨os, e2, k2⟩ := k1 o m1
  subst c1
  unfold blockK at e2
  have same : os = [o] → OutR E outs ρ h w r (exitOf o.j) a' w' := fun h1 => by
    subst h1
    exact OutR.lift k2 c2 ⟨o, ρ', .head _, rfl, .refl E c2.hr, c3, c4⟩
  cases hj : o.j <;> rw [hj] at e2 <;> simp only at e2
  · have := same (by cases e2; rfl); rw [hj] at this; exact this
  · rename_i k
    show if k = id then _ else _
    cases hk : Nat.beq k id with
    | true =>
      rw [hk] at e2
      cases e2
      rw [if_pos (Nat.eq_of_beq_eq_true hk)]
      exact OutR.lift k2 c2 ⟨_, ρ', .head _, rfl, .refl E c2.hr, c3, c4⟩
    | false =>
      rw [hk] at e2
      rw [if_neg (Nat.ne_of_beq_eq_false hk)]
      have := same (by cases e2; rfl); rw [hj] at this; exact this
  · have := same (by cases e2; rfl); rw [hj] at this; exact this
  · have := same (by cases e2; rfl); rw [hj] at this; exact this
theorem rounds_mono {F : Fence} {n : Nat} {P : Program} {c : Code} {Q Q' : Exit → Act → World → Prop} : ∀ (m : Nat) {a : Act} {w : World}, Code.roundsIn F n P c Q m a w → (∀ e a w, Q e a w → Q' e a w) → Code.roundsIn F n P c Q' m a w
  | 0, _, _, h, _ => h
  | m + 1, _, _, h, hq => wpIn_mono h fun e a w hh => by
    cases e with
    | normal => exact rounds_mono m hh hq
    | _ => exact hq _ _ _ hh
theorem cok_loop {x : Code} (hx : COk E x (evCode E fs lf x)) : COk E (.loop x) (evCode E fs lf (.loop x)) := fun st h outs hv ρ a w r n hr ha hro => by
  have key : ∀ (m : Nat) (st : St) (h : Heap) (outs : List Out) (ρ : Rho) (a : Act) (w : World), iter (evCode E fs lf x) m st h = some outs → HR E ρ h w → AR ρ h.next st a.tmps a.defers → RoundR ρ h.next st.round r →
      Code.roundsIn (W r) n E.P x (OutR E outs ρ h w r) m a w := by
    intro m
    induction m with
    | zero => intro st h outs ρ a w hv; cases hv
    | succ m ih =>
      intro st h outs ρ a w hv hr ha hro
      obtain ⟨l, e1, k1⟩ := bindM_some (show bindM (evCode E fs lf x st h) (fun o => match o.j with | .normal => iter (evCode E fs lf x) m o.st o.h | _ => some [o]) = some outs from hv)
      rw [roundsIn_succ]
      refine wpIn_mono (hx st h l e1 ρ a w r n hr ha hro) ?_
      rintro e a' w' ⟨o, ρ', m1, c1, c2, c3, c4⟩
      obtain ⟨os, e2, k2⟩ := k1 o m1
      subst c1
      cases hj : o.j <;> rw [hj] at e2 <;> simp only at e2
      · have := ih o.st o.h os ρ' a' w' e2 c2.hr c3 c4
        exact rounds_mono m this (fun e a'' w'' hq => OutR.lift k2 c2 hq)
      all_goals
        cases e2
        exact OutR.lift k2 c2 ⟨o, ρ', .head _, by rw [hj], .refl E c2.hr, c3, c4⟩
  exact wpIn_loop_rounds lf (key lf st h outs ρ a w hv hr ha hro)
end
end Go.Ev
