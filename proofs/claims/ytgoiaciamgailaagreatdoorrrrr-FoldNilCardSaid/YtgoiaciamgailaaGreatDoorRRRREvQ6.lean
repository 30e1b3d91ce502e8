/- What runs on what is known: scopes, regions, ranges over functions; calls; the whole. -/
import Derived.Test.YtgoiaciamgailaaGreatDoorRRRREvQ5
namespace Go.Ev
set_option linter.unusedVariables false
set_option linter.unusedSimpArgs false
set_option linter.unusedSectionVars false
set_option linter.unnecessarySimpa false

theorem stepR_scope' {P : Program} {b : Frame} {a : Act} {k : List Item} {cs : List Frame} {w : World} {x : Code} : step P (lone (b.atR a (.code (.scope x) :: k)) cs w) = .next (lone (b.atR a (.code x :: .inScope x :: k)) cs w) :=
  step_lone_go (by simp [stepG, stepG.exec, Frame.atR])
theorem stepR_inScope' {P : Program} {b : Frame} {a : Act} {k : List Item} {cs : List Frame} {w : World} {x : Code} : step P (lone (b.atR a (.inScope x :: k)) cs w) = .next (lone (b.atR a k) cs w) :=
  step_lone_go (by simp [stepG, stepG.exec, Frame.atR])

section
variable {E : Env} {fs : Fns} {lf : Nat}
section
variable (fo : FnsOk E fs)
include fo
theorem scope_from {x : Code} {r : Option Nat} {n : Nat} {b : Frame} {k : List Item} {cs : List Frame} (hro : b.roundOf = r) : ∀ (f : Nat) (o : Out) (os : List Out), scopeF fs x f o = some os → ∀ (ρ : Rho) (a : Act) (w : World) (m : Machine), HR E ρ o.h w → AR ρ o.h.next o.st a.tmps a.defers → RoundR ρ o.h.next o.st.round r →
    ArrivesIn (Machine.fenced E.P (W r)) E.P m b (.inScope x :: k) cs (exitOf o.j) a w → ∃ e a' w', OutR E os ρ o.h w r e a' w' ∧ ArrivesIn (Machine.fenced E.P (W r)) E.P m b k cs e a' w' := by
  intro f
  induction f with
  | zero => intro o os h; cases h
  | succ f ih =>
    intro o os hv ρ a w m hr ha hrr harr
    have hrm : (W r).room (cs.length + 1 + n) := W_room r _
    have here : ∀ {e : Exit}, e = exitOf o.j → os = [o] → OutR E os ρ o.h w r e a w := fun he h1 => by
      subst h1
      exact ⟨o, ρ, .head _, he, .refl E hr, ha, hrr⟩
    have pass : ∀ (t : Nat), exitTo t (.inScope x :: k) = exitTo t k := fun t => rfl
    unfold scopeF at hv
    cases hj : o.j <;> rw [hj] at hv harr <;> simp only at hv
    · refine ⟨.normal, a, w, here (by rw [hj]; rfl) (by cases hv; rfl), ?_⟩
      exact StepsIn.trans harr (.one (fenced_calm (fr := b.atR a (.inScope x :: k)) (n := n) trivial hrm rfl) stepR_inScope')
    · rename_i id
      refine ⟨.exit id, a, w, here (by rw [hj]; rfl) (by cases hv; rfl), ?_⟩
      exact ⟨fun k' hk => harr.1 k' hk, fun h1 h2 => harr.2 h1 h2⟩
    · rename_i l
      cases hf : findLabel x l with
      | none =>
        rw [hf] at hv
        have hg : gotoIn l (.inScope x :: k) = gotoIn l k := by simp [gotoIn, hf]
        refine ⟨.goto l, a, w, here (by rw [hj]; rfl) (by cases hv; rfl), ?_⟩
        exact ⟨fun k' hk => harr.1 k' (by rw [hg]; exact hk), fun h1 h2 => harr.2 h1 (by rw [hg]; exact h2)⟩
      | some c =>
        rw [hf] at hv
        obtain ⟨l1, e1, k1⟩ := bindM_some hv
        have hg : gotoIn l (.inScope x :: k) = some (.code c :: .inScope x :: k) := by simp [gotoIn, hf]
        obtain ⟨e, a', w', ⟨o2, ρ2, m1, c1, c2, c3, c4⟩, harr2⟩ := fo.code c o.st o.h l1 e1 ρ a w r n hr ha hrr b (.inScope x :: k) cs hro trivial hrm
        obtain ⟨os2, e2, k2⟩ := k1 o2 m1
        subst c1
        obtain ⟨e3, a3, w3, hq, harr3⟩ := ih o2 os2 e2 ρ2 a' w' m c2.hr c3 c4 (ArrivesIn.of_steps (harr.1 _ hg) harr2)
        exact ⟨e3, a3, w3, OutR.lift k2 c2 hq, harr3⟩
    · refine ⟨.ret, a, w, here (by rw [hj]; rfl) (by cases hv; rfl), harr⟩
theorem cok_scope {x : Code} (hx : COk E x (evCode E fs lf x)) : COk E (.scope x) (evCode E fs lf (.scope x)) := fun st h outs hv ρ a w r n hr ha hrr => by
  obtain ⟨l, e1, k1⟩ := bindM_some (show bindM (evCode E fs lf x st h) (scopeF fs x lf) = some outs from hv)
  intro b k cs hro hb hroom
  obtain ⟨e, a', w', ⟨o, ρ', m1, c1, c2, c3, c4⟩, harr⟩ := hx st h l e1 ρ a w r n hr ha hrr b (.inScope x :: k) cs hro hb hroom
  obtain ⟨os, e2, k2⟩ := k1 o m1
  subst c1
  obtain ⟨e3, a3, w3, hq, harr3⟩ := scope_from (n := n) fo hro lf o os e2 ρ' a' w' _ c2.hr c3 c4 (ArrivesIn.of_steps (.one (fenced_calm (fr := b.atR a (.code (.scope x) :: k)) hb hroom rfl) stepR_scope') harr)
  exact ⟨e3, a3, w3, OutR.lift k2 c2 hq, harr3⟩
end
section
variable (ok : ProgOk E) (fo : FnsOk E fs)
include ok fo
theorem cok_region (hd : DrawnOk E fs) (id : Nat) (ops : Array Oper) (d : Bool) : COk E (.region id ops d) (evCode E fs lf (.region id ops d)) := fun st h outs hv ρ a w r n hr ha hrr => by
  have hv' : regionS E fs ops.toList d st h = some outs := hv
  unfold regionS at hv'
  obtain ⟨l, e1, k1⟩ := bindM_some hv'
  cases d with
  | true =>
    refine wpIn_mono (hd id ops _ h l e1 ρ a w r n hr ha.clear) ?_
    rintro e a' w' ⟨st', h', ρ', m1, rfl, c2, c3, c4⟩
    obtain ⟨os, e2, k2⟩ := k1 _ m1
    cases e2
    exact OutR.lift k2 c2 ⟨_, ρ', .head _, rfl, .refl E c2.hr, c3, by rw [c4]; exact hrr.ren c2.ren⟩
  | false =>
    refine wpIn_region ?_
    have := runOps_ok ok fo ops (r := r) (n := n) (Q := OutR E outs ρ h w r) ops.toList 0 rfl { st with loc := [] } a ρ h w l hr ha.clear e1 ?_
    · rw [Array.length_toList, ← List.range_eq_range'] at this
      exact this
    · intro st' h' a' ρ' w' m1 c3 c4 c2
      obtain ⟨os, e2, k2⟩ := k1 _ m1
      cases e2
      exact OutR.lift k2 c2 ⟨_, ρ', .head _, rfl, .refl E c2.hr, c3, by rw [c4]; exact hrr.ren c2.ren⟩
theorem enter_ok {ρ : Rho} {h : Heap} {w : World} {r : Option Nat} (hr : HR E ρ h w) {st : St} {a : Act} (ha : AR ρ h.next st a.tmps a.defers) (hrr : RoundR ρ h.next st.round r) {d : Nat} {ds : List SDef} {h' : Heap} (hv : enterS st h = some (d, ds, h')) (fn : FuncId) (ps : Array Tmp) (assign body : Code) :
    ∃ ρ' l mark w', (Instr.enterLoop fn a.tmps ps assign body r).run E.P w = .ok (l, mark) w' ∧ Go E ρ h w ρ' (h'.new (.loop ⟨.ready, none, 0, st.vars, st.n, ps, assign, body, d⟩)) w' ∧ (ρ' h'.next).b = l ∧ h.next ≤ h'.next ∧
      AR ρ' (h'.next + 1) { st with ds := ds } a.tmps (mark ++ a.defers) := by
  have hvars : VarsR ρ h.next st.vars st.n a.tmps := ⟨ha.size, by rw [ha.len]; exact ha.le, fun i v hi => by
    have := ha.get i
    have hlt : i < st.cut := by rw [← ha.len]; exact (List.getElem?_eq_some_iff.1 hi).1
    simp only [getT, blt_eq, decide_eq_true hlt, cond_true, nth_eq, hi] at this
    exact this⟩
  unfold enterS at hv
  cases hst : st.round with
  | some l =>
    rw [hst] at hv hrr
    cases r with
    | none => exact hrr.elim
    | some l' =>
      obtain ⟨hl, rfl⟩ := hrr
      simp only at hv
      split at hv
      case h_2 => cases hv
      rename_i rr hb
      cases hv
      obtain ⟨r', hw, h1, h2, h3, h4, h5, h6, h7, h8⟩ := loop_at hr hb
      refine ⟨ρ.set h.next ⟨w.heap.size, 0, 0, 0⟩, w.heap.size, [], w.alloc (.loop { state := .ready, pending := none, fn := fn, tmps := a.tmps, params := ps, assign := assign, body := body, defers := r'.defers }), ?_, ?_, ?_, Nat.le_refl _, ?_⟩
      rotate_left
      · refine Go.new E hr _ _ 0 0 ?_
        have hren := Ren.set ρ h.next ⟨w.heap.size, 0, 0, 0⟩
        refine .loop _ _ _ rfl rfl (hvars.ren hren) rfl rfl rfl (Nat.lt_succ_of_lt h7) ?_
        rw [hren.same _ h7]; exact h8
      · rw [Rho.set_self]
      · have h9 := ha.ren (Ren.set ρ h.next ⟨w.heap.size, 0, 0, 0⟩)
        exact ⟨h9.size, h9.len, h9.le, h9.get, h9.defs⟩
      · unfold Instr.enterLoop
        simp only [Sem.run_bind, run_getLoop hw, run_newObj_alloc, Result.andThen, Sem.run_pure]
  | none =>
    rw [hst] at hv hrr
    cases r with
    | some l' => exact hrr.elim
    | none =>
      cases hv
      have g1 := Go.new E hr (.defs false) (.deferred (some [])) 0 0 (.defs false _)
      have h7 : h.next < (h.new (.defs false)).next := Nat.lt_succ_self _
      have g2 := Go.new E g1.hr (.loop ⟨.ready, none, 0, st.vars, st.n, ps, assign, body, h.next⟩) (.loop { state := .ready, pending := none, fn := fn, tmps := a.tmps, params := ps, assign := assign, body := body, defers := w.heap.size }) 0 0 (by
        have hren := Ren.set (ρ.set h.next ⟨w.heap.size, 0, 0, 0⟩) (h.new (.defs false)).next ⟨(w.alloc (.deferred (some []))).heap.size, 0, 0, 0⟩
        refine .loop _ _ _ rfl rfl ((hvars.ren g1.ren).ren hren) rfl rfl rfl (Nat.lt_succ_of_lt h7) ?_
        rw [hren.same _ h7, Rho.set_self])
      refine ⟨_, _, _, _, run_enterLoop_outer fn a.tmps ps assign body, g1.trans E g2, ?_, Nat.le_succ _, ?_⟩
      · rw [Rho.set_self]; simp
      · have h9 := (ha.ren g1.ren).ren g2.ren
        refine ⟨h9.size, h9.len, h9.le, h9.get, ?_⟩
        have e : w.heap.size = (((ρ.set h.next ⟨w.heap.size, 0, 0, 0⟩).set (h.new (.defs false)).next ⟨(w.alloc (.deferred (some []))).heap.size, 0, 0, 0⟩) h.next).b := by
          rw [Rho.set_ne _ _ (Nat.ne_of_lt h7), Rho.set_self]
        have hD := DefR.collected (ρ := ((ρ.set h.next ⟨w.heap.size, 0, 0, 0⟩).set (h.new (.defs false)).next ⟨(w.alloc (.deferred (some []))).heap.size, 0, 0, 0⟩)) (N := (h.new (.defs false)).next + 1) h.next (Nat.lt_succ_of_lt h7)
        rw [← e] at hD
        exact .cons _ _ _ _ hD h9.defs
end
end
end Go.Ev
