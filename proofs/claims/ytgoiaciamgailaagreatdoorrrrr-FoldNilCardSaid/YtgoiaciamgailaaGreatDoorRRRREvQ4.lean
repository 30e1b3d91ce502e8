/- What runs on what is known: calls; operations in a row. -/
import Derived.Test.YtgoiaciamgailaaGreatDoorRRRREvQ3
namespace Go.Ev
set_option linter.unusedVariables false
set_option linter.unusedSimpArgs false
set_option linter.unusedSectionVars false
set_option linter.unnecessarySimpa false

section
variable {E : Env} {ρ : Rho} {h : Heap} {w : World}
theorem vals_R {N : Nat} (a : Array Value) : VRs ρ N (vals a) a.toList := VRs.of_vals _
variable (ok : ProgOk E) {fs : Fns} (fo : FnsOk E fs)
include ok fo
theorem callFn_ok (hr : HR E ρ h w) {fn fn' : Fn} (hf : FnR ρ h.next fn fn') {cap : List SV} {cap' : List Value} (hc : VRs ρ h.next cap cap') {as : List SV} {as' : List Value} (ha : VRs ρ h.next as as') {outs : List (SV × Heap)} (hv : callFn E fs fn cap as h = some outs) :
    NextR E outs ρ h w ((invoke (.fn fn' ⟨cap'⟩) ⟨as'⟩).run E.P w) := by
  cases hf with
  | func f =>
    have := fo.call f (as ++ cap) h outs hv ρ w (as' ++ cap') hr (ha.append hc)
    simp only [invoke, List.append_toArray]
    exact this
  | yield l hl => exact round_ok ok fo hr hl ha hv
  | method name =>
    cases ha with
    | nil => cases hv
    | cons r r' as as' h1 h2 =>
      have := method_ok ok fo hr h1 h2 (name := name) hv
      have e1 : (⟨r' :: as'⟩ : Array Value)[0]? = some r' := by simp
      have e2 : (⟨r' :: as'⟩ : Array Value).extract 1 (⟨r' :: as'⟩ : Array Value).size = ⟨as'⟩ := by simp
      simp only [invoke, e1, e2]
      exact this
theorem callOp_ok (hr : HR E ρ h w) {st : St} {a : Act} (ha : AR ρ h.next st a.tmps a.defers) (c : Call) (ty : TypeId) {outs : List (SV × Heap)} (hv : callOp E fs c st h = some outs) :
    NextR E outs ρ h w ((do let d ← resolve a.eval c ty; invoke d.target d.args : Sem Next).run E.P w) := by
  have hA := VRs.map_opd ha c.args.toList
  have eA : c.args.map a.eval = ⟨c.args.toList.map a.eval⟩ := by apply Array.toList_inj.1; simp
  unfold callOp at hv
  rw [Sem.run_bind]
  cases hc : c.callee with
  | builtin b =>
    simp only [hc] at hv
    cases hB : builtinS E h b c.argTypes.toList (c.args.toList.map (opd st)) with
    | none => rw [hB] at hv; cases hv
    | some r =>
      rw [hB] at hv
      cases hv
      obtain ⟨v, h'⟩ := r
      have key : ∀ cs, NextR E [(v, h')] ρ h w ((builtin b c.argTypes ty cs ⟨c.args.toList.map a.eval⟩).run E.P w) := fun cs => by
        obtain ⟨v', w', ρ', h1, h2, h3⟩ := builtin_ok ok.toEnvOk hr b c.argTypes ty cs hA hB
        rw [h1]
        exact ⟨v, h', ρ', .head _, h2, h3⟩
      simp only [resolve, hc, Sem.run_pure, Result.andThen_ok, invoke, eA]
      exact key _
  | value f =>
    simp only [hc] at hv
    have hF := ha.opd f
    have hres : resolve a.eval c ty = Deferred.ofValue (a.eval f) (c.args.map a.eval) := by simp only [resolve, hc]
    rw [hres]
    split at hv
    · rename_i fn first cap he
      rw [he] at hF
      generalize a.eval f = fv at hF ⊢
      cases hF with
      | func fn fn' l m l' m' h1 h2 h3 =>
        have := callFn_ok ok fo hr h1 h3 (h2.append hA) hv
        simp only [Deferred.ofValue, Sem.run_pure, Result.andThen_ok, eA, List.append_toArray]
        exact this
    · rename_i g first cap he
      rw [he] at hF
      generalize a.eval f = fv at hF ⊢
      cases hF
      have := fo.call g _ h outs hv ρ w ((first.toList ++ c.args.toList.map a.eval) ++ cap.toList) hr (((vals_R first).append hA).append (vals_R cap))
      simp only [Deferred.ofValue, Sem.run_pure, Result.andThen_ok, eA, invoke]
      have e : first ++ (⟨c.args.toList.map a.eval⟩ : Array Value) ++ cap = ⟨(first.toList ++ c.args.toList.map a.eval) ++ cap.toList⟩ := by
        apply Array.toList_inj.1; simp
      rw [e]
      exact this
    · cases hv
  | invoke r name =>
    simp only [hc] at hv
    have := method_ok ok fo hr (ha.opd r) hA hv
    have e1 : (#[a.eval r] ++ (⟨c.args.toList.map a.eval⟩ : Array Value)) = ⟨a.eval r :: c.args.toList.map a.eval⟩ := by simp
    have e2 : (⟨a.eval r :: c.args.toList.map a.eval⟩ : Array Value)[0]? = some (a.eval r) := by simp
    have e3 : ∀ (x : Value) (l : List Value), (⟨x :: l⟩ : Array Value).extract 1 (⟨x :: l⟩ : Array Value).size = ⟨l⟩ := fun _ _ => by simp
    simp only [resolve, hc, Sem.run_pure, Result.andThen_ok, eA, e1, invoke, e2, e3]
    exact this
theorem evOp_ok (hr : HR E ρ h w) {st : St} {a : Act} {ds : List Deferred} (ha : AR ρ h.next st a.tmps ds) (ops : Array Oper) (o : Oper) {outs : List (SV × Heap)} (hv : evOp E fs ops.toList o st h = some outs) {r : Option Nat} {n : Nat} {next : Act → World → Prop} {Q : Exit → Act → World → Prop}
    (hn : ∀ v h' v' ρ' w', (v, h') ∈ outs → VR ρ' h'.next v v' → Go E ρ h w ρ' h' w' → next (a.put o.dst v') w') :
    if Region.wanted o (yielded ops a.tmps) then o.wpIn (W r) n E.P a w next Q else (∀ f, o.about E.P w a.eval = some f → (W r).fn f) ∧ next (a.put o.dst undef) w := by
  unfold evOp at hv
  have ha0 : AR ρ h.next st (Act.mk a.tmps ds).tmps (Act.mk a.tmps ds).defers := ha
  have he : (Act.mk a.tmps ds).eval = a.eval := by funext x; cases x <;> rfl
  cases hw : wantedS ops.toList st o with
  | none => rw [hw] at hv; cases hv
  | some b =>
    rw [hw] at hv
    rw [show Region.wanted o (yielded ops a.tmps) = b from wanted_ok ha0 hw]
    cases b with
    | false =>
      cases hv
      rw [if_neg (by simp)]
      exact ⟨fun _ _ => trivial, hn _ h undef ρ w (.head _) (.val _) (.refl E hr)⟩
    | true =>
      rw [if_pos rfl]
      refine ⟨fun _ _ => trivial, ?_⟩
      have key : (∀ c, o.op ≠ .defer c) → NextR E outs ρ h w ((execOp a.eval o).run E.P w) → o.uponIn (W r) n E.P a next Q ((o.semAt (W r).round a.eval).run E.P w) := fun hd hN => by
        rw [Oper.semAt_eq _ _ _ hd]
        exact upon_next hN hn
      cases hop : o.op <;> simp only [hop] at hv
      case call c =>
        refine key (by simp [hop]) ?_
        have := callOp_ok ok fo hr ha0 c o.type hv
        rw [he] at this
        simp only [execOp, hop]
        exact this
      case defer c => cases hv
      all_goals
        refine key (by simp [hop]) ?_
        have := NF.next (small_ok ok.toEnvOk hr ha0 o) (l := outs) (by rw [hop]; exact hv)
        rw [he] at this
        exact this
theorem runOps_ok (ops : Array Oper) {r : Option Nat} {n : Nat} {Q : Exit → Act → World → Prop} : ∀ (l : List Oper) (i : Nat), ops.toList.drop i = l → ∀ (st : St) (a : Act) (ρ : Rho) (h : Heap) (w : World) (outs : List (St × Heap)), HR E ρ h w → AR ρ h.next st a.tmps a.defers → runOps E fs ops.toList l st h = some outs →
    (∀ st' h' a' ρ' w', (st', h') ∈ outs → AR ρ' h'.next st' a'.tmps a'.defers → st'.round = st.round → Go E ρ h w ρ' h' w' → Q .normal a' w') → wpOpsIn (W r) n E.P ops Q (List.range' i l.length) a w := by
  intro l
  induction l with
  | nil =>
    intro i hd st a ρ h w outs hr ha hv hq
    cases hv
    exact hq st h a ρ w (.head _) ha rfl (.refl E hr)
  | cons o l ih =>
    intro i hd st a ρ h w outs hr ha hv hq
    have hi : ops[i]? = some o := by
      have := congrArg (·[0]?) hd
      simpa using this
    have hd' : ops.toList.drop (i + 1) = l := by
      rw [← List.drop_drop, hd]; rfl
    obtain ⟨l1, e1, k1⟩ := bindM_some (show bindM (runOp E fs ops.toList o st h) (fun r => runOps E fs ops.toList l r.1 r.2) = some outs from hv)
    obtain ⟨l0, e0, k0⟩ := bindM_some (show bindM (evOp E fs ops.toList o st h) (fun r => some [(putSt st o.dst r.1, r.2)]) = some l1 from e1)
    rw [List.length_cons, List.range'_succ]
    show match ops[i]? with
      | none => _
      | some o => _
    rw [hi]
    refine evOp_ok ok fo hr ha ops o e0 (next := wpOpsIn (W r) n E.P ops Q (List.range' (i + 1) l.length)) ?_
    intro v h' v' ρ' w' hm hV hG
    obtain ⟨os, e2, k2⟩ := k0 _ hm
    cases e2
    obtain ⟨os3, e3, k3⟩ := k1 _ (k2 _ (.head _))
    refine ih (i + 1) hd' _ _ ρ' h' w' os3 hG.hr ((ha.ren hG.ren).put o.dst hV) e3 ?_
    intro st' h'' a' ρ'' w'' m1 m2 m3 m4
    exact hq st' h'' a' ρ'' w'' (k3 _ m1) m2 (m3.trans (putSt_round _ _ _)) (hG.trans E m4)
end
end Go.Ev
