/- What runs on what is known: ranges over functions; calls; the whole. -/
import Derived.Test.YtgoiaciamgailaaGreatDoorRRRREvQ6
namespace Go.Ev
set_option linter.unusedVariables false
set_option linter.unusedSimpArgs false
set_option linter.unusedSectionVars false
set_option linter.unnecessarySimpa false

section
variable {E : Env} {fs : Fns} {lf : Nat}
variable (ok : ProgOk E) (fo : FnsOk E fs)
include ok fo
theorem endLoop_ok {ρ ρ' : Rho} {h h' : Heap} {w w' : World} {outs os : List Out} (hg : Go E ρ h w ρ' h' w') (hs : ∀ x, x ∈ os → x ∈ outs) {l : Nat} {st : St} {v : SV} (hv : endLoopS l st (v, h') = some os) {a : Act} {r : Option Nat} (ha : AR ρ' h'.next st a.tmps a.defers) (hrr : RoundR ρ' h'.next st.round r) {n : Nat} :
    ∃ jump w₄, (Instr.endLoop (ρ' l).b).run E.P w' = .ok jump w₄ ∧ (match jump with
       | none => OutR E outs ρ h w r .normal a w₄
       | some c => c.wpIn (W r) n E.P (OutR E outs ρ h w r) a w₄) := by
  unfold endLoopS at hv
  split at hv
  case h_2 => cases hv
  rename_i x hb
  obtain ⟨r', hw, hx⟩ := loop_R hg.hr hb
  obtain ⟨b1, b2, b3, b4, b5, b6, b7, b8⟩ := loop_inv hx
  have hb' : h'.t.get l = some (.loop x) := hb
  have g2 : Go E ρ' h' w' ρ' (h'.set l (.loop { x with state := .exhausted })) (w'.putObj (ρ' l).b (.loop { r' with state := .exhausted })) := by
    have := loop_put hg.hr hb' hx hw .exhausted x.pending
    rw [← b2] at this ⊢
    exact b2 ▸ this
  have hst : x.state ≠ .busy → r'.state ≠ .busy := fun hh => by rw [b1]; exact hh
  have fin : ∀ (X : Heap) (Y : World) (p : Option Code), Go E ρ' h' w' ρ' X Y → (match p with
      | none => some [⟨.normal, st, X⟩]
      | some c => match codeJump c with
        | some j => some [⟨j, st, X⟩]
        | none => none) = some os → (match p with
       | none => OutR E outs ρ h w r .normal a Y
       | some c => c.wpIn (W r) n E.P (OutR E outs ρ h w r) a Y) := fun X Y p g2 he => by
    have mk : ∀ (j : Jump), (⟨j, st, X⟩ : Out) ∈ os → OutR E outs ρ h w r (exitOf j) a Y := fun j hm =>
      ⟨_, ρ', hs _ hm, rfl, hg.trans E g2, ha.ren g2.ren, hrr.ren g2.ren⟩
    cases p with
    | none =>
      cases he
      exact mk .normal (.head _)
    | some c =>
      cases c <;> simp only [codeJump, reduceCtorEq, Option.some.injEq] at he
      · subst he; exact wpIn_exit (mk (.exit _) (.head _))
      · subst he; exact wpIn_goto (mk (.goto _) (.head _))
      · subst he; exact wpIn_ret (mk .ret (.head _))
  split at hv
  · cases hv
  · rename_i hnb
    have hfin := fin _ _ x.pending g2 hv
    rw [← b2] at hfin
    exact ⟨r'.pending, _, run_endLoop hw (hst hnb), hfin⟩
theorem cok_range (f : Operand) (ps : Array Tmp) (assign body : Code) : COk E (.rangeFunc f ps assign body) (evCode E fs lf (.rangeFunc f ps assign body)) := fun st h outs hv ρ a w r n hr ha hrr => by
  have hv' : rangeS E fs f ps assign body st h = some outs := hv
  unfold rangeS at hv'
  split at hv'
  case h_1 => cases hv'
  rename_i d ds h1 he
  have hF := ha.opd f
  split at hv'
  case h_2 => cases hv'
  rename_i g first cap hf
  rw [hf] at hF
  cases hB : hasBody E g with
  | false => rw [hB] at hv'; cases hv'
  | true =>
    rw [hB] at hv'
    simp only [cond_true] at hv'
    obtain ⟨l1, e1, k1⟩ := bindM_some hv'
    unfold hasBody at hB
    split at hB
    case h_2 => cases hB
    rename_i fn hfn
    obtain ⟨c, hc⟩ : ∃ c, fn.body = some c := Option.isSome_iff_exists.1 hB
    refine wpIn_rangeFunc ?_
    intro fid _
    obtain ⟨ρ', l, mark, w1, hrun, hG, hl, hle, hA⟩ := enter_ok ok fo hr ha hrr he fid ps assign body
    generalize hfv : a.eval f = fv at hF
    cases hF with
    | func _ fn' _ _ l' m' hfn' h2 h3 =>
    cases hfn' with
    | func _ =>
    have hargs : VRs ρ' (h1.next + 1) (first ++ [.func (.yield h1.next) [] []] ++ cap) (l' ++ [.func (.yield l) ⟨[]⟩ ⟨[]⟩] ++ m') := by
      refine ((h2.ren hG.ren).append (.cons _ _ _ _ (.func _ _ _ _ _ _ ?_ .nil .nil) .nil)).append (h3.ren hG.ren)
      rw [← hl]
      exact .yield _ (Nat.lt_succ_self _)
    have hN := fo.call g _ _ l1 e1 ρ' w1 _ hG.hr hargs
    have hcf := MuLone.run_callFunc_enter (P := E.P) (ok.ft g fn hfn) (ok.ng g fn hfn) hc ⟨l' ++ [.func (.yield l) ⟨[]⟩ ⟨[]⟩] ++ m'⟩ w1
    rw [hcf] at hN
    have hres : (resolve a.eval (rangeCall f l) 0).run E.P w1 = .ok { target := .fn (.func g) ⟨m'⟩, args := ⟨l' ++ [.func (.yield l) ⟨[]⟩ ⟨[]⟩]⟩ } w1 := by
      simp only [resolve, rangeCall, hfv, Deferred.ofValue]
      simp [Act.eval]
    refine ⟨l, mark, w1, _, w1, g, ⟨l' ++ [.func (.yield l) ⟨[]⟩ ⟨[]⟩] ++ m'⟩, w1, hrun, hres, fun _ _ => trivial, ?_, W_depth r n, (callsIn_wide (n := n - 1)).2 ?_⟩
    · simp only [invoke, List.append_toArray]
      exact hcf
    · intro cs
      obtain ⟨e, w3, fr, ⟨v, h3', v', ρ3, a1, b, c3, d3⟩, x⟩ := hN cs
      refine ⟨e, w3, fr, ?_, x⟩
      subst b
      obtain ⟨os, e2, k2⟩ := k1 _ a1
      have hsame : (ρ3 h1.next).b = l := by rw [d3.ren.same _ (Nat.lt_succ_self _)]; exact hl
      have := endLoop_ok ok fo (outs := outs) (n := n) (hG.trans E d3) k2 e2 (a := { a with defers := mark ++ a.defers }) (r := r) (hA.ren d3.ren) ((hrr.ren hG.ren).ren d3.ren)
      rw [hsame] at this
      exact this
end
end Go.Ev
