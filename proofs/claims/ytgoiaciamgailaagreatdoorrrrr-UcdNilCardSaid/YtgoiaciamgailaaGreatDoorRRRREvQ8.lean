/- What runs on what is known: calls; the whole. -/
import Derived.Test.YtgoiaciamgailaaGreatDoorRRRREvQ7
namespace Go.Ev
set_option linter.unusedVariables false
set_option linter.unusedSimpArgs false
set_option linter.unusedSectionVars false
set_option linter.unnecessarySimpa false

theorem fillTo_len : ∀ (n : Nat), (fillTo n).length = n
  | 0 => rfl
  | n + 1 => by simp [fillTo, fillTo_len n]
theorem fillTo_get : ∀ (n i : Nat), i < n → (fillTo n)[i]? = some (.val (.tuple #[]))
  | 0, i, h => by omega
  | n + 1, 0, h => by simp [fillTo]
  | n + 1, i + 1, h => by simpa [fillTo] using fillTo_get n i (by omega)
theorem newVars_len : ∀ (l : List SV) (c : Nat), (newVars c l).length = c
  | [], c => by simpa [newVars] using fillTo_len c
  | a :: as, 0 => rfl
  | a :: as, c + 1 => by simp [newVars, newVars_len as c]
theorem newVars_get : ∀ (l : List SV) (c i : Nat), i < c → (newVars c l)[i]? = some (l.getD i (.val (.tuple #[])))
  | [], c, i, h => by simpa [newVars] using fillTo_get c i h
  | a :: as, 0, i, h => by omega
  | a :: as, c + 1, 0, h => by simp [newVars]
  | a :: as, c + 1, i + 1, h => by simpa [newVars] using newVars_get as c i (by omega)

section
variable {E : Env} {ρ : Rho} {h : Heap} {w : World}
theorem newSt_ok {N : Nat} {as : List SV} {as' : List Value} (ha : VRs ρ N as as') {c n : Nat} (h1 : as.length ≤ n) (h2 : c ≤ n) : AR ρ N (newSt c as n) ((⟨as'⟩ : Array Value) ++ Array.replicate (n - (⟨as'⟩ : Array Value).size) undef) [] := by
  have hl := ha.length
  refine ⟨by simp [newSt]; omega, newVars_len _ _, h2, fun t => ?_, .nil⟩
  simp only [newSt, getT, blt_eq]
  by_cases ht : t < c
  · rw [decide_eq_true ht, cond_true, nth_eq, newVars_get _ _ _ ht, Array.getD_eq_getD_getElem?, Array.getElem?_append]
    by_cases h3 : t < as'.length
    · rw [if_pos (by simpa using h3)]
      have h4 : t < as.length := by omega
      obtain ⟨v', h5, h6⟩ := ha.get (List.getElem?_eq_getElem h4)
      have e1 : as.getD t (.val (.tuple #[])) = as[t] := by simp [h4]
      have e2 : (⟨as'⟩ : Array Value)[t]? = some v' := by simpa using h5
      rw [e1, e2]
      exact h6
    · rw [if_neg (by simpa using h3)]
      have e1 : as.getD t (.val (.tuple #[])) = .val (.tuple #[]) := by
        rw [List.getD_eq_getElem?_getD, List.getElem?_eq_none (by omega)]; rfl
      have e2 : ((Array.replicate (n - (⟨as'⟩ : Array Value).size) undef)[t - (⟨as'⟩ : Array Value).size]?).getD undef = undef := by
        rw [Array.getElem?_replicate]; split <;> rfl
      rw [e1, e2]
      exact .val _
  · rw [decide_eq_false ht, cond_false]
    exact .unk _
def resSem (tmps : Array Value) : ResultVar → Sem Value
  | .tmp t => pure (tmps.getD t undef)
  | .cell c t => do loadVar t (← asAddr (tmps.getD c undef))
theorem results_eq (fn : Func) (tmps : Array Value) : results fn tmps = (do let vs ← fn.results.mapM (resSem tmps); pure (if h : vs.size = 1 then vs[0] else .tuple vs)) := by
  unfold results
  congr 1
noncomputable def resOne (E : Env) (st : St) (h : Heap) : ResultVar → Option SV
  | .tmp t => some (opd st (.tmp t))
  | .cell a t => loadS E h t (opd st (.tmp a))
theorem resultS_cons (E : Env) (st : St) (h : Heap) (r : ResultVar) (rs : List ResultVar) : resultS E st h (r :: rs) = (match resOne E st h r with
    | none => none
    | some v => match resultS E st h rs with
      | none => none
      | some l => some (v :: l)) := by
  cases r <;> rfl
def tupOf : List SV → SV
  | [v] => v
  | l => .tup l
variable (ok : EnvOk E)
include ok
theorem resOne_ok (hr : HR E ρ h w) {st : St} {a : Act} (ha : AR ρ h.next st a.tmps a.defers) {r : ResultVar} {v : SV} (hv : resOne E st h r = some v) : ∃ v', VR ρ h.next v v' ∧ (resSem a.tmps r).run E.P w = .ok v' w := by
  cases r with
  | tmp t => cases hv; exact ⟨_, ha.opd (.tmp t), rfl⟩
  | cell c t =>
    have hc := ha.opd (.tmp c)
    obtain ⟨v', h1, h2⟩ := load_ok ok hr hc hv
    refine ⟨v', h2, ?_⟩
    have hv2 : loadS E h t (opd st (.tmp c)) = some v := hv
    show ((do loadVar t (← asAddr (a.eval (.tmp c))) : Sem Value)).run E.P w = .ok v' w
    generalize opd st (.tmp c) = x at hv2 hc
    generalize a.eval (.tmp c) = y at hc h1 ⊢
    obtain ⟨q, rfl⟩ := loadS_ptr hc hv2
    simp only [Instr.loadAt, Instr.sureAddr, Sem.run_bind, Sem.run_pure, Result.andThen_ok] at h1
    simp only [Sem.run_bind, asAddr, Sem.run_pure, Result.andThen_ok, h1]
theorem result_ok (hr : HR E ρ h w) {st : St} {a : Act} (ha : AR ρ h.next st a.tmps a.defers) : ∀ (rs : List ResultVar) (l : List SV), resultS E st h rs = some l → ∃ l', VRs ρ h.next l l' ∧ (rs.mapM (resSem a.tmps)).run E.P w = .ok l' w
  | [], l, hv => by cases hv; exact ⟨[], .nil, rfl⟩
  | r :: rs, l, hv => by
    rw [resultS_cons] at hv
    cases h1 : resOne E st h r with
    | none => rw [h1] at hv; cases hv
    | some v =>
      rw [h1] at hv
      obtain ⟨v', b1, b2⟩ := resOne_ok ok hr ha h1
      cases h2 : resultS E st h rs with
      | none => rw [h2] at hv; cases hv
      | some l2 =>
        rw [h2] at hv
        cases hv
        obtain ⟨l', c1, c2⟩ := result_ok hr ha rs l2 h2
        refine ⟨v' :: l', .cons _ _ _ _ b1 c1, ?_⟩
        simp only [List.mapM_cons, Sem.run_bind, b2, Result.andThen_ok, c2, Sem.run_pure]
theorem results_ok (hr : HR E ρ h w) {st : St} {a : Act} (ha : AR ρ h.next st a.tmps a.defers) (fn : Func) {l : List SV} (hv : resultS E st h fn.results.toList = some l) :
    ∃ v', (results fn a.tmps).run E.P w = .ok v' w ∧ VR ρ h.next (tupOf l) v' := by
  obtain ⟨l', h1, h2⟩ := result_ok ok hr ha _ _ hv
  have hm : (fn.results.mapM (resSem a.tmps)).run E.P w = .ok ⟨l'⟩ w := by
    rw [← Array.toList_mapM, Sem.run_map] at h2
    cases hq : (fn.results.mapM (resSem a.tmps)).run E.P w with
    | ok r w'' =>
      rw [hq] at h2
      simp only [Result.andThen_ok, Result.ok.injEq] at h2
      obtain ⟨rfl, rfl⟩ := h2
      simp
    | halt e w'' => rw [hq] at h2; simp at h2
  refine ⟨if hs : (⟨l'⟩ : Array Value).size = 1 then (⟨l'⟩ : Array Value)[0] else .tuple ⟨l'⟩, ?_, ?_⟩
  · rw [results_eq, Sem.run_bind, hm]
    rfl
  · cases h1 with
    | nil => exact .tup _ _ .nil
    | cons v v' l l' a1 a2 =>
      cases a2 with
      | nil => exact a1
      | cons v2 v2' l l' a3 a4 =>
        rw [dif_neg (by simp)]
        exact .tup _ _ (.cons _ _ _ _ a1 (.cons _ _ _ _ a3 a4))
theorem leaves_ok {F : Fence} {n : Nat} {fn : Func} {tmps : Array Value} {R : Ending → World → Prop} : ∀ (ds : List SDef) (ds' : List Deferred) (ρ : Rho) (h h' : Heap) (w : World), HR E ρ h w → DefsR ρ h.next ds ds' → leaveS ds h = some h' →
    (∀ w', Go E ρ h w ρ h' w' → ∃ v, (results fn tmps).run E.P w' = .ok v w' ∧ R (.returned v) w') → LeavesInM F n E.P fn tmps R ds' .returning w
  | [], ds', ρ, h, h', w, hr, hd, hv, hR => by
    cases hd
    cases hv
    exact hR w (.refl E hr)
  | d :: ds, ds', ρ, h, h', w, hr, hd, hv, hR => by
    cases hd with
    | cons _ d' _ ds' h1 h2 =>
    cases h1 with
    | call => cases hv
    | collected b hb =>
      unfold leaveS at hv
      split at hv
      case h_2 => cases hv
      rename_i hget
      obtain ⟨o, hw, hB⟩ := hr.blk b _ hget
      cases hB
      have g : Go E ρ h w ρ (h.set b (.defs true)) (w.putObj (ρ b).b (.deferred none)) := Go.put hr hget _ _ (.defs true _)
      refine ⟨by simp, .inl ⟨(ρ b).b, w.putObj (ρ b).b (.deferred none), rfl, run_takeDeferred hw, ?_⟩⟩
      exact leaves_ok ds ds' ρ _ h' _ g.hr (h2.ren g.ren) hv fun w' g' => hR w' (g.trans E g')
end
/-- Functions whose answer is given ahead. -/
def ExtOk (E : Env) (ext : Tr (List SV → Heap → Option (List (SV × Heap)))) : Prop :=
  ∀ f e, ext.get f = some e → ∀ args h outs, e args h = some outs → ∀ ρ w args', HR E ρ h w → VRs ρ h.next args args' → NextR E outs ρ h w ((callFunc f ⟨args'⟩).run E.P w)
section
variable {E : Env} {fs : Fns} {lf : Nat} {ext : Tr (List SV → Heap → Option (List (SV × Heap)))}
variable (ok : ProgOk E) (he : ExtOk E ext)
include ok he
theorem call_ok (hcode : ∀ c, COk E c (evCode E fs lf c)) : CallOk E (evCall E fs ext lf) := fun f args h outs hv ρ w args' hr ha => by
  unfold evCall at hv
  cases hx : ext.get f with
  | some e => rw [hx] at hv; exact he f e hx args h outs hv ρ w args' hr ha
  | none =>
    rw [hx] at hv
    simp only at hv
    cases hf : E.ft.get f with
    | none => rw [hf] at hv; cases hv
    | some fn =>
      rw [hf] at hv
      simp only at hv
      cases hb : fn.body with
      | none => rw [hb] at hv; cases hv
      | some c =>
        rw [hb] at hv
        simp only at hv
        rw [MuLone.run_callFunc_enter (ok.ft f fn hf) (ok.ng f fn hf) hb]
        show Calls E.P f ⟨args'⟩ w (RetR E outs ρ h w)
        refine (callsIn_wide (n := 0)).1 (callsIn_of_wp_marks (ok.ft f fn hf) hb trivial ?_ rfl)
        obtain ⟨l, e1, k1⟩ := bindM_some hv
        cases hc1 : (Nat.ble args.length fn.ntmps && Nat.ble ((E.cuts.get f).getD 0) fn.ntmps) with
        | false => rw [hc1] at e1; cases e1
        | true =>
          rw [hc1] at e1
          simp only [Bool.and_eq_true] at hc1
          have hA := newSt_ok ha (Nat.le_of_ble_eq_true hc1.1) (Nat.le_of_ble_eq_true hc1.2)
          refine wpIn_mono (hcode c _ h l e1 ρ { tmps := (⟨args'⟩ : Array Value) ++ Array.replicate (fn.ntmps - (⟨args'⟩ : Array Value).size) undef, defers := [] } w none 0 hr hA trivial) ?_
          rintro e a' w' ⟨o, ρ', m1, c1, c2, c3, c4⟩
          obtain ⟨os, e2, k2⟩ := k1 o m1
          have fin : (match leaveS o.st.ds o.h with
            | some h => match resultS E o.st h fn.results.toList with
              | some [v] => some [(v, h)]
              | some l => some [(.tup l, h)]
              | none => none
            | none => none) = some os → LeavesInM Fence.wide 0 E.P fn a'.tmps (RetR E outs ρ h w) a'.defers .returning w' := fun e2 => by
            cases hl : leaveS o.st.ds o.h with
            | none => rw [hl] at e2; cases e2
            | some h2 =>
              rw [hl] at e2
              simp only at e2
              refine leaves_ok ok.toEnvOk o.st.ds a'.defers ρ' o.h h2 w' c2.hr c3.defs hl ?_
              intro w2 g
              cases hrs : resultS E o.st h2 fn.results.toList with
              | none => rw [hrs] at e2; cases e2
              | some rl =>
                obtain ⟨v', r1, r2⟩ := results_ok ok.toEnvOk g.hr (c3.ren g.ren) fn hrs
                refine ⟨v', r1, ?_⟩
                rw [hrs] at e2
                have hos : os = [(tupOf rl, h2)] := by
                  cases rl with
                  | nil => cases e2; rfl
                  | cons v rl => cases rl with
                    | nil => cases e2; rfl
                    | cons v2 rl => cases e2; rfl
                exact ⟨_, h2, v', ρ', k2 _ (by rw [hos]; exact .head _), rfl, r2, c2.trans E g⟩
          subst c1
          cases hj : o.j <;> rw [hj] at e2 <;> simp only at e2
          · exact fin e2
          · cases e2
          · cases e2
          · exact fin e2
theorem code_ok (fo : FnsOk E fs) (hd : DrawnOk E fs) : ∀ (c : Code), COk E c (evCode E fs lf c)
  | .skip => cok_skip
  | .region id ops d => cok_region ok fo hd id ops d
  | .seq a b => cok_seq (code_ok fo hd a) (code_ok fo hd b)
  | .cond c a b => cok_cond (code_ok fo hd a) (code_ok fo hd b)
  | .block id b => cok_block (code_ok fo hd b)
  | .loop b => cok_loop (code_ok fo hd b)
  | .rangeFunc f ps assign body => cok_range ok fo f ps assign body
  | .exit id => cok_exit id
  | .scope b => cok_scope fo (code_ok fo hd b)
  | .label l => cok_label l
  | .goto l => cok_goto l
  | .ret => cok_ret
  | .refuse s => cok_refuse s
theorem ev_ok (hd : ∀ fs, FnsOk E fs → DrawnOk E fs) : ∀ (n : Nat), FnsOk E (ev E ext lf n)
  | 0 => ⟨fun f args h outs hv => (by cases hv), fun c st h outs hv => (by cases hv)⟩
  | n + 1 =>
    have ih := ev_ok hd n
    have hc := code_ok ok he ih (hd _ ih)
    ⟨call_ok ok he hc, hc⟩
end
end Go.Ev
