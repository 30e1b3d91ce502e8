/- What runs on what is known: the operations of a region, one after another. -/
import Derived.Test.YtgoiaciamgailaaGreatDoorRRRREvQ1
namespace Go.Ev
set_option linter.unusedVariables false
set_option linter.unusedSimpArgs false
set_option linter.unusedSectionVars false
set_option linter.unnecessarySimpa false

/-- What the functions are that code and calls are run by. -/
structure FnsOk (E : Env) (fs : Fns) : Prop where
  call : CallOk E fs.call
  code : ∀ c, COk E c (fs.code c)
/-- The program. -/
structure ProgOk (E : Env) : Prop extends EnvOk E where
  ng : ∀ f fn, E.ft.get f = some fn → (fn.name == "runtime.NumGoroutine") = false

section
variable {E : Env} {ρ : Rho} {h : Heap} {w : World}
theorem NF.next {outs : Outs} {l : List (SV × Heap)} {s : Sem Next} (hs : NF E ρ h w outs s) (e : outs = some l) : NextR E l ρ h w (s.run E.P w) := by
  obtain ⟨v, h', v', w', ρ', nx, a, b, c, d, g⟩ := hs l e
  rw [b]
  cases nx <;> simp only [nextVal, Option.some.injEq, reduceCtorEq] at c
  · subst c; exact ⟨v, h', ρ', a, d, g⟩
  · subst c; exact ⟨v, h', ρ', a, d, g⟩
theorem wanted_ok {N : Nat} {ops : Array Oper} {st : St} {a : Act} (ha : AR ρ N st a.tmps a.defers) {o : Oper} {b : Bool} (hw : wantedS ops.toList st o = some b) : Region.wanted o (yielded ops a.tmps) = b := by
  unfold wantedS at hw
  unfold Region.wanted
  cases hg : o.guard with
  | none => rw [hg] at hw; cases hw; rfl
  | some p =>
    obtain ⟨j, want⟩ := p
    rw [hg] at hw
    simp only [nth_eq, Array.getElem?_toList] at hw ⊢
    unfold yielded
    cases h1 : ops[j]? with
    | none => rw [h1] at hw; cases hw; simp
    | some g =>
      rw [h1] at hw
      simp only [Option.bind_some] at hw ⊢
      cases h2 : g.dst with
      | none => rw [h2] at hw; cases hw; simp
      | some d =>
        rw [h2] at hw
        simp only [Option.bind_some] at hw ⊢
        have h3 := ha.get d
        rw [Array.getD_eq_getD_getElem?] at h3
        generalize getT st d = x at hw h3
        cases x <;> simp only [isB, reduceCtorEq] at hw
        rename_i v
        cases v <;> simp only [isB, reduceCtorEq, Option.some.injEq] at hw
        · subst hw
          cases h5 : a.tmps[d]? with
          | none => rw [h5] at h3; cases h3
          | some v => rw [h5] at h3; simp only [Option.getD_some] at h3; cases h3; simp
        · subst hw
          cases h5 : a.tmps[d]? with
          | none => simp
          | some v => rw [h5] at h3; simp only [Option.getD_some] at h3; cases h3; simp

section
variable (ok : ProgOk E) {fs : Fns} (fo : FnsOk E fs)
include ok fo
theorem recv_ok (hr : HR E ρ h w) {t : TypeId} {x : SV} {x' : Value} (hx : VR ρ h.next x x') {name : String} {f : FuncId} {r : SV} (hv : recvOf E t x h name = some (f, r)) :
    ∃ r', (method (E.P.types.size + Made.depth) t x' name).run E.P w = .ok (f, r') w ∧ VR ρ h.next r r' := by
  unfold recvOf at hv
  cases h1 : info E t with
  | none => rw [h1] at hv; cases hv
  | some i =>
    rw [h1] at hv
    cases h2 : i.methods.toList.find? (·.name == name) with
    | none => simp only [h2] at hv; cases hv
    | some m =>
      simp only [h2] at hv
      have h2' : i.methods.find? (·.name == name) = some m := by rw [← h2]; exact (Array.find?_toList).symm
      cases hp : m.path.isEmpty with
      | false => rw [hp] at hv; cases hv
      | true =>
        rw [hp] at hv
        have hp' : m.path.toList = [] := by have := Array.isEmpty_iff.1 hp; rw [this]
        simp only [cond_true] at hv
        have ti := run_info ok.toEnvOk h1 w
        cases hf : m.func with
        | none => rw [hf] at hv; cases hv
        | some p =>
          obtain ⟨f0, pr⟩ := p
          rw [hf] at hv
          cases hu : und E t with
          | none => rw [hu] at hv; cases pr <;> cases hv
          | some d =>
            rw [hu] at hv
            have tu := run_und ok.toEnvOk hu w
            have go : ∀ {r'}, (receiverAt t (.val x') pr (if m.path.isEmpty then some ((name.splitOn ".").getLastD name) else none)).run E.P w = .ok r' w → (method (E.P.types.size + Made.depth) t x' name).run E.P w = .ok (f0, r') w := fun {r'} hh => by
              obtain ⟨k, hk⟩ : ∃ k, E.P.types.size + Made.depth = k + 1 := ⟨_, rfl⟩
              rw [hk]
              simp only [method, Sem.run_bind, ti, Result.andThen_ok, h2', hp', follow, Sem.run_pure, hf]
              rw [hh]
              rfl
            have other : (∀ e, d ≠ .pointer e) → pr = false → (f0, x) = (f, r) → ∃ r', (method (E.P.types.size + Made.depth) t x' name).run E.P w = .ok (f, r') w ∧ VR ρ h.next r r' := fun hn hpr he => by
              cases he
              subst hpr
              refine ⟨x', go ?_, hx⟩
              simp only [receiverAt, Sem.run_bind, tu, Result.andThen_ok]
              cases d <;> first | exact absurd rfl (hn _) | rfl
            cases d <;> cases pr <;> simp only [Option.some.injEq, reduceCtorEq] at hv <;> try exact other (fun _ => by simp) rfl hv
            · rename_i e
              cases hl : loadS E h e x with
              | none => rw [hl] at hv; cases hv
              | some y =>
                rw [hl] at hv
                cases hv
                obtain ⟨y', h3, h4⟩ := load_ok ok.toEnvOk hr hx hl
                refine ⟨y', go ?_, h4⟩
                obtain ⟨q, rfl⟩ := loadS_ptr hx hl
                simp only [Instr.loadAt, Instr.sureAddr, Sem.run_bind, Sem.run_pure, Result.andThen_ok] at h3
                have hc : ∀ (n : String) (q : Addr), Builtin.ssaWrapNilChk_ #[t] t #[.pointer (some q), strVal "", strVal n] = pure (.pointer (some q)) := fun _ _ => rfl
                simp only [receiverAt, Sem.run_bind, tu, Result.andThen_ok, Place.get, Sem.run_pure, hp, if_true, hc, asAddr, h3]
            · cases hv
              refine ⟨x', go ?_, hx⟩
              simp only [receiverAt, Sem.run_bind, tu, Result.andThen_ok, Place.get, Sem.run_pure]
theorem method_ok (hr : HR E ρ h w) {x : SV} {x' : Value} (hx : VR ρ h.next x x') {name : String} {as : List SV} {as' : List Value} (ha : VRs ρ h.next as as') {outs : List (SV × Heap)} (hv : methodS E fs x name as h = some outs) :
    NextR E outs ρ h w ((callMethod x' name ⟨as'⟩).run E.P w) := by
  have key : ∀ (t : TypeId) (y : SV) (y' : Value), VR ρ h.next y y' → (match recvOf E t y h name with | some (f, r) => fs.call f (r :: as) h | none => none) = some outs → NextR E outs ρ h w ((callMethod (.iface t y') name ⟨as'⟩).run E.P w) := fun t y y' hy hm => by
    cases h1 : recvOf E t y h name with
    | none => rw [h1] at hm; cases hm
    | some p =>
      obtain ⟨f, r⟩ := p
      rw [h1] at hm
      obtain ⟨r', h2, h3⟩ := recv_ok ok fo hr hy h1
      have := fo.call f (r :: as) h outs hm ρ w (r' :: as') hr (.cons _ _ _ _ h3 ha)
      have hp : Sem.run E.P program w = .ok E.P w := rfl
      simp only [callMethod, Sem.run_bind, hp, Result.andThen_ok, h2]
      rw [show (#[r'] ++ (⟨as'⟩ : Array Value)) = ⟨r' :: as'⟩ by simp]
      exact this
  unfold methodS at hv
  split at hv
  · cases hx
    exact key _ _ _ (by assumption) hv
  · rename_i t v
    cases hx
    cases h1 : recvOf E t (.val v) h name with
    | some p => exact key _ _ _ (.val _) (by rw [h1] at hv ⊢; exact hv)
    | none =>
      rw [h1] at hv
      simp only at hv
      cases h2 : pureRun E.P (method (E.P.types.size + Made.depth) t v name) with
      | none => rw [h2] at hv; cases hv
      | some p =>
        obtain ⟨f, r⟩ := p
        rw [h2] at hv
        have h3 := pureRun_run h2 w
        have := fo.call f (.val r :: as) h outs hv ρ w (r :: as') hr (.cons _ _ _ _ (.val r) ha)
        have hp : Sem.run E.P program w = .ok E.P w := rfl
        simp only [callMethod, Sem.run_bind, hp, Result.andThen_ok, h3]
        rw [show (#[r] ++ (⟨as'⟩ : Array Value)) = ⟨r :: as'⟩ by simp]
        exact this
  · cases hv
