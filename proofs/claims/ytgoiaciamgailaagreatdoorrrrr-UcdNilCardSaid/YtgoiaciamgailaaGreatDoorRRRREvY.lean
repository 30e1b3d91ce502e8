/- Functions without a body: what they answer on what is known is what they answer. -/
import Derived.Test.YtgoiaciamgailaaGreatDoorRRRREvX
import Derived.Test.YtgoiaciamgailaaGreatDoorRRRREvZ
namespace Go.Ev
set_option linter.unusedVariables false
set_option linter.unusedSimpArgs false
set_option linter.unusedSectionVars false
open Go.Extern

/-- The answer on what is known holds of the answer. -/
def ExtSF (E : Env) (g : List SV → Heap → Outs) (e : Array Value → Sem Value) : Prop :=
  ∀ args h outs, g args h = some outs → ∀ ρ w args', HR E ρ h w → VRs ρ h.next args args' → SF E ρ h w (some outs) (e ⟨args'⟩)
/-- One function without a body. -/
structure ExtFn (E : Env) (f : FuncId) (g : List SV → Heap → Outs) : Prop where
  ok : ∃ fn e, E.P.funcs[f]? = some fn ∧ (fn.name == "runtime.NumGoroutine") = false ∧ fn.body.isNone = true ∧ Extern.findNext fn = none ∧ Extern.find fn = some e ∧ ExtSF E g e
theorem extFn_next {E : Env} {f : FuncId} {g : List SV → Heap → Outs} (hx : ExtFn E f g) {args : List SV} {h : Heap} {outs : List (SV × Heap)} (hv : g args h = some outs) {ρ : Rho} {w : World} {args' : List Value} (hr : HR E ρ h w) (ha : VRs ρ h.next args args') : NextR E outs ρ h w ((callFunc f ⟨args'⟩).run E.P w) := by
  obtain ⟨fn, e, h1, h2, h3, h4, h5, h6⟩ := hx.ok
  rw [run_callFunc_extern h1 h2 h3 h4 h5]
  obtain ⟨v, h', v', w', ρ', a, b, c, d⟩ := h6 args h outs hv ρ w args' hr ha outs rfl
  rw [b]
  exact ⟨v, h', ρ', a, c, d⟩
theorem extOk_e (E : Env) : ExtOk E Tr.e := fun f e h => by rw [Tr.get_e] at h; cases h
theorem extOk_put {E : Env} {t : Tr (List SV → Heap → Outs)} (ht : ExtOk E t) {f : FuncId} {g : List SV → Heap → Outs} (hx : ExtFn E f g) : ExtOk E (t.put f (some g)) := fun k e h args hp outs hv ρ w args' hr ha => by
  rw [Tr.get_put] at h
  by_cases hk : k = f
  · subst hk
    rw [if_pos rfl] at h
    cases h
    exact extFn_next hx hv hr ha
  · rw [if_neg hk] at h
    exact ht k e h args hp outs hv ρ w args' hr ha

section
variable {E : Env}
theorem sf_val {ρ : Rho} {h : Heap} {w : World} (hr : HR E ρ h w) {s : Sem Value} {v : Value} (hs : s.run E.P w = .ok v w) : SF E ρ h w (some [(.val v, h)]) s := SF.same hr (.val v) hs
theorem gPure_ok (e : Array Value → Sem Value) : ExtSF E (gPure E e) e := fun args h outs hv ρ w args' hr ha => by
  unfold gPure at hv
  cases h1 : toVals args with
  | none => rw [h1] at hv; cases hv
  | some vs =>
    rw [h1] at hv
    simp only at hv
    cases h2 : pureRun E.P (e vs.toArray) with
    | none => rw [h2] at hv; cases hv
    | some v =>
      rw [h2] at hv
      cases hv
      have h3 := toVals_ok h1 ha
      subst h3
      exact sf_val hr (pureRun_run h2 w)
theorem typeV_ok {ρ : Rho} {h : Heap} {w : World} (hr : HR E ρ h w) {t : TypeId} {outs : List (SV × Heap)} (hv : typeV E t h = some outs) : SF E ρ h w (some outs) (ReflectliteType.toType t) := by
  unfold typeV at hv
  cases h2 : pureRun E.P (ReflectliteType.toType t) with
  | none => rw [h2] at hv; cases hv
  | some v =>
    rw [h2] at hv
    cases hv
    exact sf_val hr (pureRun_run h2 w)
theorem gTypeOf_ok : ExtSF E (gTypeOf E) ReflectliteType.typeOf := fun args h outs hv ρ w args' hr ha => by
  unfold gTypeOf at hv
  split at hv
  · cases hv
    cases ha with | cons _ v' _ l' h1 h2 => cases h2; cases h1; exact sf_val hr rfl
  · cases ha with | cons _ v' _ l' h1 h2 => cases h2; cases h1; exact typeV_ok hr hv
  · cases ha with | cons _ v' _ l' h1 h2 => cases h2; cases h1; exact typeV_ok hr hv
  · cases hv
variable (ok : EnvOk E)
include ok
theorem valueOf_ok {ρ : Rho} {h : Heap} {w : World} (hr : HR E ρ h w) {t : TypeId} {v : SV} {v' : Value} (hx : VR ρ h.next v v') {outs : List (SV × Heap)} (hv : valueOf E t v h = some outs) : SF E ρ h w (some outs) (ReflectliteValue.unpack (.iface t v')) := by
  unfold valueOf at hv
  split at hv
  · rename_i k p h' hk hp
    cases hv
    have hB := box_ok ok hr t hx
    rw [hp] at hB
    obtain ⟨u, h2, u', w', ρ', a, b, c, d⟩ := hB _ rfl
    cases List.mem_singleton.1 a
    intro l e
    cases e
    have hb : ∃ ad, u' = .pointer (some ad) ∧ (newVar t v').run E.P w = .ok ad w' := by
      simp only [Instr.box, Sem.run_bind] at b
      cases hn : (newVar t v').run E.P w with
      | ok ad w2 => rw [hn] at b; simp only [Result.andThen_ok, Sem.run_pure, Result.ok.injEq] at b; obtain ⟨b1, b2⟩ := b; exact ⟨ad, b1.symm, by rw [b2]⟩
      | halt x w2 => rw [hn] at b; simp at b
    obtain ⟨ad, rfl, hn⟩ := hb
    refine ⟨_, _, .agg #[typeHandle E.P t, .pointer (some ad), .int .u64 (Int.ofNat (k + 128 + 0))], w', ρ', .head _, ?_, ?_, d⟩
    · have hp2 : Sem.run E.P program w' = .ok E.P w' := rfl
      simp only [ReflectliteValue.unpack, ReflectliteValue.mk, Sem.run_bind, hn, Result.andThen_ok, Rtype.handle, hp2, Sem.run_pure, pureRun_run hk w', ReflectliteValue.flagIndir]
    · exact .agg _ _ (.cons _ _ _ _ (.val _) (.cons _ _ _ _ c (.cons _ _ _ _ (.val _) .nil)))
  · cases hv
theorem gValueOf_ok : ExtSF E (gValueOf E) (fun args => ReflectliteValue.unpack (args.getD 0 (.tuple #[]))) := fun args h outs hv ρ w args' hr ha => by
  unfold gValueOf at hv
  split at hv
  · cases ha with | cons _ v' _ l' h1 h2 => cases h2; cases h1; exact valueOf_ok ok hr (.val _) hv
  · cases ha with | cons _ v' _ l' h1 h2 => cases h2; cases h1; exact valueOf_ok ok hr (by assumption) hv
  · cases hv
omit ok in
theorem partsV_ok {ρ : Rho} {N : Nat} {x : SV} {x' : Value} (hx : VR ρ N x x') {t : TypeId} {p : SV} {f : Nat} (hv : partsV E x = some (t, p, f)) : ∃ ad, VR ρ N p (.pointer (some ad)) ∧ ∀ w, (ReflectliteValue.partsAny x').run E.P w = .ok (some (t, ad, f)) w := by
  unfold partsV at hv
  split at hv
  · rename_i hd p0 fi
    split at hv
    · rename_i t0 b off f0 hh
      cases hf : Nat.beq f0 0 with
      | true => rw [hf] at hv; cases hv
      | false =>
        rw [hf] at hv
        simp only [cond_false, Option.some.injEq, Prod.mk.injEq] at hv
        obtain ⟨rfl, rfl, rfl⟩ := hv
        cases hx with
        | agg _ l' h =>
        cases h with | cons _ v1 _ l1 a1 h =>
        cases h with | cons _ v2 _ l2 a2 h =>
        cases h with | cons _ v3 _ l3 a3 h =>
        cases h
        cases a1
        cases a3
        cases a2
        refine ⟨_, .ptr b off (by assumption), fun w => ?_⟩
        have hp : Sem.run E.P program w = .ok E.P w := rfl
        have ho : (Rtype.ofHandle hd).run E.P w = .ok t0 w := by
          simp only [Rtype.ofHandle, Sem.run_bind, hp, Result.andThen_ok, hh, Sem.run_pure]
        cases f0 with
        | zero => cases hf
        | succ n =>
          have e : ReflectliteValue.partsAny (.agg ⟨[hd, .pointer (some ⟨(ρ b).b, (ρ b).o + off, none⟩), .int .u64 (Int.ofNat (n + 1))]⟩) = (do pure (some (← Rtype.ofHandle hd, ⟨(ρ b).b, (ρ b).o + off, none⟩, (Int.ofNat (n + 1)).toNat))) := rfl
          rw [e, Sem.run_bind, ho]
          rfl
    · cases hv
  · cases hv
omit ok in
theorem parts_ok {ρ : Rho} {N : Nat} {x : SV} {x' : Value} (hx : VR ρ N x x') {t : TypeId} {p : SV} {f : Nat} (hv : partsV E x = some (t, p, f)) (hn : noPackV E t = true) : ∃ ad, VR ρ N p (.pointer (some ad)) ∧ ∀ w, (ReflectliteValue.parts x').run E.P w = .ok (some (t, ad, f)) w := by
  obtain ⟨ad, h1, h2⟩ := partsV_ok hx hv
  refine ⟨ad, h1, fun w => ?_⟩
  unfold noPackV at hn
  have hn' : E.P.packed t = false := by simpa using hn
  have hp : Sem.run E.P program w = .ok E.P w := rfl
  simp only [ReflectliteValue.parts, Sem.run_bind, h2, Result.andThen_ok, Rtype.noPack, hp, hn', Bool.false_eq_true, if_false, Sem.run_pure]
omit ok in
theorem gType_ok (z : Sem Value) : ExtSF E (gType E) (ReflectliteValue.methodAny z fun t _ _ _ => ReflectliteType.toType t) := fun args h outs hv ρ w args' hr ha => by
  unfold gType at hv
  split at hv
  · rename_i x
    cases ha with | cons _ x' _ l' h1 h2 =>
    cases h2
    cases hp : partsV E x with
    | none => rw [hp] at hv; cases hv
    | some q =>
      obtain ⟨t, p, f⟩ := q
      rw [hp] at hv
      obtain ⟨ad, b1, b2⟩ := partsV_ok h1 hp
      have h3 := typeV_ok hr hv
      intro l e
      obtain ⟨v, h', v', w', ρ', a, b, c, d⟩ := h3 l e
      refine ⟨v, h', v', w', ρ', a, ?_, c, d⟩
      show ((do match ← ReflectliteValue.partsAny x' with
        | none => z
        | some (t, a, fl) => ReflectliteType.toType t : Sem Value)).run E.P w = .ok v' w'
      rw [Sem.run_bind, b2]
      exact b
  · cases hv
theorem gIsNil_ok (z : Sem Value) : ExtSF E (gIsNil E) (ReflectliteValue.method z ReflectliteValue.isNil) := fun args h outs hv ρ w args' hr ha => by
  unfold gIsNil at hv
  split at hv
  · rename_i x
    cases ha with | cons _ x' _ l' h1 h2 =>
    cases h2
    cases hp : partsV E x with
    | none => rw [hp] at hv; cases hv
    | some q =>
      obtain ⟨t, p, f⟩ := q
      rw [hp] at hv
      simp only at hv
      cases hc : (noPackV E t && [18, 19, 20, 21, 22, 23, 26].contains (f % 32)) with
      | false => rw [hc] at hv; cases hv
      | true =>
        rw [hc] at hv
        simp only [cond_true] at hv
        rw [Bool.and_eq_true] at hc
        obtain ⟨ad, b1, b2⟩ := parts_ok h1 hp hc.1
        cases hl : loadS E h t p with
        | none => rw [hl] at hv; cases hv
        | some v =>
          rw [hl] at hv
          simp only at hv
          obtain ⟨v', c1, c2⟩ := load_ok ok hr b1 hl
          simp only [Instr.loadAt, Instr.sureAddr, Sem.run_bind, Sem.run_pure, Result.andThen_ok] at c1
          cases hi : isNilV v with
          | none => rw [hi] at hv; cases hv
          | some b =>
            rw [hi] at hv
            cases hv
            refine sf_val hr ?_
            show ((do match ← ReflectliteValue.parts x' with
              | none => z
              | some (t, a, fl) => ReflectliteValue.isNil t a fl (fl % 32) : Sem Value)).run E.P w = _
            rw [Sem.run_bind, b2]
            simp only [Result.andThen_ok, ReflectliteValue.isNil, hc.2, Bool.not_true, Bool.false_eq_true, if_false, Sem.run_bind, Sem.run_pure, c1]
            unfold isNilV at hi
            split at hi <;> cases hi <;> cases c2 <;> rfl
  · cases hv
theorem gElem_ok (z : Sem Value) : ExtSF E (gElem E) (ReflectliteValue.method z ReflectliteValue.elem) := fun args h outs hv ρ w args' hr ha => by
  unfold gElem at hv
  split at hv
  · rename_i x
    cases ha with | cons _ x' _ l' h1 h2 =>
    cases h2
    cases hp : partsV E x with
    | none => rw [hp] at hv; cases hv
    | some q =>
      obtain ⟨t, p, f⟩ := q
      rw [hp] at hv
      simp only at hv
      cases hc : (noPackV E t && Nat.beq (f % 32) 22) with
      | false => rw [hc] at hv; cases hv
      | true =>
        rw [hc] at hv
        simp only [cond_true] at hv
        rw [Bool.and_eq_true, Tr.beq_of, decide_eq_true_eq] at hc
        obtain ⟨ad, b1, b2⟩ := parts_ok h1 hp hc.1
        split at hv
        · rename_i b off e hl hel
          obtain ⟨v', c1, c2⟩ := load_ok ok hr b1 hl
          simp only [Instr.loadAt, Instr.sureAddr, Sem.run_bind, Sem.run_pure, Result.andThen_ok] at c1
          cases hk : pureRun E.P (Rtype.kind e) with
          | none => rw [hk] at hv; cases hv
          | some k =>
            rw [hk] at hv
            cases hv
            cases c2
            refine SF.same hr (.agg _ _ (.cons _ _ _ _ (.val _) (.cons _ _ _ _ (.ptr b off (by assumption)) (.cons _ _ _ _ (.val _) .nil)))) ?_
            show ((do match ← ReflectliteValue.parts x' with
              | none => z
              | some (t, a, fl) => ReflectliteValue.elem t a fl (fl % 32) : Sem Value)).run E.P w = _
            rw [Sem.run_bind, b2]
            have hp2 : Sem.run E.P program w = .ok E.P w := rfl
            simp only [Result.andThen_ok, hc.2, ReflectliteValue.elem]
            rw [if_neg (by decide)]
            simp only [Sem.run_bind, Sem.run_pure, c1, pureRun_run hel w, ReflectliteValue.mk, Rtype.handle, hp2, pureRun_run hk w, ReflectliteValue.flagIndir, ReflectliteValue.flagAddr, Result.andThen_ok]
        · cases hv
  · cases hv
omit ok in
theorem set_eq (x' y' : Value) : ReflectliteValue.set #[x', y'] = (do
    let (some (dst, a, fl), some (src, b, _)) := (← ReflectliteValue.parts x', ← ReflectliteValue.parts y')
      | unsupported (.noEntry "extern/(internal/reflectlite.Value).Set.zeroValue")
    if fl / ReflectliteValue.flagAddr % 2 == 0 then unsupported (.noEntry "extern/(internal/reflectlite.Value).Set.unaddressable")
    let val ← loadVar src b
    if ← Rtype.directlyAssignable dst src then storeVar dst a val
    else if ← Rtype.implements dst src then
      if (← Rtype.kind src) == 20 then
        match val with
        | .nilIface => unsupported (.noEntry "extern/reflectlite: a nil value of one interface type handed on as a value of another")
        | _ => storeVar dst a val
      else storeVar dst a (.iface src val)
    else panicString ("reflectlite.Set: value of type " ++ (← Rtype.spelt src) ++ " is not assignable to type " ++ (← Rtype.spelt dst))
    pure (.tuple #[])) := rfl
theorem gSet_ok : ExtSF E (gSet E) ReflectliteValue.set := fun args h outs hv ρ w args' hr ha => by
  unfold gSet at hv
  split at hv
  · rename_i x y
    cases ha with | cons _ x' _ l' h1 h2 =>
    cases h2 with | cons _ y' _ l2 h3 h4 =>
    cases h4
    split at hv
    · rename_i dst a fl src b f2 hp hq
      cases hc : (noPackV E dst && noPackV E src && Nat.beq (fl / 256 % 2) 1) with
      | false => rw [hc] at hv; cases hv
      | true =>
        rw [hc] at hv
        simp only [cond_true] at hv
        rw [Bool.and_eq_true, Bool.and_eq_true, Tr.beq_of, decide_eq_true_eq] at hc
        obtain ⟨ad, b1, b2⟩ := parts_ok h1 hp hc.1.1
        obtain ⟨bd, d1, d2⟩ := parts_ok h3 hq hc.1.2
        cases hl : loadS E h src b with
        | none => rw [hl] at hv; cases hv
        | some v =>
          rw [hl] at hv
          simp only at hv
          obtain ⟨v', c1, c2⟩ := load_ok ok hr d1 hl
          simp only [Instr.loadAt, Instr.sureAddr, Sem.run_bind, Sem.run_pure, Result.andThen_ok] at c1
          have hfl : ¬ ((fl / ReflectliteValue.flagAddr % 2 == 0) = true) := by
            rw [show ReflectliteValue.flagAddr = 256 from rfl, hc.2]; decide
          have fin : ∀ (u : SV) (u' : Value) (h2 : Heap), VR ρ h.next u u' → storeS E h dst a u = some h2 → (∀ (w' : World), (storeVar dst ad u').run E.P w = .ok () w' → (ReflectliteValue.set #[x', y']).run E.P w = .ok (.tuple #[]) w') → outs = [(.val (.tuple #[]), h2)] → SF E ρ h w (some outs) (ReflectliteValue.set #[x', y']) := fun u u' h2 hu hs hrun ho => by
            obtain ⟨w', e1, e2⟩ := store_ok ok hr b1 hu hs
            simp only [Instr.storeAt, Instr.sureAddr, Sem.run_bind, Sem.run_pure, Result.andThen_ok] at e1
            subst ho
            intro l e
            cases e
            exact ⟨_, _, .tuple #[], w', ρ, .head _, hrun w' e1, .val _, e2⟩
          unfold setV at hv
          cases hda : pureRun E.P (Rtype.directlyAssignable dst src) with
          | none => rw [hda] at hv; cases hv
          | some q =>
            rw [hda] at hv
            cases q with
            | true =>
              simp only at hv
              cases hs : storeS E h dst a v with
              | none => rw [hs] at hv; cases hv
              | some h2 =>
                rw [hs] at hv
                cases hv
                refine fin v v' h2 c2 hs (fun w' hw => ?_) rfl
                rw [set_eq]
                simp only [Sem.run_bind, b2, d2, Result.andThen_ok, if_neg hfl, Sem.run_pure, c1, pureRun_run hda w, if_true, hw]
            | false =>
              simp only at hv
              cases him : pureRun E.P (Rtype.implements dst src) with
              | none => rw [him] at hv; cases hv
              | some q2 =>
                cases hks : pureRun E.P (Rtype.kind src) with
                | none => rw [him, hks] at hv; cases q2 <;> cases hv
                | some k =>
                  rw [him, hks] at hv
                  cases q2 with
                  | false => cases hv
                  | true =>
                    simp only at hv
                    cases hk : Nat.beq k 20 with
                    | true => rw [hk] at hv; cases hv
                    | false =>
                      rw [hk] at hv
                      simp only [cond_false] at hv
                      have hk' : ¬ ((k == 20) = true) := by
                        intro h; rw [beq_iff_eq] at h; subst h; cases hk
                      have hrun : ∀ w', (storeVar dst ad (.iface src v')).run E.P w = .ok () w' → (ReflectliteValue.set #[x', y']).run E.P w = .ok (.tuple #[]) w' := fun w' hw => by
                        rw [set_eq]
                        simp only [Sem.run_bind, b2, d2, Result.andThen_ok, if_neg hfl, Sem.run_pure, c1, pureRun_run hda w, pureRun_run him w, pureRun_run hks w, if_true, Bool.false_eq_true, if_false, if_neg hk', hw]
                      have both : ∀ (u : SV), VR ρ h.next u (.iface src v') → ph (storeS E h dst a u) = some outs → SF E ρ h w (some outs) (ReflectliteValue.set #[x', y']) := fun u hu hh => by
                        cases hs : storeS E h dst a u with
                        | none => rw [hs] at hh; cases hh
                        | some h2 =>
                          rw [hs] at hh
                          cases hh
                          exact fin u _ h2 hu hs hrun rfl
                      split at hv
                      · cases c2; exact both _ (.val _) hv
                      · exact both _ (.iface src _ v' c2) hv
    · cases hv
  · cases hv
end
end Go.Ev
