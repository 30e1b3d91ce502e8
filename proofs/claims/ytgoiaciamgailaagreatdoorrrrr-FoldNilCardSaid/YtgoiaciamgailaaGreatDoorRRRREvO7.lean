/- Operations on what is known: maps, walks over maps and strings. -/
import Derived.Test.YtgoiaciamgailaaGreatDoorRRRREvO6
namespace Go.Ev
set_option linter.unusedVariables false
set_option linter.unusedSimpArgs false
set_option linter.unusedSectionVars false
set_option linter.unnecessarySimpa false

theorem pureRun_bind {α β : Type} {P : Program} (s : Sem α) (f : α → Sem β) : pureRun P (s >>= f) = (pureRun P s).bind fun a => pureRun P (f a) := by
  show pureRun P (s.bind f) = _
  induction s with
  | pure a => rfl
  | program k ih => exact ih P
  | mark m k ih => exact ih
  | _ => rfl
inductive SameKeys : List MapEntry → List MapEntry → Prop
  | nil : SameKeys [] []
  | cons (a b : MapEntry) (l m : List MapEntry) : a.key = b.key → SameKeys l m → SameKeys (a :: l) (b :: m)
section
variable {E : Env} {ρ : Rho} {h : Heap} {w : World}
theorem EntsR.keys {N : Nat} {l : List SEnt} {l' : List MapEntry} (he : EntsR ρ N l l') : SameKeys (keyed l) l' ∧ l.length = l'.length := by
  induction he with
  | nil => exact ⟨.nil, rfl⟩
  | cons k v b v' l l' _ _ ih => exact ⟨.cons _ _ _ _ rfl ih.1, by simp [ih.2]⟩
theorem EntsR.get {N : Nat} {l : List SEnt} {l' : List MapEntry} (he : EntsR ρ N l l') {i : Nat} {x : SEnt} (hi : l[i]? = some x) : ∃ v', l'[i]? = some { key := x.key, val := v', born := x.born } ∧ VR ρ N x.val v' := by
  induction he generalizing i with
  | nil => simp at hi
  | cons k v b v' l l' hv _ ih =>
    cases i with
    | zero => simp at hi; subst hi; exact ⟨v', rfl, hv⟩
    | succ i => simp at hi; simpa using ih hi
def pickVal (l : List MapEntry) (i : Nat) : Option (Nat × Value) → Option (Nat × Value)
  | none => none
  | some (j, _) => some (j, ((l[j - i]?).map (·.val)).getD .nilIface)
theorem findNow_same (d : TypeDesc) (k : Value) {l m : List MapEntry} (hs : SameKeys l m) : ∀ (i : Nat), (Instr.findNow d k l i = none ∧ Instr.findNow d k m i = none) ∨ ∃ r, Instr.findNow d k l i = some r ∧ Instr.findNow d k m i = some (pickVal m i r) ∧ ∀ j v, r = some (j, v) → i ≤ j ∧ j < i + m.length := by
  induction hs with
  | nil => intro i; exact .inr ⟨none, rfl, rfl, fun j v e => by cases e⟩
  | cons a b l m hk hs ih =>
    intro i
    simp only [Instr.findNow, hk]
    cases hq : Instr.sameNow d k b.key with
    | none => exact .inl ⟨rfl, rfl⟩
    | some t =>
      cases t with
      | true => exact .inr ⟨_, rfl, by simp [pickVal], fun j v e => by cases e; simp⟩
      | false =>
        rcases ih (i + 1) with ⟨h1, h2⟩ | ⟨r, h1, h2, h3⟩
        · exact .inl ⟨h1, h2⟩
        · refine .inr ⟨r, h1, ?_, fun j v e => ?_⟩
          · simp only [h2]
            cases r with
            | none => rfl
            | some p =>
              obtain ⟨j, v⟩ := p
              have := h3 j v rfl
              simp only [pickVal]
              rw [show j - i = (j - (i + 1)) + 1 by omega]
              simp
          · have := h3 j v e
            simp only [List.length_cons]; omega
theorem findAsking_same {P : Program} (kt : TypeId) (k : Value) {l m : List MapEntry} (hs : SameKeys l m) : ∀ (i : Nat) (r : Option (Nat × Value)), pureRun P (Instr.findAsking kt k l i) = some r → (∀ w, (Instr.findAsking kt k m i).run P w = .ok (pickVal m i r) w) ∧ ∀ j v, r = some (j, v) → i ≤ j ∧ j < i + m.length := by
  induction hs with
  | nil => intro i r h; simp [Instr.findAsking, pureRun, pure] at h; subst h; exact ⟨fun w => rfl, fun j v e => by cases e⟩
  | cons a b l m hk hs ih =>
    intro i r h
    simp only [Instr.findAsking, pureRun_bind, hk] at h
    cases hq : pureRun P (Op.equal kt k b.key) with
    | none => rw [hq] at h; simp at h
    | some t =>
      rw [hq] at h
      simp only [Option.bind_some] at h
      have hrun := fun w => pureRun_run hq w
      cases t with
      | true =>
        simp only [if_true, pureRun, pure, Option.some.injEq] at h
        subst h
        refine ⟨fun w => ?_, fun j v e => by cases e; simp⟩
        simp [Instr.findAsking, hrun, pickVal]
      | false =>
        simp only [Bool.false_eq_true, if_false] at h
        obtain ⟨h1, h2⟩ := ih (i + 1) r h
        refine ⟨fun w => ?_, fun j v e => ?_⟩
        · simp only [Instr.findAsking, Sem.run_bind, hrun, Result.andThen_ok, Bool.false_eq_true, if_false, h1]
          congr 1
          cases r with
          | none => rfl
          | some p =>
            obtain ⟨j, v⟩ := p
            have := h2 j v rfl
            simp only [pickVal]
            rw [show j - i = (j - (i + 1)) + 1 by omega]
            simp
        · have := h2 j v e
          simp only [List.length_cons]; omega
theorem findKey_same {P : Program} (kt : TypeId) (k : Value) {l m : List MapEntry} (hs : SameKeys l m) {r : Option (Nat × Value)} (h : pureRun P (Instr.findKey kt k l) = some r) : (∀ w, (Instr.findKey kt k m).run P w = .ok (pickVal m 0 r) w) ∧ ∀ j v, r = some (j, v) → j < m.length := by
  simp only [Instr.findKey, pureRun_bind] at h
  cases hq : pureRun P (underlying kt) with
  | none => rw [hq] at h; simp at h
  | some d =>
    rw [hq] at h
    simp only [Option.bind_some] at h
    have hrun := fun w => pureRun_run hq w
    rcases findNow_same d k hs 0 with ⟨h1, h2⟩ | ⟨r2, h1, h2, h3⟩
    · rw [h1] at h
      simp only at h
      obtain ⟨a1, a2⟩ := findAsking_same kt k hs 0 r h
      exact ⟨fun w => by simp only [Instr.findKey, Sem.run_bind, hrun, Result.andThen_ok, h2, a1], fun j v e => by have := a2 j v e; omega⟩
    · rw [h1] at h
      simp only [pureRun, pure, Option.some.injEq] at h
      subst h
      exact ⟨fun w => by simp only [Instr.findKey, Sem.run_bind, hrun, Result.andThen_ok, h2, Sem.run_pure], fun j v e => by have := h3 j v e; omega⟩
/-- A map that is known. -/
theorem HR.map (hr : HR E ρ h w) {b : Nat} {es : List SEnt} {clock : Nat} (hb : h.t.get b = some (.map es clock)) : ∃ es', w.heap[(ρ b).b]? = some (.map ⟨es'⟩ clock) ∧ EntsR ρ h.next es es' := by
  obtain ⟨o, h1, h2⟩ := hr.blk b _ hb
  cases h2 with
  | map _ es' _ _ hE => exact ⟨es', h1, hE⟩
theorem run_getObj {P : Program} {b : Nat} {o : Obj} (hb : w.heap[b]? = some o) (hn : ∀ c t f, o ≠ .cells c t f) : (getObj b).run P w = .ok o w := by
  simp only [getObj, Sem.run, hb]
theorem run_setObj {P : Program} {b : Nat} {o o' : Obj} (hb : w.heap[b]? = some o) (hn : ∀ c t f, o ≠ .cells c t f) : (setObj b o').run P w = .ok () { w with heap := w.heap.setIfInBounds b o' } := by
  simp only [setObj, Sem.run, hb]
/-- Another object in a block that is known. -/
theorem Go.put (hr : HR E ρ h w) {b : Nat} {x0 : Blk} (hb : h.t.get b = some x0) (x : Blk) (o : Obj) (hx : BR E ρ h.next x (ρ b) o) : Go E ρ h w ρ (h.set b x) { w with heap := w.heap.setIfInBounds (ρ b).b o } := by
  have hlt := hr.lo E hb
  refine Go.set E hr hb x o hx (by simp) ?_ ?_
  · simp [hlt]
  · intro k hk
    simp [Array.getElem?_setIfInBounds_ne (Ne.symm hk)]
variable (ok : EnvOk E)
include ok
theorem lookup_ok (hr : HR E ρ h w) (t : TypeId) {m k : SV} {m' k' : Value} (hm : VR ρ h.next m m') (hk : VR ρ h.next k k') (c : Bool) {v : SV} (hv : lookupS E h t m k c = some v) : ∃ v', VR ρ h.next v v' ∧ (Instr.lookup t m' k' c).run E.P w = .ok v' w := by
  unfold lookupS at hv
  split at hv
  · rename_i kt e kv hu hkv
    have := toVal_ok hkv hk
    subst this
    have key : ∀ (es : List SEnt) (es' : List MapEntry), EntsR ρ h.next es es' → (∀ v, (match findS E kt k' es with
        | none => none
        | some r => match (match r with | some i => (nth es i).map fun x => (x.val, true) | none => (zeroO E e).map fun z => (SV.val z, false)) with
          | none => none
          | some (v, b) => some (bif c then SV.tup [v, .val (.bool b)] else v)) = some v → ∃ v', VR ρ h.next v v' ∧
        ((do
          Instr.checkKey (es'.toArray).isEmpty 10000 kt k'
          let (v, ok) ← match ← Instr.findKey kt k' es' with
            | some (_, v) => pure (v, true)
            | none => pure (← zeroValue e, false)
          pure (if c then .tuple #[v, .bool ok] else v) : Sem Value).run E.P w = .ok v' w)) := by
      intro es es' hE v hv
      obtain ⟨hsk, hlen⟩ := hE.keys
      unfold findS at hv
      split at hv
      · cases hv
      · rename_i r hfs
        split at hfs
        · cases hfs
        · rename_i _ hck
          have hck' : ∀ w, (Instr.checkKey (es'.toArray).isEmpty 10000 kt k').run E.P w = .ok () w := fun w => by
            have : es.isEmpty = (es'.toArray).isEmpty := by cases es <;> cases es' <;> first | rfl | (simp at hlen)
            rw [← this]
            exact pureRun_run hck w
          split at hfs
          · rename_i i q hfk
            simp only [Option.some.injEq] at hfs
            subst hfs
            obtain ⟨a1, a2⟩ := findKey_same kt k' hsk hfk
            simp only [nth_eq] at hv
            cases hx : es[i]? with
            | none => rw [hx] at hv; simp at hv
            | some x =>
              rw [hx] at hv
              simp only [Option.map_some, Option.some.injEq] at hv
              obtain ⟨v', b1, b2⟩ := hE.get hx
              have hpv : pickVal es' 0 (some (i, q)) = some (i, v') := by simp [pickVal, b1]
              rw [hpv] at a1
              subst hv
              cases c with
              | true => exact ⟨_, .tup _ _ (.cons _ _ _ _ b2 (.cons _ _ _ _ (.val _) .nil)), by simp only [Sem.run_bind, hck', Result.andThen_ok, a1, Sem.run_pure, if_true]⟩
              | false => exact ⟨v', b2, by simp only [Sem.run_bind, hck', Result.andThen_ok, a1, Sem.run_pure, Bool.false_eq_true, if_false]⟩
          · rename_i hfk
            simp only [Option.some.injEq] at hfs
            subst hfs
            obtain ⟨a1, a2⟩ := findKey_same kt k' hsk hfk
            cases hz : zeroO E e with
            | none => simp only [hz] at hv; simp at hv
            | some z =>
              simp only [hz, Option.map_some, Option.some.injEq] at hv
              obtain ⟨i, hi, hz'⟩ := zero_ok ok hz
              have hzr := run_zero ok hi hz' w
              subst hv
              cases c with
              | true => exact ⟨_, .tup _ _ (.cons _ _ _ _ (.val z) (.cons _ _ _ _ (.val _) .nil)), by simp only [Sem.run_bind, hck', Result.andThen_ok, a1, pickVal, hzr, Sem.run_pure, if_true]⟩
              | false => exact ⟨z, .val z, by simp only [Sem.run_bind, hck', Result.andThen_ok, a1, pickVal, hzr, Sem.run_pure, Bool.false_eq_true, if_false]⟩
          · cases hfs
    simp only at hv
    split at hv
    · cases hm
      obtain ⟨v', b1, b2⟩ := key [] [] .nil v hv
      refine ⟨v', b1, ?_⟩
      simp only [Instr.lookup, Sem.run_bind, run_und ok hu, Result.andThen_ok, Sem.run_pure] at b2 ⊢
      exact b2
    · split at hv
      · rename_i b es clock hg
        cases hm with
        | map _ hb =>
          obtain ⟨es', hw, hE⟩ := hr.map hg
          obtain ⟨v', b1, b2⟩ := key es es' hE v hv
          refine ⟨v', b1, ?_⟩
          have hgo := run_getObj (P := E.P) hw (fun _ _ _ e => by cases e)
          simp only [Instr.lookup, Sem.run_bind, run_und ok hu, Result.andThen_ok, hgo, Sem.run_pure] at b2 ⊢
          exact b2
      · cases hv
    · cases hv
  · cases hv
omit ok in
theorem EntsR.of {N : Nat} : ∀ {l : List SEnt} {l' : List MapEntry}, l.length = l'.length → (∀ (i : Nat) (x : SEnt), l[i]? = some x → ∃ v', l'[i]? = some { key := x.key, val := v', born := x.born } ∧ VR ρ N x.val v') → EntsR ρ N l l' := by
  intro l
  induction l with
  | nil => intro l' h _; cases l' with | nil => exact .nil | cons _ _ => simp at h
  | cons x xs ih =>
    intro l' h hx
    cases l' with
    | nil => simp at h
    | cons y ys =>
      obtain ⟨v', h1, h2⟩ := hx 0 x rfl
      simp only [List.getElem?_cons_zero, Option.some.injEq] at h1
      subst h1
      exact .cons _ _ _ _ _ _ h2 (ih (by simpa using h) fun i z hz => by simpa using hx (i + 1) z (by simpa using hz))
omit ok in
theorem setEnt_get (k : Value) (v : SV) : ∀ (l : List SEnt) (i j : Nat), (setEnt l i k v)[j]? = if j = i then (l[i]?).map (fun e => { e with key := k, val := v }) else l[j]? := by
  intro l
  induction l with
  | nil => intro i j; simp [setEnt]
  | cons x xs ih =>
    intro i j
    simp only [setEnt, Tr.beq_of]
    cases i with
    | zero => cases j <;> simp
    | succ i =>
      cases j with
      | zero => simp
      | succ j => simp [ih]
omit ok in
theorem EntsR.put {N : Nat} {l : List SEnt} {l' : List MapEntry} (he : EntsR ρ N l l') (i : Nat) (k : Value) {v : SV} {v' : Value} (hv : VR ρ N v v') : EntsR ρ N (setEnt l i k v) ((⟨l'⟩ : Array MapEntry).modify i fun e => { e with key := k, val := v' }).toList := by
  have hlen := he.keys.2
  refine EntsR.of ?_ fun j x hx => ?_
  · have : ∀ (l : List SEnt) (i : Nat), (setEnt l i k v).length = l.length := by
      intro l
      induction l with
      | nil => intro i; rfl
      | cons x xs ih => intro i; simp only [setEnt]; cases Nat.beq i 0 <;> simp [ih]
    rw [this, hlen]; simp
  · rw [setEnt_get] at hx
    rw [Array.getElem?_toList, Array.getElem?_modify]
    by_cases hj : j = i
    · subst hj
      rw [if_pos rfl] at hx
      cases hq : l[j]? with
      | none => rw [hq] at hx; cases hx
      | some e =>
        rw [hq] at hx
        simp only [Option.map_some, Option.some.injEq] at hx
        subst hx
        obtain ⟨u, h1, h2⟩ := he.get hq
        exact ⟨v', by simp [h1], hv⟩
    · rw [if_neg hj] at hx
      rw [if_neg (Ne.symm hj)]
      obtain ⟨u, h1, h2⟩ := he.get hx
      exact ⟨u, by simpa using h1, h2⟩
omit ok in
theorem EntsR.push {N : Nat} {l : List SEnt} {l' : List MapEntry} (he : EntsR ρ N l l') (k : Value) {v : SV} {v' : Value} (hv : VR ρ N v v') (b : Nat) : EntsR ρ N (l ++ [⟨k, v, b⟩]) ((⟨l'⟩ : Array MapEntry).push { key := k, val := v', born := b }).toList := by
  simp only [List.push_toArray, Array.toList_push]
  induction he with
  | nil => exact .cons _ _ _ _ _ _ hv .nil
  | cons k2 v2 b2 v2' l l' h2 _ ih => exact .cons _ _ _ _ _ _ h2 ih
theorem update_ok (hr : HR E ρ h w) (t : TypeId) {m k v : SV} {m' k' v' : Value} (hm : VR ρ h.next m m') (hk : VR ρ h.next k k') (hv : VR ρ h.next v v') {h' : Heap} (hA : updateS E h t m k v = some h') : ∃ w', (Instr.mapUpdate t m' k' v').run E.P w = .ok () w' ∧ Go E ρ h w ρ h' w' := by
  unfold updateS at hA
  split at hA
  · rename_i kt e kv b hu hkv
    have := toVal_ok hkv hk
    subst this
    split at hA
    · rename_i es clock hg
      split at hA
      · cases hA
      · rename_i _ hck
        cases hm with
        | map _ hb =>
          obtain ⟨es', hw, hE⟩ := hr.map hg
          obtain ⟨hsk, hlen⟩ := hE.keys
          have hgo := run_getObj (P := E.P) hw (fun _ _ _ e => by cases e)
          have hset := fun o' => run_setObj (P := E.P) (o' := o') hw (fun _ _ _ e => by cases e)
          split at hA
          · rename_i i q hfk
            obtain ⟨a1, a2⟩ := findKey_same kt k' hsk hfk
            rw [nth_eq] at hA
            split at hA
            · rename_i x hx
              obtain ⟨u, b1, b2⟩ := hE.get hx
              split at hA
              · rename_i k2 hk2
                simp only [Option.some.injEq] at hA
                subst hA
                refine ⟨_, ?_, Go.put hr hg _ _ (.map _ _ _ _ (hE.put i k2 hv))⟩
                have hb1 : (⟨es'⟩ : Array MapEntry)[i]? = some { key := x.key, val := u, born := x.born } := by simpa using b1
                simp only [Instr.mapUpdate, Sem.run_bind, run_und ok hu, Result.andThen_ok, hgo, Sem.run_pure, pureRun_run hck w, a1, pickVal, hb1, Option.map_some, Option.getD_some, pureRun_run hk2 w, hset]
              · cases hA
            · cases hA
          · rename_i hfk
            obtain ⟨a1, a2⟩ := findKey_same kt k' hsk hfk
            simp only [Option.some.injEq] at hA
            subst hA
            refine ⟨_, ?_, Go.put hr hg _ _ (.map _ _ _ _ (hE.push k' hv clock))⟩
            simp only [Instr.mapUpdate, Sem.run_bind, run_und ok hu, Result.andThen_ok, hgo, Sem.run_pure, pureRun_run hck w, a1, pickVal, hset]
          · cases hA
    · cases hA
  · cases hA
theorem entry_ok (hr : HR E ρ h w) (t : TypeId) {m k : SV} {m' k' : Value} (hm : VR ρ h.next m m') (hk : VR ρ h.next k k') : SF E ρ h w (pb (entryS E h t m k)) (Instr.mapEntry t m' k') := by
  intro l0 e0
  cases hA : entryS E h t m k with
  | none => rw [hA] at e0; cases e0
  | some r =>
    rw [hA] at e0
    simp only [pb, Option.some.injEq] at e0
    subst e0
    obtain ⟨v, h'⟩ := r
    suffices hgoal : ∃ v' w' ρ', (Instr.mapEntry t m' k').run E.P w = .ok v' w' ∧ VR ρ' h'.next v v' ∧ Go E ρ h w ρ' h' w' by
      obtain ⟨v', w', ρ', a, b, c⟩ := hgoal
      exact ⟨v, h', v', w', ρ', .head _, a, b, c⟩
    unfold entryS at hA
    split at hA
    · rename_i kt e kv b hu hkv
      have := toVal_ok hkv hk
      subst this
      split at hA
      · rename_i es clock hg
        split at hA
        · cases hA
        · rename_i _ hck
          cases hm with
          | map _ hb =>
            obtain ⟨es', hw, hE⟩ := hr.map hg
            obtain ⟨hsk, hlen⟩ := hE.keys
            have hgo := run_getObj (P := E.P) hw (fun _ _ _ e => by cases e)
            have hset := fun o' => run_setObj (P := E.P) (o' := o') hw (fun _ _ _ e => by cases e)
            split at hA
            · rename_i i q hfk
              obtain ⟨a1, a2⟩ := findKey_same kt k' hsk hfk
              rw [nth_eq] at hA
              split at hA
              · rename_i x hx
                obtain ⟨u, b1, b2⟩ := hE.get hx
                split at hA
                · rename_i k2 hk2
                  simp only [Option.some.injEq, Prod.mk.injEq] at hA
                  obtain ⟨rfl, rfl⟩ := hA
                  have hb1 : (⟨es'⟩ : Array MapEntry)[i]? = some { key := x.key, val := u, born := x.born } := by simpa using b1
                  have hmod : ((⟨es'⟩ : Array MapEntry).modify i fun e => { e with key := k2 }) = (⟨es'⟩ : Array MapEntry).modify i fun e => { e with key := k2, val := u } := by
                    apply Array.ext_getElem?
                    intro j
                    simp only [Array.getElem?_modify]
                    by_cases hj : i = j
                    · subst hj; simp only [if_true, hb1]; rfl
                    · simp only [hj, if_false]
                  refine ⟨_, _, ρ, ?_, .tup _ _ (.cons _ _ _ _ b2 (.cons _ _ _ _ (.val _) .nil)), Go.put hr hg _ _ (.map _ _ _ _ (hE.put i k2 b2))⟩
                  simp only [Instr.mapEntry, Sem.run_bind, run_und ok hu, Result.andThen_ok, hgo, Sem.run_pure, pureRun_run hck w, a1, pickVal, hb1, Nat.sub_zero, b1, Option.map_some, Option.getD_some, pureRun_run hk2 w, hset, hmod]
                  rfl
                · cases hA
              · cases hA
            · rename_i hfk
              obtain ⟨a1, a2⟩ := findKey_same kt k' hsk hfk
              split at hA
              · rename_i z hz
                obtain ⟨i, hi, hz'⟩ := zero_ok ok hz
                simp only [Option.some.injEq, Prod.mk.injEq] at hA
                obtain ⟨rfl, rfl⟩ := hA
                refine ⟨_, _, ρ, ?_, .tup _ _ (.cons _ _ _ _ (.val z) (.cons _ _ _ _ (.val _) .nil)), Go.put hr hg _ _ (.map _ _ _ _ (hE.push k' (.val z) clock))⟩
                simp only [Instr.mapEntry, Sem.run_bind, run_und ok hu, Result.andThen_ok, hgo, Sem.run_pure, pureRun_run hck w, a1, pickVal, run_zero ok hi hz', hset]
                rfl
              · cases hA
            · cases hA
      · cases hA
    · cases hA
omit ok in
theorem storeBorn_ok {N : Nat} (n : Int) {v : SV} {v' : Value} (hv : VR ρ N v v') : ∀ {l r : List SEnt} {l' : List MapEntry}, EntsR ρ N l l' → storeBorn l n v = some r → ∃ i, l'.findIdx? (fun e => (e.born : Int) == n) = some i ∧ EntsR ρ N r (l'.modify i fun e => { e with val := v' }) := by
  intro l r l' he
  induction he generalizing r with
  | nil => intro h; simp [storeBorn] at h
  | cons k u b u' l l' hu hE ih =>
    intro h
    simp only [storeBorn] at h
    by_cases hb : (b : Int) = n
    · rw [decide_eq_true hb, cond_true] at h
      simp only [Option.some.injEq] at h
      subst h
      exact ⟨0, by simp [List.findIdx?_cons, hb], .cons _ _ _ _ _ _ hv hE⟩
    · rw [decide_eq_false hb, cond_false] at h
      cases hq : storeBorn l n v with
      | none => rw [hq] at h; cases h
      | some r2 =>
        rw [hq] at h
        simp only [Option.map_some, Option.some.injEq] at h
        subst h
        obtain ⟨i, h1, h2⟩ := ih hq
        exact ⟨i + 1, by simp [List.findIdx?_cons, hb, h1], .cons _ _ _ _ _ _ hu h2⟩
theorem entryStore_ok (hr : HR E ρ h w) (t : TypeId) {m s v : SV} {m' s' v' : Value} (hm : VR ρ h.next m m') (hs : VR ρ h.next s s') (hv : VR ρ h.next v v') {h' : Heap} (hA : entryStoreS h m s v = some h') : ∃ w', (Instr.entryStore t m' s' v').run E.P w = .ok () w' ∧ Go E ρ h w ρ h' w' := by
  unfold entryStoreS at hA
  split at hA
  · rename_i b k n
    split at hA
    · rename_i es clock hg
      cases hm with
      | map _ hb =>
        cases hs
        obtain ⟨es', hw, hE⟩ := hr.map hg
        have hgo := run_getObj (P := E.P) hw (fun _ _ _ e => by cases e)
        have hset := fun o' => run_setObj (P := E.P) (o' := o') hw (fun _ _ _ e => by cases e)
        cases hq : storeBorn es n v with
        | none => rw [hq] at hA; cases hA
        | some r =>
          rw [hq] at hA
          simp only [Option.map_some, Option.some.injEq] at hA
          subst hA
          obtain ⟨i, h1, h2⟩ := storeBorn_ok n hv hE hq
          refine ⟨_, ?_, Go.put hr hg _ _ (.map _ _ _ _ h2)⟩
          have hfi : (⟨es'⟩ : Array MapEntry).findIdx? (fun e => (e.born : Int) == n) = some i := by simpa using h1
          simp only [Instr.entryStore, Sem.run_bind, Result.andThen_ok, hgo, Sem.run_pure, asInt, asIntOf, hfi, hset]
          simp
    · cases hA
  · cases hA
end
end Go.Ev
