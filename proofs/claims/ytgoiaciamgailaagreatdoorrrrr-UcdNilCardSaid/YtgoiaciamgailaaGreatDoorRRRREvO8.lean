/- Operations on what is known: walks, interfaces, all of the small ones. -/
import Derived.Test.YtgoiaciamgailaaGreatDoorRRRREvO7
namespace Go.Ev
set_option linter.unusedVariables false
set_option linter.unusedSimpArgs false
set_option linter.unusedSectionVars false
set_option linter.unnecessarySimpa false

section
variable {E : Env} {ρ : Rho} {h : Heap} {w : World} (ok : EnvOk E)
include ok
theorem HR.at (hr : HR E ρ h w) {b : Nat} {x : Blk} (hb : h.t.get b = some x) : ∃ o, w.heap[(ρ b).b]? = some o ∧ BR E ρ h.next x (ρ b) o := hr.blk b x hb
theorem range_ok (hr : HR E ρ h w) (t : TypeId) {x : SV} {x' : Value} (hx : VR ρ h.next x x') : SF E ρ h w (oRange E h t x) (Instr.range t x') := by
  have fin : ∀ (b : Blk) (o : Obj), BR E (ρ.set h.next ⟨w.heap.size, 0, 0, 0⟩) (h.next + 1) b ⟨w.heap.size, 0, 0, 0⟩ o → (Instr.range t x').run E.P w = .ok (.pointer (some ⟨w.heap.size, 0, none⟩)) (w.alloc o) → SF E ρ h w (some [(.ptr h.next 0, h.new b)]) (Instr.range t x') := fun b o hb hrun l e => by
    cases e
    refine ⟨_, _, _, _, _, .head _, hrun, ?_, Go.new E hr b o 0 0 hb⟩
    have := VR.ptr (ρ := ρ.set h.next ⟨w.heap.size, 0, 0, 0⟩) (N := h.next + 1) h.next 0 (Nat.lt_succ_self _)
    rwa [Rho.set_self] at this
  unfold oRange
  split
  · rename_i s hu
    cases hx
    refine fin _ _ (.siter s 0 _ rfl) ?_
    simp [Instr.range, run_und ok hu]
  · rename_i a b hu
    cases hx
    refine fin _ _ (.miter0 0 [] 0 _ rfl) ?_
    simp [Instr.range, run_und ok hu]
  · rename_i a b m hu
    split
    · rename_i es clock hg
      cases hx with
      | map _ hm =>
        obtain ⟨es', hw, hE⟩ := hr.map hg
        have hgo := run_getObj (P := E.P) hw (fun _ _ _ e => by cases e)
        have hne : m ≠ h.next := by omega
        refine fin _ _ (.miter m clock [] clock _ rfl (by omega)) ?_
        rw [Rho.set_ne _ _ hne]
        simp [Instr.range, run_und ok hu, hgo]
    · exact SF.none
  · exact SF.none
omit ok in
theorem findBorn_ok {N : Nat} {b : Nat} : ∀ {l : List SEnt} {l' : List MapEntry} {e : SEnt}, EntsR ρ N l l' → findBorn l b = some e → ∃ v', l'.find? (·.born == b) = some { key := e.key, val := v', born := e.born } ∧ VR ρ N e.val v' := by
  intro l l' e he
  induction he with
  | nil => intro h; cases h
  | cons k u b2 u' l l' hu hE ih =>
    intro h
    simp only [findBorn, Tr.beq_of] at h
    by_cases hc : b2 = b
    · rw [decide_eq_true hc, cond_true] at h
      simp only [Option.some.injEq] at h
      subst h
      exact ⟨u', by simp [hc], hu⟩
    · rw [decide_eq_false hc, cond_false] at h
      obtain ⟨v', h1, h2⟩ := ih h
      exact ⟨v', by simp [hc, h1], h2⟩
omit ok in
theorem lastN_eq (l : List Nat) : lastN l = l.getLast? := by
  induction l with
  | nil => rfl
  | cons x xs ih =>
    cases xs with
    | nil => rfl
    | cons y ys => simp only [lastN, ih, List.getLast?_cons_cons]
theorem iterEntry_ok (hr : HR E ρ h w) {it v : SV} {it' : Value} (hx : VR ρ h.next it it') (hv : iterEntry h it = some v) : ∃ v', VR ρ h.next v v' ∧ (Instr.entry it').run E.P w = .ok v' w := by
  unfold iterEntry at hv
  split at hv
  · rename_i r
    split at hv
    · rename_i m since seen stepped hg
      split at hv
      · rename_i b es clock hb hm
        simp only [Tr.beq_of] at hv
        by_cases hc : clock = stepped
        · rw [decide_eq_true hc, cond_true] at hv
          subst hc
          split at hv
          · rename_i e he
            simp only [Option.some.injEq] at hv
            subst hv
            obtain ⟨o, h1, h2⟩ := hr.blk r _ hg
            cases h2 with
            | miter _ _ _ _ _ ho hmn =>
              obtain ⟨es', hw, hE⟩ := hr.map hm
              obtain ⟨v', q1, q2⟩ := findBorn_ok hE he
              cases hx with
              | ptr _ _ hrn =>
                have hgo1 := run_getObj (P := E.P) h1 (fun _ _ _ e => by cases e)
                have hgo2 := run_getObj (P := E.P) hw (fun _ _ _ e => by cases e)
                rw [lastN_eq] at hb
                have hback : (⟨seen⟩ : Array Nat).back? = some b := by simpa using hb
                have hfind : (⟨es'⟩ : Array MapEntry).find? (·.born == b) = some { key := e.key, val := v', born := e.born } := by simpa using q1
                refine ⟨_, .tup _ _ (.cons _ _ _ _ (.val e.key) (.cons _ _ _ _ q2 .nil)), ?_⟩
                rw [ho, Nat.zero_add]
                simp only [Instr.entry, Sem.run_bind, hgo1, Result.andThen_ok, hback, hgo2, Sem.run_pure, bne_self_eq_false, Bool.false_eq_true, if_false, hfind]
          · cases hv
        · rw [decide_eq_false hc] at hv; cases hv
      · cases hv
    · cases hv
  · cases hv
omit ok in
theorem EntsR.filter {N : Nat} (p : Nat → Bool) {l : List SEnt} {l' : List MapEntry} (he : EntsR ρ N l l') : EntsR ρ N (l.filter fun e => p e.born) (l'.filter fun e => p e.born) := by
  induction he with
  | nil => exact .nil
  | cons k u b u' l l' hu _ ih =>
    simp only [List.filter_cons]
    cases p b
    · exact ih
    · exact .cons _ _ _ _ _ _ hu ih
omit ok in
theorem EntsR.append {N : Nat} {l m : List SEnt} {l' m' : List MapEntry} (he : EntsR ρ N l l') (hm : EntsR ρ N m m') : EntsR ρ N (l ++ m) (l' ++ m') := by
  induction he with
  | nil => exact hm
  | cons k u b u' l l' hu _ ih => exact .cons _ _ _ _ _ _ hu ih
omit ok in
theorem EntsR.isEmpty {N : Nat} {l : List SEnt} {l' : List MapEntry} (he : EntsR ρ N l l') : l'.isEmpty = l.isEmpty := by cases he <;> rfl
omit ok in
theorem cand_ok {N : Nat} {old new : List SEnt} {old' new' : List MapEntry} (ho : EntsR ρ N old old') (hn : EntsR ρ N new new') (f : SEnt → SV × Heap) (over : SV × Heap) :
    0 < ((if old'.isEmpty = true then [none] else []) ++ (old' ++ new').map some).length ∧ ∀ k, k < ((if old'.isEmpty = true then [none] else []) ++ (old' ++ new').map some).length →
      (((if old'.isEmpty = true then [none] else []) ++ (old' ++ new').map some)[k]? = some none ∧ ((bif old.isEmpty then [over] else []) ++ (old ++ new).map f)[k]? = some over) ∨
      ∃ e v', ((if old'.isEmpty = true then [none] else []) ++ (old' ++ new').map some)[k]? = some (some { key := e.key, val := v', born := e.born }) ∧ ((bif old.isEmpty then [over] else []) ++ (old ++ new).map f)[k]? = some (f e) ∧ VR ρ N e.val v' := by
  have hall := ho.append hn
  have hlen := hall.keys.2
  have key : ∀ k, k < (old' ++ new').length → ∃ e v', ((old' ++ new').map some)[k]? = some (some { key := e.key, val := v', born := e.born }) ∧ ((old ++ new).map f)[k]? = some (f e) ∧ VR ρ N e.val v' := fun k hk => by
    have hg := List.getElem?_eq_getElem (show k < (old ++ new).length by omega)
    obtain ⟨v', a1, a2⟩ := hall.get hg
    exact ⟨_, v', by rw [List.getElem?_map, a1]; rfl, by rw [List.getElem?_map, hg]; rfl, a2⟩
  rw [ho.isEmpty]
  cases hq : old.isEmpty
  · simp only [Bool.false_eq_true, if_false, cond_false, List.nil_append, List.length_map]
    refine ⟨?_, fun k hk => .inr (key k hk)⟩
    cases old with
    | nil => cases hq
    | cons a b => rw [← hlen]; simp
  · simp only [if_true, cond_true]
    refine ⟨by simp, fun k hk => ?_⟩
    cases k with
    | zero => exact .inl ⟨rfl, rfl⟩
    | succ k =>
      simp only [List.singleton_append, List.length_cons, List.length_map] at hk
      obtain ⟨e, v', b1, b2, b3⟩ := key k (by omega)
      exact .inr ⟨e, v', by simpa using b1, by simpa using b2, b3⟩
/-- A step of a walk. -/
theorem next_ok (hr : HR E ρ h w) {it : SV} {it' : Value} (hx : VR ρ h.next it it') (s : Bool) (ty : TypeId) : SF E ρ h w (nextS h it s) (Instr.next it' s ty) := by
  unfold nextS
  split
  · rename_i r
    split
    · rename_i str pos hg
      obtain ⟨o, h1, h2⟩ := hr.blk r _ hg
      cases h2 with
      | siter _ _ _ ho =>
        cases hx with
        | ptr _ _ hrn =>
          have hgo1 := run_getObj (P := E.P) h1 (fun _ _ _ e => by cases e)
          have hset := fun o' => run_setObj (P := E.P) (o' := o') h1 (fun _ _ _ e => by cases e)
          rw [blt_eq]
          by_cases hp : pos < str.size
          · rw [decide_eq_true hp, cond_true]
            split
            · rename_i c width hd
              intro l e
              cases e
              refine ⟨_, _, _, _, ρ, .head _, ?_, .tup _ _ (.cons _ _ _ _ (.val _) (.cons _ _ _ _ (.val _) (.cons _ _ _ _ (.val _) .nil))), Go.put hr hg _ _ (.siter str (pos + width) _ ho)⟩
              rw [ho, Nat.zero_add]
              simp only [Instr.next, Sem.run_bind, hgo1, Result.andThen_ok, hp, if_true, hd, hset, Sem.run_pure]
              rfl
          · rw [decide_eq_false hp, cond_false]
            refine SF.same hr (.tup _ _ (.cons _ _ _ _ (.val _) .nil)) ?_
            rw [ho, Nat.zero_add]
            simp only [Instr.next, Sem.run_bind, hgo1, Result.andThen_ok, hp, if_false, Sem.run_pure]
    · rename_i a b c hg
      obtain ⟨o, h1, h2⟩ := hr.blk r _ hg
      cases h2 with
      | miter0 _ _ _ _ ho =>
        cases hx with
        | ptr _ _ hrn =>
          have hgo1 := run_getObj (P := E.P) h1 (fun _ _ _ e => by cases e)
          refine SF.same hr (.tup _ _ (.cons _ _ _ _ (.val _) .nil)) ?_
          rw [ho, Nat.zero_add]
          simp only [Instr.next, Sem.run_bind, hgo1, Result.andThen_ok, Sem.run_pure]
    · rename_i m since seen last hg
      split
      · rename_i es clock hm
        obtain ⟨o, h1, h2⟩ := hr.blk r _ hg
        cases h2 with
        | miter _ _ _ _ _ ho hmn =>
          obtain ⟨es', hw, hE⟩ := hr.map hm
          cases hx with
          | ptr _ _ hrn =>
            have hgo1 := run_getObj (P := E.P) h1 (fun _ _ _ e => by cases e)
            have hgo2 := run_getObj (P := E.P) hw (fun _ _ _ e => by cases e)
            cases hc : (!seen.isEmpty && !es.isEmpty && es.all (fun e => Nat.ble last e.born))
            · rw [cond_false]
              intro l e
              simp only [Option.some.injEq] at e
              subst e
              have hcond : ¬ ((!(⟨seen⟩ : Array Nat).isEmpty && !(⟨es'⟩ : Array MapEntry).isEmpty && (⟨es'⟩ : Array MapEntry).all fun x => decide (x.born ≥ last)) = true) := by
                rw [Bool.not_eq_true]
                rw [← hc]
                have e1 : (⟨seen⟩ : Array Nat).isEmpty = seen.isEmpty := by cases seen <;> rfl
                have e2 : (⟨es'⟩ : Array MapEntry).isEmpty = es.isEmpty := by
                  have := hE.keys.2
                  cases es <;> cases es' <;> first | rfl | (simp at this)
                have e3 : ((⟨es'⟩ : Array MapEntry).all fun x => decide (x.born ≥ last)) = es.all (fun e => Nat.ble last e.born) := by
                  have : ∀ {l : List SEnt} {l' : List MapEntry}, EntsR ρ h.next l l' → (l'.all fun x => decide (x.born ≥ last)) = l.all (fun e => Nat.ble last e.born) := by
                    intro l l' he
                    induction he with
                    | nil => rfl
                    | cons k u b u' l l' hu _ ih => simp only [List.all_cons, ih, ble_eq]
                  rw [← this hE]; simp
                rw [e1, e2, e3]
              have hleft := hE.filter (fun b => !seen.contains b)
              have hold := hleft.filter (fun b => Nat.blt b since)
              have hnew := hleft.filter (fun b => Nat.ble since b)
              have hco := cand_ok hold hnew (fun e => (SV.tup [.val (.bool true), .val e.key, e.val], h.set r (.miter (some m) since (seen ++ [e.born]) clock))) (SV.tup [.val (.bool false)], h)
              generalize hcd : ((if (List.filter (fun e => Nat.blt e.born since) (List.filter (fun e => !seen.contains e.born) es')).isEmpty = true then [none] else []) ++ (List.filter (fun e => Nat.blt e.born since) (List.filter (fun e => !seen.contains e.born) es') ++ List.filter (fun e => Nat.ble since e.born) (List.filter (fun e => !seen.contains e.born) es')).map some) = cands at hco
              obtain ⟨hpos, hpick⟩ := hco
              obtain ⟨k, w1, hk, ⟨hw1, hs1⟩, hch⟩ : ∃ k w1, k < cands.length ∧ (w1.heap = w.heap ∧ Side w w1) ∧ (choose (.mapNext cands.length)).run E.P w = .ok k w1 := by
                rw [run_choose]
                by_cases hf : cands.length ≤ 1
                · exact ⟨0, w, hpos, ⟨rfl, .refl w⟩, by simp [Question.forced, hf]⟩
                · exact ⟨_, { w with drawn := w.drawn + 1 }, Nat.mod_lt (w.tape w.drawn (.mapNext cands.length)) hpos, ⟨rfl, rfl, rfl, rfl⟩, by simp [Question.forced, hf, Question.cut]⟩
              have hr1 := hr.heap E hw1
              have hgo := Go.heap E hr hw1
              have hset := fun o' => run_setObj (P := E.P) (w := w1) (o' := o') (by rw [hw1]; exact h1) (fun _ _ _ e => by cases e)
              have hrun : ∀ x, cands[k]? = some x → (Instr.next (.pointer (some ⟨(ρ r).b, (ρ r).o + 0, none⟩)) false ty).run E.P w = (match x with
                  | some e => (do
                      setObj (ρ r).b (.mapIter (some (ρ m).b) since ((⟨seen⟩ : Array Nat).push e.born) clock)
                      pure (.tuple #[.bool true, e.key, e.val]) : Sem Value)
                  | none => pure (.tuple #[.bool false])).run E.P w1 := fun x hx => by
                rw [ho, Nat.zero_add]
                simp only [Instr.next, Sem.run_bind, hgo1, Result.andThen_ok, hgo2]
                rw [if_neg hcond]
                have fA : (Array.filter (fun x => decide (x.born < since)) (Array.filter (fun e => !(⟨seen⟩ : Array Nat).contains e.born) (⟨es'⟩ : Array MapEntry))) = ⟨List.filter (fun e => Nat.blt e.born since) (List.filter (fun e => !seen.contains e.born) es')⟩ := by
                  apply Array.ext'; simp [blt_eq]
                have fB : (Array.filter (fun x => decide (x.born ≥ since)) (Array.filter (fun e => !(⟨seen⟩ : Array Nat).contains e.born) (⟨es'⟩ : Array MapEntry))) = ⟨List.filter (fun e => Nat.ble since e.born) (List.filter (fun e => !seen.contains e.born) es')⟩ := by
                  apply Array.ext'; simp [ble_eq]
                rw [fA, fB]
                have hca : ∀ (X Y : List MapEntry), ((if (⟨X⟩ : Array MapEntry).isEmpty = true then #[none] else #[]) ++ Array.map some ((⟨X⟩ : Array MapEntry) ++ ⟨Y⟩)) = (⟨(if X.isEmpty = true then [none] else []) ++ (X ++ Y).map some⟩ : Array (Option MapEntry)) := fun X Y => by
                  apply Array.ext'
                  cases X <;> simp
                rw [hca, hcd]
                have hx' : (⟨cands⟩ : Array (Option MapEntry))[k]? = some x := by simpa using hx
                have hsz : (⟨cands⟩ : Array (Option MapEntry)).size = cands.length := rfl
                simp only [Sem.run_bind, hsz, hch, Result.andThen_ok, hx']
                cases x <;> rfl
              rcases hpick k hk with ⟨q1, q2⟩ | ⟨e, v', q1, q2, q3⟩
              · refine ⟨_, _, _, w1, ρ, List.mem_of_getElem? q2, hrun _ q1, .tup _ _ (.cons _ _ _ _ (.val _) .nil), hgo⟩
              · refine ⟨_, _, _, _, ρ, List.mem_of_getElem? q2, (hrun _ q1).trans ?_, .tup _ _ (.cons _ _ _ _ (.val _) (.cons _ _ _ _ (.val _) (.cons _ _ _ _ q3 .nil))), hgo.trans E (Go.put hr1 hg _ (.mapIter (some (ρ m).b) since ⟨seen ++ [e.born]⟩ clock) (.miter m since (seen ++ [e.born]) clock _ ho hmn))⟩
                simp only [Sem.run_bind, hset, Result.andThen_ok, Sem.run_pure, List.push_toArray]
            · exact SF.none
      · exact SF.none
    · exact SF.none
  · exact SF.none
omit ok in
theorem least_some : ∀ (l : List String), l ≠ [] → ∃ s, Instr.least l = some s
  | [], h => absurd rfl h
  | s :: l, _ => ⟨_, rfl⟩
omit ok in
theorem miss_ok (want : Array (String × TypeId)) (got : Array Method) : (missB want got = true → Instr.missingMethod want got = none) ∧ (missB want got = false → ∃ s, Instr.missingMethod want got = some s) := by
  unfold missB Instr.missingMethod
  simp only [List.partition_eq_filter_filter]
  generalize hF : (want.toList.filter fun (x : String × TypeId) => !got.any fun m => m.name == x.1 && m.sig == x.2) = F
  cases F with
  | nil => exact ⟨fun _ => rfl, fun h => by cases h⟩
  | cons x xs =>
    refine ⟨fun h => (by cases h), fun _ => ?_⟩
    simp only [List.map_cons]
    have hne : x.1 :: List.map (fun x => x.1) xs ≠ [] := by simp
    generalize x.1 :: List.map (fun x => x.1) xs = L at hne ⊢
    have key : ∀ (A B : List String) (g : String → String), (A ≠ [] ∨ B ≠ []) → ∃ s, (Instr.least A <|> Instr.least (B.map g)) = some s := fun A B g h => by
      cases A with
      | cons a A => exact ⟨_, rfl⟩
      | nil => cases B with
        | nil => simp at h
        | cons b B => exact ⟨_, rfl⟩
    have both : ∀ p : String → Bool, List.filter (not ∘ p) L ≠ [] ∨ List.filter p L ≠ [] := fun p => by
      cases L with
      | nil => exact absurd rfl hne
      | cons a L =>
        cases hpa : p a with
        | true => exact .inr (by simp [List.filter_cons, hpa])
        | false => exact .inl (by simp [List.filter_cons, hpa])
    exact key _ _ _ (both _)
theorem assert_ok (hr : HR E ρ h w) {x : SV} {x' : Value} (hx : VR ρ h.next x x') (xt t : TypeId) (c : Bool) {v : SV} (hv : assertS E x xt t c = some v) : ∃ v', VR ρ h.next v v' ∧ (Instr.typeAssert x' xt t c).run E.P w = .ok v' w := by
  have key : ∀ (d : TypeId) (y whole : SV) (y' : Value), VR ρ h.next y y' → VR ρ h.next whole (.iface d y') → assertD E d y whole t c = some v → ∃ v', VR ρ h.next v v' ∧ (Instr.typeAssert (.iface d y') xt t c).run E.P w = .ok v' w := fun d y whole y' hy hw2 hv => by
    unfold assertD at hv
    have good : assertI E d t = some true → ∃ r', (Instr.typeAssert (.iface d y') xt t c).run E.P w = .ok (if c then .tuple #[r', .bool true] else r') w ∧ r' = (bif isIfaceT E t then .iface d y' else y') := fun ha => by
      unfold assertI at ha
      unfold isIfaceT
      cases hu : und E t with
      | none => rw [hu] at ha; cases ha
      | some dd =>
        rw [hu] at ha
        by_cases hI : ∃ want, dd = .interface want
        · obtain ⟨want, rfl⟩ := hI
          cases hi : E.tt.get d with
          | none => rw [hi] at ha; cases ha
          | some i =>
            rw [hi] at ha
            simp only [Option.some.injEq] at ha
            have hm := (miss_ok want i.methods).1 ha
            refine ⟨_, ?_, rfl⟩
            simp only [Instr.typeAssert, Sem.run_bind, run_und ok hu, Result.andThen_ok, run_info ok hi, hm, cond_true]
            cases c <;> rfl
        · have ha2 : some (Nat.beq d t) = some true := by cases dd <;> first | exact absurd ⟨_, rfl⟩ hI | exact ha
          simp only [Option.some.injEq, Tr.beq_of, decide_eq_true_eq] at ha2
          cases dd <;> first
            | exact absurd ⟨_, rfl⟩ hI
            | (refine ⟨y', ?_, rfl⟩
               simp only [Instr.typeAssert, Sem.run_bind, run_und ok hu, Result.andThen_ok]
               rw [if_pos ha2]
               cases c <;> rfl)
    have bad : assertI E d t = some false → c = true → ∀ z, zeroO E t = some z → (Instr.typeAssert (.iface d y') xt t c).run E.P w = .ok (.tuple #[z, .bool false]) w := fun ha hc z hz => by
      subst hc
      obtain ⟨iz, hiz, hz2⟩ := zero_ok ok hz
      unfold assertI at ha
      cases hu : und E t with
      | none => rw [hu] at ha; cases ha
      | some dd =>
        rw [hu] at ha
        by_cases hI : ∃ want, dd = .interface want
        · obtain ⟨want, rfl⟩ := hI
          cases hi : E.tt.get d with
          | none => rw [hi] at ha; cases ha
          | some i =>
            rw [hi] at ha
            simp only [Option.some.injEq] at ha
            obtain ⟨s, hm⟩ := (miss_ok want i.methods).2 ha
            simp only [Instr.typeAssert, Sem.run_bind, run_und ok hu, Result.andThen_ok, run_info ok hi, hm, if_true, run_zero ok hiz hz2, Sem.run_pure]
        · have ha2 : some (Nat.beq d t) = some false := by cases dd <;> first | exact absurd ⟨_, rfl⟩ hI | exact ha
          simp only [Option.some.injEq, Tr.beq_of, decide_eq_false_iff_not] at ha2
          cases dd <;> first
            | exact absurd ⟨_, rfl⟩ hI
            | (simp only [Instr.typeAssert, Sem.run_bind, run_und ok hu, Result.andThen_ok]
               rw [if_neg ha2]
               simp only [Sem.run_bind, if_true, run_zero ok hiz hz2, Result.andThen_ok, Sem.run_pure])
    cases ha : assertI E d t with
    | none => rw [ha] at hv; cases hv
    | some b =>
      rw [ha] at hv
      cases b with
      | true =>
        obtain ⟨r', h1, h2⟩ := good ha
        simp only at hv
        cases hi : isIfaceT E t <;> rw [hi] at hv h2 <;> simp only [Option.some.injEq, cond_true, cond_false] at hv h2 <;> subst h2 <;> subst hv <;> refine ⟨_, ?_, h1⟩ <;> cases c
        · exact hy
        · exact .tup _ _ (.cons _ _ _ _ hy (.cons _ _ _ _ (.val _) .nil))
        · exact hw2
        · exact .tup _ _ (.cons _ _ _ _ hw2 (.cons _ _ _ _ (.val _) .nil))
      | false =>
        simp only at hv
        cases hc : c with
        | false => rw [hc] at hv; cases hv
        | true =>
          rw [hc] at hv
          simp only [cond_true] at hv
          cases hz : zeroO E t with
          | none => rw [hz] at hv; cases hv
          | some z =>
            rw [hz] at hv
            cases hv
            have := bad ha hc z hz
            rw [hc] at this
            exact ⟨_, .tup _ _ (.cons _ _ _ _ (.val _) (.cons _ _ _ _ (.val _) .nil)), this⟩
  unfold assertS at hv
  split at hv
  · rename_i d v0
    cases hx with
    | iface _ _ x' hx' => exact key d v0 _ x' hx' (.iface d v0 x' hx') hv
  · rename_i d v0
    cases hx
    exact key d (.val v0) _ v0 (.val _) (.val _) hv
  · cases hx
    cases hp : pureRun E.P (Instr.typeAssert .nilIface xt t c) with
    | none => rw [hp] at hv; cases hv
    | some r =>
      rw [hp] at hv
      cases hv
      exact ⟨r, .val r, pureRun_run hp w⟩
  · cases hv
end
end Go.Ev
