/- All operations on what is known that call nothing; the builtin functions. -/
import Derived.Test.YtgoiaciamgailaaGreatDoorRRRREvO8
namespace Go.Ev
set_option linter.unusedVariables false
set_option linter.unusedSimpArgs false
set_option linter.unusedSectionVars false
set_option linter.unnecessarySimpa false

/-- What is answered is one of these. -/
def NF (E : Env) (ρ : Rho) (h : Heap) (w : World) (outs : Outs) (s : Sem Next) : Prop :=
  ∀ l, outs = some l → ∃ v h' v' w' ρ' nx, (v, h') ∈ l ∧ s.run E.P w = .ok nx w' ∧ nextVal nx = some v' ∧ VR ρ' h'.next v v' ∧ Go E ρ h w ρ' h' w'

section
variable {E : Env} {ρ : Rho} {h : Heap} {w : World}
theorem SF.nf {outs : Outs} {s : Sem Value} (hs : SF E ρ h w outs s) : NF E ρ h w outs (do pure (.value (← s))) := fun l e => by
  obtain ⟨v, h', v', w', ρ', a, b, c, d⟩ := hs l e
  exact ⟨v, h', v', w', ρ', .value v', a, by simp only [Sem.run_bind, b, Result.andThen_ok, Sem.run_pure], rfl, c, d⟩
theorem NF.none {s : Sem Next} : NF E ρ h w none s := fun l e => by cases e
theorem NF.unit {o : Option Heap} {s : Sem Unit} (hs : ∀ h', o = some h' → ∃ w', s.run E.P w = .ok () w' ∧ Go E ρ h w ρ h' w') : NF E ρ h w (ph o) (do s; pure .skip) := fun l e => by
  cases o with
  | none => cases e
  | some h' =>
    cases e
    obtain ⟨w', a, b⟩ := hs h' rfl
    exact ⟨_, h', undef, w', ρ, .skip, .head _, by simp only [Sem.run_bind, a, Result.andThen_ok, Sem.run_pure], rfl, .val _, b⟩
theorem NF.value (hr : HR E ρ h w) {v : SV} {v' : Value} {s : Sem Next} (hv : VR ρ h.next v v') (hs : s.run E.P w = .ok (.value v') w) : NF E ρ h w (some [(v, h)]) s := fun l e => by
  cases e; exact ⟨v, h, v', w, ρ, _, .head _, hs, rfl, hv, .refl E hr⟩
theorem VRs.map_opd {N : Nat} {st : St} {a : Act} (ha : AR ρ N st a.tmps a.defers) (l : List Operand) : VRs ρ N (l.map (Ev.opd st)) (l.map a.eval) := by
  induction l with
  | nil => exact .nil
  | cons x xs ih => exact .cons _ _ _ _ (ha.opd x) ih
variable (ok : EnvOk E)
include ok
theorem iface_ok (hr : HR E ρ h w) (t : TypeId) {x : SV} {x' : Value} (hx : VR ρ h.next x x') : SF E ρ h w (oMakeIface E h t x) (Instr.makeInterface t x') := by
  unfold oMakeIface
  split
  · exact SF.none
  · rename_i d hno hu
    have hrun : (Instr.makeInterface t x').run E.P w = .ok (.iface t x') w := by
      simp only [Instr.makeInterface, Sem.run_bind, run_und ok hu, Result.andThen_ok]
      cases d <;> first | rfl | exact absurd rfl (hno _)
    split
    · cases hx; exact SF.same hr (.val _) hrun
    · exact SF.same hr (.iface t _ _ hx) hrun
  · exact SF.none
theorem makeMap_ok (hr : HR E ρ h w) (t : TypeId) {r : Option SV} {r' : Option Value} (hx : OptR ρ h.next r r') : SF E ρ h w (oMakeMap E h t r) (Instr.makeMap t r') := by
  have fin : (Instr.makeMap t r').run E.P w = .ok (.map (some w.heap.size)) (w.alloc (.map #[] 0)) → SF E ρ h w (some [(.map h.next, h.new (.map [] 0))]) (Instr.makeMap t r') := fun hrun l e => by
    cases e
    refine ⟨_, _, _, _, ρ.set h.next ⟨w.heap.size, 0, 0, 0⟩, .head _, hrun, ?_, Go.new E hr _ _ 0 0 (.map [] [] 0 _ .nil)⟩
    have := VR.map (ρ := ρ.set h.next ⟨w.heap.size, 0, 0, 0⟩) (N := h.next + 1) h.next (Nat.lt_succ_self _)
    rwa [Rho.set_self] at this
  unfold oMakeMap
  split
  · cases hx
    refine fin ?_
    simp [Instr.makeMap]
  · split
    · rename_i a b n hu hn
      cases hx with
      | some _ x' hx =>
        obtain ⟨k, rfl⟩ := nat_ok hx hn
        refine fin ?_
        simp [Instr.makeMap, run_und ok hu, asInt, asIntOf]
    · exact SF.none
theorem extract_ok (hr : HR E ρ h w) {x : SV} {x' : Value} (hx : VR ρ h.next x x') (i : Nat) : SF E ρ h w (oExtract h x i) (Instr.extract x' i) := by
  have key : ∀ (l : List SV) (l' : List Value), VRs ρ h.next l l' → SF E ρ h w (pv h (nth l i)) (Instr.extract (.tuple ⟨l'⟩) i) := fun l l' hl => SF.pv hr fun v hv => by
    rw [nth_eq] at hv
    obtain ⟨v', a, b⟩ := hl.get hv
    have a' : (⟨l'⟩ : Array Value)[i]? = some v' := by simpa using a
    exact ⟨v', b, by simp only [Instr.extract, a', Sem.run_pure]⟩
  unfold oExtract
  split
  · cases hx with | tup _ l' hl => exact key _ _ hl
  · cases hx; exact key _ _ (VRs.of_vals _)
  · exact SF.none
theorem small_ok (hr : HR E ρ h w) {st : St} {a : Act} (ha : AR ρ h.next st a.tmps a.defers) (o : Oper) : NF E ρ h w (small E h st o.op) (execOp a.eval o) := by
  cases hop : o.op <;> simp only [small, execOp, hop] <;> try exact NF.none
  case move x => exact NF.value hr (ha.opd x) rfl
  case assign x => exact NF.value hr (ha.opd x) rfl
  case pick c x y =>
    have hc := ha.opd c
    unfold oPick
    split
    · rename_i t ht
      rw [ht] at hc
      generalize hce : a.eval c = c' at hc
      cases hc
      cases t
      · exact NF.value hr (ha.opd y) (by simp [asBool])
      · exact NF.value hr (ha.opd x) (by simp [asBool])
    · exact NF.none
  case alloc e => exact (alloc_ok ok hr e).nf
  case box e x => exact (box_ok ok hr e (ha.opd x)).nf
  case build t ps => exact (build_ok ok hr ha t ps).nf
  case buildSlice t n ps => exact (buildSlice_ok ok hr ha t n ps).nf
  case load t x => exact (SF.pv hr fun v hv => let ⟨v', p, q⟩ := load_ok ok hr (ha.opd x) hv; ⟨v', q, p⟩).nf
  case store t x y => exact NF.unit fun h' hh => store_ok ok hr (ha.opd x) (ha.opd y) hh
  case nilCheck x =>
    have hx := ha.opd x
    unfold oNilCheck
    split
    · rename_i b off e; rw [e] at hx; generalize a.eval x = x' at hx; cases hx with | ptr _ _ hb => exact NF.value hr (.ptr b off hb) rfl
    · rename_i f l m e; rw [e] at hx; generalize a.eval x = x' at hx; cases hx with | func _ _ _ _ l' m' hf hl hm => cases hf; exact NF.value hr (.func _ _ _ _ _ _ (.func f) hl hm) rfl
    · rename_i f l m e; rw [e] at hx; generalize a.eval x = x' at hx; cases hx with | func _ _ _ _ l' m' hf hl hm => cases hf with | yield _ hlt => exact NF.value hr (.func _ _ _ _ _ _ (.yield f hlt) hl hm) rfl
    · rename_i t y e; rw [e] at hx; generalize a.eval x = x' at hx; cases hx with | iface _ _ y' hy => exact NF.value hr (.iface t y y' hy) rfl
    · rename_i v e
      rw [e] at hx
      generalize a.eval x = x' at hx
      cases hx
      split
      · exact NF.value hr (.val _) rfl
      · exact NF.value hr (.val _) rfl
      · exact NF.none
    · exact NF.none
  case binOp op t x y yt => exact (bin_ok ok hr op t x y (ha.opd x) (ha.opd y)).nf
  case unOp op t x =>
    have hx := ha.opd x
    refine SF.nf ?_
    unfold oUn
    split
    · rename_i v e
      rw [e] at hx
      generalize a.eval x = x' at hx
      cases hx
      split
      · rename_i r hpr
        exact SF.same hr (.val r) (pureRun_run hpr w)
      · exact SF.none
    · exact SF.none
  case convert s d x => exact (conv_ok ok hr s d (ha.opd x)).nf
  case sliceToArrayPointer t x =>
    have hx := ha.opd x
    refine SF.nf ?_
    unfold oArrayAt
    split
    · rename_i n e b off len cap hu hxe
      rw [hxe] at hx
      generalize a.eval x = x' at hx
      cases hc : (Nat.ble n len && Nat.blt 0 n)
      · exact SF.none
      · rw [cond_true]
        simp only [Bool.and_eq_true, ble_eq, decide_eq_true_eq] at hc
        have hb : b < h.next := by cases hx <;> assumption
        have key : ∀ c, SF E ρ h w (some [(.ptr b off, h)]) (Instr.arrayAt t (.slice (some ⟨(ρ b).b, (ρ b).o + off, none⟩) len c)) := fun c => SF.same hr (.ptr b off hb) (by
          simp only [Instr.arrayAt, Sem.run_bind, run_und ok hu, Result.andThen_ok]
          rw [if_neg (by omega)]
          rfl)
        cases hx with
        | slice => exact key _
        | sliceU => exact key _
    · exact SF.none
  case makeInterface t x => exact (iface_ok ok hr t (ha.opd x)).nf
  case makeFunc fn first cap =>
    have hrun : ∀ g, (do pure (.value (← Instr.makeFunc g (first.map a.eval) (cap.map a.eval))) : Sem Next).run E.P w = .ok (.value (.func g ⟨first.toList.map a.eval⟩ ⟨cap.toList.map a.eval⟩)) w := fun g => by
      simp only [Instr.makeFunc, Sem.run_bind, Sem.run_pure, Result.andThen_ok]
      congr 3 <;> (apply Array.ext'; simp)
    unfold oMakeFunc
    split
    · exact NF.value hr (.func _ _ _ _ _ _ (.func _) (VRs.map_opd ha _) (VRs.map_opd ha _)) (hrun _)
    · exact NF.value hr (.func _ _ _ _ _ _ (.method _) (VRs.map_opd ha _) (VRs.map_opd ha _)) (hrun _)
    · exact NF.none
  case makeMap t r => exact (makeMap_ok ok hr t (ha.opt r)).nf
  case makeSlice t l c => exact (makeSlice_ok ok hr t (ha.opd l) (ha.opd c)).nf
  case slice t x lo hi mx => exact (slice_ok ok hr t (ha.opd x) (ha.opt lo) (ha.opt hi) (ha.opt mx)).nf
  case fieldAddr s x f => exact (fieldAddr_ok ok hr s (ha.opd x) f).nf
  case field t x f => exact (field_ok ok hr t (ha.opd x) f).nf
  case indexAddr t x i => exact (indexAddr_ok ok hr t (ha.opd x) (ha.opd i)).nf
  case index t x i => exact (index_ok ok hr t (ha.opd x) (ha.opd i)).nf
  case lookup t m k c => exact (SF.pv hr fun v hv => lookup_ok ok hr t (ha.opd m) (ha.opd k) c hv).nf
  case insert t m k v => exact NF.unit fun h' hh => update_ok ok hr t (ha.opd m) (ha.opd k) (ha.opd v) hh
  case mapUpdate t m k v => exact NF.unit fun h' hh => update_ok ok hr t (ha.opd m) (ha.opd k) (ha.opd v) hh
  case mapEntry t m k => exact (entry_ok ok hr t (ha.opd m) (ha.opd k)).nf
  case entryStore t m s v => exact NF.unit fun h' hh => entryStore_ok ok hr t (ha.opd m) (ha.opd s) (ha.opd v) hh
  case range t x => exact (range_ok ok hr t (ha.opd x)).nf
  case next it s => exact (next_ok ok hr (ha.opd it) s o.type).nf
  case entry it => exact (SF.pv hr fun v hv => iterEntry_ok ok hr (ha.opd it) hv).nf
  case typeAssert x xt t c => exact (SF.pv hr fun v hv => assert_ok ok hr (ha.opd x) xt t c hv).nf
  case extract t i => exact (extract_ok ok hr (ha.opd t) i).nf
omit ok in
theorem EntsR.erase {N : Nat} {l : List SEnt} {l' : List MapEntry} (hE : EntsR ρ N l l') : ∀ (j : Nat), EntsR ρ N (l.eraseIdx j) (l'.eraseIdx j) := by
  induction hE with
  | nil => intro j; simpa using EntsR.nil
  | cons k u b u' l l' hu hE ih =>
    intro j
    cases j with
    | zero => simpa using hE
    | succ j => simpa using EntsR.cons _ _ _ _ _ _ hu (ih j)
/-- A builtin function. -/
theorem builtin_ok (hr : HR E ρ h w) (b : Builtin) (ts : Array TypeId) (ty : TypeId) (cs : Array Bool) {args : List SV} {args' : List Value} (ha : VRs ρ h.next args args') {v : SV} {h' : Heap} (hA : builtinS E h b ts.toList args = some (v, h')) :
    ∃ v' w' ρ', (builtin b ts ty cs ⟨args'⟩).run E.P w = .ok (.value v') w' ∧ VR ρ' h'.next v v' ∧ Go E ρ h w ρ' h' w' := by
  have pure' : ∀ {s : Sem Value} {v' : Value}, builtin b ts ty cs ⟨args'⟩ = (do pure (.value (← s))) → VR ρ h.next v v' → h' = h → s.run E.P w = .ok v' w → ∃ v' w' ρ', (builtin b ts ty cs ⟨args'⟩).run E.P w = .ok (.value v') w' ∧ VR ρ' h'.next v v' ∧ Go E ρ h w ρ' h' w' := fun hb hv he hs => by
    subst he
    exact ⟨_, w, ρ, by rw [hb]; simp only [Sem.run_bind, hs, Result.andThen_ok, Sem.run_pure], hv, .refl E hr⟩
  have sf : ∀ {s : Sem Value}, builtin b ts ty cs ⟨args'⟩ = (do pure (.value (← s))) → SF E ρ h w (some [(v, h')]) s → ∃ v' w' ρ', (builtin b ts ty cs ⟨args'⟩).run E.P w = .ok (.value v') w' ∧ VR ρ' h'.next v v' ∧ Go E ρ h w ρ' h' w' := fun hb hs => by
    obtain ⟨v1, h1, v', w', ρ', m, a1, a2, a3⟩ := hs _ rfl
    simp only [List.mem_singleton, Prod.mk.injEq] at m
    obtain ⟨rfl, rfl⟩ := m
    exact ⟨v', w', ρ', by rw [hb]; simp only [Sem.run_bind, a1, Result.andThen_ok, Sem.run_pure], a2, a3⟩
  unfold builtinS at hA
  split at hA
  · rename_i t x hts
    cases ha with
    | cons _ x' _ _ hx h0 =>
      cases h0
      have hts' : ts = #[t] := by rw [← Array.toArray_toList (xs := ts), hts]
      subst hts'
      unfold lenB at hA
      have run : ∀ {d : TypeDesc}, und E t = some d → (underlying t).run E.P w = .ok d w := fun hu => run_und ok hu w
      split at hA
      · rename_i b0 off n cap
        cases hc : isSliceT E t
        · rw [hc] at hA; cases hA
        · rw [hc, cond_true] at hA
          simp only [Option.some.injEq, Prod.mk.injEq] at hA
          obtain ⟨rfl, rfl⟩ := hA
          unfold isSliceT at hc
          split at hc
          · rename_i e hu
            refine pure' (s := Builtin.len_ #[t] ty ⟨[x']⟩) rfl (.val _) rfl ?_
            cases hx <;> simp only [Builtin.len_, List.getElem?_toArray, List.getElem?_cons_zero, Sem.run_bind, run hu, Result.andThen_ok, Sem.run_pure] <;> rfl
          · cases hc
      · rename_i n
        split at hA
        · rename_i hu
          simp only [Option.some.injEq, Prod.mk.injEq] at hA
          obtain ⟨rfl, rfl⟩ := hA
          refine pure' (s := Builtin.len_ #[t] ty ⟨[x']⟩) rfl (.val _) rfl ?_
          cases hx
          have hsz : (⟨⟨List.replicate n 0⟩⟩ : ByteArray).size = n := by simp [ByteArray.size]
          simp only [Builtin.len_, List.getElem?_toArray, List.getElem?_cons_zero, Sem.run_bind, run hu, Result.andThen_ok, Sem.run_pure, hsz]
          rfl
        · cases hA
      · rename_i m
        split at hA
        · rename_i es clock hc hg
          simp only [Option.some.injEq, Prod.mk.injEq] at hA
          obtain ⟨rfl, rfl⟩ := hA
          unfold isMapT at hc
          split at hc
          · rename_i e1 e2 hu
            cases hx with
            | map _ hb =>
              obtain ⟨es', hw, hE⟩ := hr.map hg
              have hgo := run_getObj (P := E.P) hw (fun _ _ _ e => by cases e)
              refine pure' (s := Builtin.len_ #[t] ty ⟨[.map (some (ρ m).b)]⟩) rfl (.val _) rfl ?_
              have hl : (⟨es'⟩ : Array MapEntry).size = es.length := hE.keys.2.symm
              simp only [Builtin.len_, List.getElem?_toArray, List.getElem?_cons_zero, Sem.run_bind, run hu, Result.andThen_ok, hgo, Sem.run_pure, hl]
              rfl
          · cases hc
        · cases hA
      · rename_i u
        split at hA
        · rename_i r hpr
          simp only [Option.some.injEq, Prod.mk.injEq] at hA
          obtain ⟨rfl, rfl⟩ := hA
          cases hx
          exact pure' (s := Builtin.len_ #[t] ty ⟨[x']⟩) rfl (.val _) rfl (pureRun_run hpr w)
        · cases hA
      · split at hA
        · rename_i n e hu
          simp only [Option.some.injEq, Prod.mk.injEq] at hA
          obtain ⟨rfl, rfl⟩ := hA
          refine pure' (s := Builtin.len_ #[t] ty ⟨[x']⟩) rfl (.val _) rfl ?_
          simp only [Builtin.len_, List.getElem?_toArray, List.getElem?_cons_zero, Sem.run_bind, run hu, Result.andThen_ok]
          cases x' <;> rfl
        · cases hA
  · rename_i t x hts
    cases ha with
    | cons _ x' _ _ hx h0 =>
      cases h0
      have hts' : ts = #[t] := by rw [← Array.toArray_toList (xs := ts), hts]
      subst hts'
      unfold capB at hA
      split at hA
      · rename_i b0 off n c
        cases hc : isSliceT E t
        · rw [hc] at hA; cases hA
        · rw [hc, cond_true] at hA
          simp only [Option.some.injEq, Prod.mk.injEq] at hA
          obtain ⟨rfl, rfl⟩ := hA
          unfold isSliceT at hc
          split at hc
          · rename_i e hu
            refine pure' (s := Builtin.cap_ #[t] ty ⟨[x']⟩) rfl (.val _) rfl ?_
            cases hx
            simp only [Builtin.cap_, List.getElem?_toArray, List.getElem?_cons_zero, Sem.run_bind, run_und ok hu, Result.andThen_ok, Sem.run_pure]
            rfl
          · cases hc
      · rename_i u
        split at hA
        · rename_i r hpr
          simp only [Option.some.injEq, Prod.mk.injEq] at hA
          obtain ⟨rfl, rfl⟩ := hA
          cases hx
          exact pure' (s := Builtin.cap_ #[t] ty ⟨[x']⟩) rfl (.val _) rfl (pureRun_run hpr w)
        · cases hA
      · cases hA
  · rename_i t u s x hts
    cases ha with
    | cons _ s' _ _ hs h0 =>
      cases h0 with
      | cons _ x' _ _ hx h1 =>
        cases h1
        have hts' : ts = #[t, u] := by rw [← Array.toArray_toList (xs := ts), hts]
        subst hts'
        split at hA
        · cases hA
        · rename_i d hno hd
          exact sf (s := Builtin.append_ #[t, u] ty ⟨[s', x']⟩) rfl (by have := append_ok ok hr t ty u hd (fun k e => hno k e) hs hx; rw [hA] at this; exact this)
        · cases hA
  · rename_i t u d s hts
    cases ha with
    | cons _ d' _ _ hd h0 =>
      cases h0 with
      | cons _ s' _ _ hs h1 =>
        cases h1
        have hts' : ts = #[t, u] := by rw [← Array.toArray_toList (xs := ts), hts]
        subst hts'
        exact sf (s := Builtin.copy_ #[t, u] ty ⟨[d', s']⟩) rfl (by have := copy_ok ok hr t u ty hd hs; rw [hA] at this; exact this)
  · rename_i t u m k hts
    cases ha with
    | cons _ m' _ _ hm h0 =>
      cases h0 with
      | cons _ k' _ _ hk h1 =>
        cases h1
        have hts' : ts = #[t, u] := by rw [← Array.toArray_toList (xs := ts), hts]
        subst hts'
        unfold deleteB at hA
        split at hA
        · rename_i kt e kv b0 hu hkv
          have := toVal_ok hkv hk
          subst this
          split at hA
          · rename_i es clock hg
            cases hm with
            | map _ hb =>
              obtain ⟨es', hw, hE⟩ := hr.map hg
              obtain ⟨hsk, hlen⟩ := hE.keys
              have hgo := run_getObj (P := E.P) hw (fun _ _ _ e => by cases e)
              have hset := fun o' => run_setObj (P := E.P) (o' := o') hw (fun _ _ _ e => by cases e)
              unfold findS at hA
              cases hck : pureRun E.P (Instr.checkKey es.isEmpty 10000 kt k') with
              | none => simp only [hck] at hA; cases hA
              | some uu =>
                have hck' : (Instr.checkKey (⟨es'⟩ : Array MapEntry).isEmpty 10000 kt k').run E.P w = .ok () w := by
                  have : es.isEmpty = (⟨es'⟩ : Array MapEntry).isEmpty := by cases es <;> cases es' <;> first | rfl | (simp at hlen)
                  rw [← this]
                  exact pureRun_run hck w
                simp only [hck] at hA
                cases hfk : pureRun E.P (Instr.findKey kt k' (keyed es)) with
                | none => simp only [hfk] at hA; cases hA
                | some q =>
                  obtain ⟨a1, a2⟩ := findKey_same kt k' hsk hfk
                  cases q with
                  | none =>
                    simp only [hfk, Option.some.injEq, Prod.mk.injEq] at hA
                    obtain ⟨rfl, rfl⟩ := hA
                    refine ⟨_, _, ρ, ?_, .val _, Go.put hr hg _ _ (.map es es' clock _ hE)⟩
                    simp only [builtin, Builtin.delete_, List.getElem?_toArray, List.getElem?_cons_zero, List.getElem?_cons_succ, Sem.run_bind, run_und ok hu, Result.andThen_ok, hgo, hck', a1, pickVal, hset, Sem.run_pure]
                  | some jq =>
                    obtain ⟨j, q⟩ := jq
                    simp only [hfk, Option.some.injEq, Prod.mk.injEq] at hA
                    obtain ⟨rfl, rfl⟩ := hA
                    have hdel : EntsR ρ h.next (es.eraseIdx j) ((⟨es'⟩ : Array MapEntry).eraseIdxIfInBounds j).toList := by
                      have : ((⟨es'⟩ : Array MapEntry).eraseIdxIfInBounds j).toList = es'.eraseIdx j := by simp
                      rw [this]
                      exact hE.erase j
                    refine ⟨_, _, ρ, ?_, .val _, Go.put hr hg _ _ (.map _ _ clock _ hdel)⟩
                    simp only [builtin, Builtin.delete_, List.getElem?_toArray, List.getElem?_cons_zero, List.getElem?_cons_succ, Sem.run_bind, run_und ok hu, Result.andThen_ok, hgo, hck', a1, pickVal, hset, Sem.run_pure]
          · cases hA
        · cases hA
  · unfold minmaxB at hA
    split at hA
    · rename_i vs hvs
      split at hA
      · rename_i r hpr
        simp only [Option.some.injEq, Prod.mk.injEq] at hA
        obtain ⟨rfl, rfl⟩ := hA
        rw [toVals_ok hvs ha]
        exact ⟨_, w, ρ, by simp only [builtin, Sem.run_bind]; rw [show Builtin.min_ ts ty ⟨vs⟩ = Builtin.min_ ts.toList.toArray 0 vs.toArray from rfl, pureRun_run hpr w]; rfl, .val _, .refl E hr⟩
      · cases hA
    · cases hA
  · unfold minmaxB at hA
    split at hA
    · rename_i vs hvs
      split at hA
      · rename_i r hpr
        simp only [Option.some.injEq, Prod.mk.injEq] at hA
        obtain ⟨rfl, rfl⟩ := hA
        rw [toVals_ok hvs ha]
        exact ⟨_, w, ρ, by simp only [builtin, Sem.run_bind]; rw [show Builtin.max_ ts ty ⟨vs⟩ = Builtin.max_ ts.toList.toArray 0 vs.toArray from rfl, pureRun_run hpr w]; rfl, .val _, .refl E hr⟩
      · cases hA
    · cases hA
  · cases hA
end
end Go.Ev
