/- Operations on what is known: new cells, places, slices. -/
import Derived.Test.YtgoiaciamgailaaGreatDoorRRRREvO1
import Derived.Laws.MakeOwn
namespace Go.Ev
set_option linter.unusedVariables false
set_option linter.unusedSimpArgs false
set_option linter.unusedSectionVars false
set_option linter.unnecessarySimpa false

/-- What is handed is one of these. -/
def SF (E : Env) (ρ : Rho) (h : Heap) (w : World) (outs : Outs) (s : Sem Value) : Prop :=
  ∀ l, outs = some l → ∃ v h' v' w' ρ', (v, h') ∈ l ∧ s.run E.P w = .ok v' w' ∧ VR ρ' h'.next v v' ∧ Go E ρ h w ρ' h' w'

section
variable {E : Env} {ρ : Rho} {h : Heap} {w : World}
theorem SF.none {s : Sem Value} : SF E ρ h w none s := fun l e => by cases e
theorem SF.same (hr : HR E ρ h w) {v : SV} {v' : Value} {s : Sem Value} (hv : VR ρ h.next v v') (hs : s.run E.P w = .ok v' w) : SF E ρ h w (some [(v, h)]) s :=
  fun l e => by cases e; exact ⟨v, h, v', w, ρ, .head _, hs, hv, .refl E hr⟩
theorem SF.pv (hr : HR E ρ h w) {o : Option SV} {s : Sem Value} (hv : ∀ v, o = some v → ∃ v', VR ρ h.next v v' ∧ s.run E.P w = .ok v' w) : SF E ρ h w (pv h o) s := by
  cases o with
  | none => exact SF.none
  | some v => obtain ⟨v', h1, h2⟩ := hv v rfl; exact SF.same hr h1 h2
/-- Cells of a new block. -/
theorem newRow_go (hr : HR E ρ h w) {l : List SV} {l' : List Value} (hl : VRs ρ h.next l l') (h1 : ∀ v, v ∈ l' → v.oneCell' = true) (e : TypeId) {i : TypeInfo} (hi : E.tt.get e = some i) (more : List Value) (size : Nat) (hs : size = l.length) (fr : Nat × Nat) (hf : fr = (0, 0) ∨ l'.length + more.length ≤ fr.1) :
    Go E ρ h w (ρ.set h.next ⟨w.heap.size, 0, l'.length + more.length, i.size⟩) (h.new (.row (Tr.e.puts 0 l) [] size e)) (w.alloc (.cells ⟨l' ++ more⟩ e fr)) := by
  subst hs
  refine Go.new E hr _ _ _ _ ?_
  have hren := Ren.set ρ h.next ⟨w.heap.size, 0, l'.length + more.length, i.size⟩
  have hR := RowR.ofList (hl.ren hren) h1 w.heap.size i.size more
  refine .row _ _ _ _ _ _ _ _ ⟨hR.all, hR.le, fun j hj => ?_, hR.cell⟩ (fun j hj => by rw [hi] at hj; cases hj; rfl)
  rcases hf with rfl | hf
  · exact hR.thaw j hj
  · intro hc; simp only at hj hc; omega
variable (ok : EnvOk E)
include ok
theorem alloc_ok (hr : HR E ρ h w) (e : TypeId) : SF E ρ h w (oAlloc E h e) (Instr.alloc e true (.tuple #[])) := by
  unfold oAlloc
  split
  · rename_i i hi
    split
    · rename_i z hz
      cases hc : all1 (zcells z)
      · exact SF.none
      · intro l e'
        cases e'
        have hl := zcells_R (ρ := ρ) (N := h.next) z
        have hlen := hl.length
        refine ⟨_, _, .pointer (some ⟨w.heap.size, 0, none⟩), w.alloc (.cells z.cells e), ρ.set h.next ⟨w.heap.size, 0, (zcells z).length, i.size⟩, .head _, ?_, ?_, Go.new E hr _ _ _ _ ?_⟩
        · simp [Instr.alloc, run_zero ok hi hz, newVar, newRow]
        · have := VR.ptr (ρ := ρ.set h.next ⟨w.heap.size, 0, (zcells z).length, i.size⟩) (N := h.next + 1) h.next 0 (Nat.lt_succ_self _)
          rwa [Rho.set_self] at this
        · have hren := Ren.set ρ h.next ⟨w.heap.size, 0, (zcells z).length, i.size⟩
          have ho := hl.ones hc
          refine .row _ _ _ _ _ _ _ _ ⟨by simp [hlen], Nat.le_refl _, fun j _ hc => by have := hc.2; simp at this, fun j hj => ?_⟩ (fun j hj => by rw [hi] at hj; cases hj; rfl)
          rw [rowGet_e hj]
          have hg := List.getElem?_eq_getElem hj
          obtain ⟨v', a1, a2⟩ := (hl.ren hren).get hg
          exact ⟨_, v', hg, by simpa using a1, ho v' (List.mem_of_getElem? a1), a2⟩
    · exact SF.none
  · exact SF.none
theorem box_ok (hr : HR E ρ h w) (e : TypeId) {x : SV} {x' : Value} (hx : VR ρ h.next x x') : SF E ρ h w (pb (newRowS E h e x.cells)) (Instr.box e x') := by
  intro l e'
  unfold newRowS at e'
  split at e'
  · rename_i cl sz hcl hsz
    obtain ⟨i, hi, _⟩ := size_ok ok hsz
    cases hc : all1 cl
    · rw [hc] at e'; cases e'
    · rw [hc] at e'
      simp only [cond_true, pb, Option.some.injEq] at e'
      subst e'
      have hl := hx.cells hcl
      have ho := hl.ones hc
      have hg := newRow_go hr hl ho e hi [] cl.length rfl (0, 0) (.inl rfl)
      simp only [List.append_nil, List.length_nil, Nat.add_zero] at hg
      refine ⟨_, _, .pointer (some ⟨w.heap.size, 0, none⟩), _, _, .head _, ?_, ?_, hg⟩
      · simp [Instr.box, newVar, newRow]
      · have := VR.ptr (ρ := ρ.set h.next ⟨w.heap.size, 0, x'.cells.toList.length, i.size⟩) (N := h.next + 1) h.next 0 (Nat.lt_succ_self _)
        rwa [Rho.set_self] at this
  · cases e'

/-! ### Building -/
omit ok in
theorem setAt_length (c : List SV) : ∀ (off : Nat) (l : List SV), off + c.length ≤ l.length → (setAt l off c).length = l.length := by
  intro off
  induction off with
  | zero => intro l h; simp only [setAt, List.length_append, List.length_drop]; omega
  | succ n ih =>
    intro l h
    cases l with
    | nil => simp only [List.length_nil] at h; omega
    | cons a as => simp only [setAt, List.length_cons] at h ⊢; rw [ih as (by omega)]
omit ok in
theorem setAt_get (c : List SV) : ∀ (off : Nat) (l : List SV) (j : Nat), off + c.length ≤ l.length → (setAt l off c)[j]? = if off ≤ j ∧ j < off + c.length then c[j - off]? else l[j]? := by
  intro off
  induction off with
  | zero =>
    intro l j h
    simp only [setAt, Nat.zero_add, Nat.zero_le, true_and, Nat.sub_zero]
    by_cases hj : j < c.length
    · rw [if_pos hj, List.getElem?_append_left hj]
    · rw [if_neg hj, List.getElem?_append_right (by omega), List.getElem?_drop]
      congr 1; omega
  | succ n ih =>
    intro l j h
    cases l with
    | nil => simp only [List.length_nil] at h; omega
    | cons a as =>
      simp only [setAt, List.length_cons] at h ⊢
      cases j with
      | zero => simp
      | succ j =>
        simp only [List.getElem?_cons_succ]
        rw [ih as j (by omega)]
        by_cases hj : n ≤ j ∧ j < n + c.length
        · rw [if_pos hj, if_pos (by omega)]; congr 1; omega
        · rw [if_neg hj, if_neg (by omega)]
omit ok in
theorem fold_set (off : Nat) (l : List Value) : ∀ (k : Nat) (cells : Array Value), (l.zipIdx k).foldl (fun cs (x : Value × Nat) => cs.setIfInBounds (off + x.2) x.1) cells = putAt cells (off + k) l := by
  induction l with
  | nil => intro k cells; rfl
  | cons x xs ih =>
    intro k cells
    simp only [List.zipIdx_cons, List.foldl_cons, putAt]
    have := ih (k + 1) (cells.setIfInBounds (off + k) x)
    rw [show off + (k + 1) = off + k + 1 by omega] at this
    exact this
omit ok in
theorem fill_ok {N : Nat} {pl : Nat → Option (Nat × Nat)} {ev : Operand → SV} {ev' : Operand → Value} (hev : ∀ x, VR ρ N (ev x) (ev' x)) : ∀ (ps : List (Nat × Operand)) {l r : List SV} {l' : Array Value}, VRs ρ N l l'.toList → fillS pl ev ps l = some r →
    ∃ r' : Array Value, Instr.fill pl l' (ps.map fun p => (p.1, ev' p.2)) = some r' ∧ VRs ρ N r r'.toList := by
  intro ps
  induction ps with
  | nil => intro l r l' hl hf; simp only [fillS, Option.some.injEq] at hf; subst hf; exact ⟨l', rfl, hl⟩
  | cons p ps ih =>
    obtain ⟨i, x⟩ := p
    intro l r l' hl hf
    simp only [fillS] at hf
    cases hp : pl i with
    | none => rw [hp] at hf; cases hf
    | some on =>
      obtain ⟨off, n⟩ := on
      rw [hp] at hf
      simp only at hf
      cases hc : (ev x).cells with
      | none => rw [hc] at hf; cases hf
      | some c =>
        rw [hc] at hf
        simp only at hf
        cases hb : (Nat.beq c.length n && Nat.ble (off + n) l.length)
        · rw [hb] at hf; cases hf
        · rw [hb, cond_true] at hf
          simp only [Bool.and_eq_true, Tr.beq_of, ble_eq, decide_eq_true_eq] at hb
          obtain ⟨rfl, hle⟩ := hb
          have hcc := (hev x).cells hc
          have hlc := hcc.length
          have hll := hl.length
          simp only [Array.length_toList] at hll hlc
          have hset : VRs ρ N (setAt l off c) (putAt l' off (ev' x).cells.toList).toList := by
            refine VRs.mk ?_ fun j v hj => ?_
            · rw [setAt_length c off l hle, Array.length_toList]; exact hll.trans (size_putAt _ _ _).symm
            · rw [setAt_get c off l j hle] at hj
              rw [Array.getElem?_toList, get_putAt _ _ _ _ (by rw [Array.length_toList]; omega)]
              by_cases h1 : off ≤ j ∧ j < off + c.length
              · rw [if_pos h1] at hj
                rw [if_pos (by rw [Array.length_toList]; omega)]
                exact hcc.get hj
              · rw [if_neg h1] at hj
                rw [if_neg (by rw [Array.length_toList]; omega)]
                simpa using hl.get hj
          obtain ⟨r', h1, h2⟩ := ih hset hf
          refine ⟨r', ?_, h2⟩
          simp only [List.map_cons, Instr.fill, hp]
          rw [if_neg (by simp; omega)]
          have hfold : (ev' x).cells.zipIdx.foldl (fun cs (q : Value × Nat) => cs.setIfInBounds (off + q.2) q.1) l' = putAt l' off (ev' x).cells.toList := by
            rw [← Array.foldl_toList, Array.toList_zipIdx]
            exact fold_set off (ev' x).cells.toList 0 l'
          have hfold' : (ev' x).cells.zipIdx.foldl (fun cs x => match x with | (c, j) => cs.setIfInBounds (off + j) c) l' = putAt l' off (ev' x).cells.toList := hfold
          rw [hfold']
          exact h1
theorem mapM_places : ∀ (fs : List Field), allSz E fs = true → ∃ ns : List (Nat × Nat), ns.length = fs.length ∧ (∀ (i : Nat) (f : Field), fs[i]? = some f → ∃ n, sizeO E f.type = some n ∧ ns[i]? = some (f.offset, n)) ∧ ∀ w, (fs.mapM (m := Sem) fun (f : Field) => do pure (f.offset, ← Go.sizeOf f.type)).run E.P w = .ok ns w := by
  intro fs
  induction fs with
  | nil => intro _; exact ⟨[], rfl, fun i f h => by simp at h, fun w => rfl⟩
  | cons f fs ih =>
    intro hs
    unfold allSz at hs
    split at hs
    · rename_i i hi
      obtain ⟨ns, h1, h2, h3⟩ := ih hs
      have hz : sizeO E f.type = some i.size := by simp [sizeO, info, hi]
      refine ⟨(f.offset, i.size) :: ns, by simp [h1], fun j g hj => ?_, fun w => ?_⟩
      · cases j with
        | zero => simp at hj; subst hj; exact ⟨i.size, hz, rfl⟩
        | succ j => simp at hj; simpa using h2 j g hj
      · have := h3 w
        simp only [List.mapM_cons, Sem.run_bind, run_size ok hz, Result.andThen_ok, Sem.run_pure, this]
    · cases hs
theorem build_ok (hr : HR E ρ h w) {st : St} {a : Act} (ha : AR ρ h.next st a.tmps a.defers) (t : TypeId) (ps : Array (Nat × Operand)) : SF E ρ h w (oBuild E h st t ps.toList) (Instr.build t (ps.map fun p => (p.1, a.eval p.2))) := by
  unfold oBuild
  split
  · rename_i z hz
    obtain ⟨i, hi, hz'⟩ := zero_ok ok hz
    split
    · rename_i l hl
      unfold buildS at hl
      split at hl
      · rename_i fs hu
        cases hs : allSz E fs.toList
        · rw [hs] at hl; cases hl
        · rw [hs, cond_true] at hl
          obtain ⟨ns, n1, n2, n3⟩ := mapM_places ok fs.toList hs
          have hpl : ∀ j p, slot E t j = some p → ns[j]? = some p := fun j p hp => by
            unfold slot at hp
            rw [hu] at hp
            simp only [nth_eq] at hp
            split at hp
            · rename_i f hf
              obtain ⟨n, m1, m2⟩ := n2 j f hf
              rw [m1] at hp
              simp only [Option.some.injEq] at hp
              rw [← hp, m2]
            · cases hp
          obtain ⟨r', r1, r2⟩ := fill_ok (fun x => ha.opd x) ps.toList (zcells_R z) hl
          have mono : ∀ (qs : List (Nat × Value)) (c r : Array Value), Instr.fill (slot E t) c qs = some r → Instr.fill (ns[·]?) c qs = some r := by
            intro qs
            induction qs with
            | nil => intro c r h; exact h
            | cons q qs ih =>
              obtain ⟨j, v⟩ := q
              intro c r h
              simp only [Instr.fill] at h ⊢
              cases hp : slot E t j with
              | none => rw [hp] at h; cases h
              | some on =>
                obtain ⟨o, n⟩ := on
                rw [hp] at h
                rw [hpl j _ hp]
                simp only at h ⊢
                split at h
                · cases h
                · rename_i hcond
                  rw [if_neg hcond]
                  exact ih _ _ h
          have hm : (fs.mapM (m := Sem) fun (f : Field) => do pure (f.offset, ← Go.sizeOf f.type)).run E.P w = .ok ns.toArray w := by
            have := n3 w
            rw [← Array.toList_mapM] at this
            rw [Sem.run_map] at this
            cases hq : (fs.mapM (m := Sem) fun (f : Field) => do pure (f.offset, ← Go.sizeOf f.type)).run E.P w with
            | ok x w2 =>
              rw [hq] at this
              simp only [Result.andThen_ok, Result.ok.injEq] at this
              obtain ⟨rfl, rfl⟩ := this
              simp
            | halt x w2 => rw [hq] at this; simp at this
          have hfin := mono _ _ _ r1
          refine SF.same hr (.agg l r'.toList (by simpa using r2)) ?_
          simp only [Instr.build, Sem.run_bind, run_zero ok hi hz', Result.andThen_ok, run_und ok hu, Sem.run_pure] at hm ⊢
          simp only [hm, Result.andThen_ok, List.getElem?_toArray, Array.toList_map]
          rw [hfin]
          rfl
      · rename_i n e hu
        split at hl
        · rename_i n2 hz2
          obtain ⟨r', r1, r2⟩ := fill_ok (fun x => ha.opd x) ps.toList (zcells_R z) hl
          have hfun : slot E t = fun i => some (i * n2, n2) := by
            funext i
            unfold slot
            rw [hu]
            simp [hz2]
          refine SF.same hr (.agg l r'.toList (by simpa using r2)) ?_
          rw [hfun] at r1
          simp only [Instr.build, Sem.run_bind, run_zero ok hi hz', Result.andThen_ok, run_und ok hu, run_size ok hz2, Array.toList_map]
          rw [r1]
          rfl
        · cases hl
      · cases hl
    · exact SF.none
  · exact SF.none
omit ok in
theorem rep_get {α : Type} (l : List α) : ∀ (n : Nat), (rep l n).length = n * l.length ∧ ∀ i, i < n * l.length → (rep l n)[i]? = l[i % l.length]? := by
  intro n
  induction n with
  | zero => exact ⟨by simp [rep], fun i hi => by simp at hi⟩
  | succ n ih =>
    obtain ⟨h1, h2⟩ := ih
    refine ⟨by simp only [rep, List.length_append, h1]; rw [Nat.add_mul, Nat.one_mul]; omega, fun i hi => ?_⟩
    simp only [rep]
    rw [Nat.add_mul, Nat.one_mul] at hi
    by_cases hlt : i < l.length
    · rw [List.getElem?_append_left hlt, Nat.mod_eq_of_lt hlt]
    · rw [List.getElem?_append_right (by omega), h2 _ (by omega)]
      congr 1
      rw [← Nat.mod_eq_sub_mod (by omega)]
omit ok in
theorem range_get (z : Array Value) (n i : Nat) (hi : i < n) (hz : 0 < z.size) : ((Array.range n).map (z[· % z.size]!))[i]? = z[i % z.size]? := by
  have hm : i % z.size < z.size := Nat.mod_lt _ hz
  simp [hi, hm]
theorem buildSlice_ok (hr : HR E ρ h w) {st : St} {a : Act} (ha : AR ρ h.next st a.tmps a.defers) (t : TypeId) (n : Nat) (ps : Array (Nat × Operand)) : SF E ρ h w (oBuildSlice E h st t n ps.toList) (Instr.buildSlice t n (ps.map fun p => (p.1, a.eval p.2))) := by
  unfold oBuildSlice
  split
  · rename_i e hu
    split
    · rename_i i hi
      split
      · rename_i z hz
        cases hc : (Nat.beq (zcells z).length i.size && Nat.ble (n * i.size) 16777216)
        · exact SF.none
        · rw [cond_true]
          simp only [Bool.and_eq_true, Tr.beq_of, ble_eq, decide_eq_true_eq] at hc
          obtain ⟨c1, c2⟩ := hc
          split
          · rename_i l hl
            cases h1 : all1 l
            · exact SF.none
            · rw [cond_true]
              have hzc := zcells_R (ρ := ρ) (N := h.next) z
              have hzl := hzc.length
              have hsz : z.cells.size = i.size := by rw [← c1, hzl]; simp
              have hs : sizeO E e = some i.size := by simp [sizeO, info, hi]
              obtain ⟨q1, q2⟩ := rep_get (zcells z) n
              rw [c1] at q1 q2
              have hbase : VRs ρ h.next (rep (zcells z) n) ((Array.range (n * i.size)).map ((if n * i.size = 0 then #[] else z.cells)[· % (if n * i.size = 0 then #[] else z.cells).size]!)).toList := by
                by_cases h0 : n * i.size = 0
                · have : rep (zcells z) n = [] := List.length_eq_zero_iff.1 (by rw [q1]; exact h0)
                  rw [this, h0]
                  simpa using VRs.nil
                · rw [if_neg h0]
                  refine VRs.mk (by simp [q1]) fun j v hj => ?_
                  have hjl : j < n * i.size := by rw [← q1]; exact (List.getElem?_eq_some_iff.1 hj).1
                  rw [q2 j hjl] at hj
                  rw [Array.getElem?_toList, range_get _ _ _ hjl (by rw [hsz]; exact Nat.pos_of_ne_zero fun e => h0 (by simp [e])), hsz]
                  simpa using hzc.get hj
              obtain ⟨r', r1, r2⟩ := fill_ok (fun x => ha.opd x) ps.toList hbase hl
              have ho := r2.ones h1
              have hg := newRow_go hr r2 ho e hi [] l.length rfl (0, 0) (.inl rfl)
              simp only [List.append_nil, List.length_nil, Nat.add_zero] at hg
              have hlen : l.length = n * i.size := by
                have : ∀ (ps : List (Nat × Operand)) (l r : List SV), fillS (fun j => some (j * i.size, i.size)) (opd st) ps l = some r → r.length = l.length := by
                  intro ps
                  induction ps with
                  | nil => intro l r h; simp only [fillS, Option.some.injEq] at h; rw [h]
                  | cons p ps ih =>
                    obtain ⟨j, x⟩ := p
                    intro l r h
                    simp only [fillS] at h
                    split at h
                    · cases h
                    · rename_i c hcc
                      cases hb : (Nat.beq c.length i.size && Nat.ble (j * i.size + i.size) l.length)
                      · rw [hb] at h; cases h
                      · rw [hb, cond_true] at h
                        rw [ih _ _ h, setAt_length _ _ _ (by simp only [Bool.and_eq_true, Tr.beq_of, ble_eq, decide_eq_true_eq] at hb; omega)]
                rw [this _ _ _ hl, q1]
              intro l0 e0
              cases e0
              refine ⟨_, _, .slice (some ⟨w.heap.size, 0, none⟩) n n, _, _, .head _, ?_, ?_, hg⟩
              · simp only [Instr.buildSlice, Sem.run_bind, run_und ok hu, Result.andThen_ok, run_size ok hs]
                rw [if_neg (by omega)]
                simp only [Sem.run_pure, Result.andThen_ok, Array.toList_map]
                by_cases h0 : n * i.size = 0
                · rw [if_pos h0] at r1
                  rw [if_pos h0]
                  simp only [Sem.run_bind, Sem.run_pure, Result.andThen_ok]
                  rw [r1]
                  simp [newRow]
                · rw [if_neg h0] at r1
                  rw [if_neg h0]
                  simp only [Sem.run_bind, run_zero ok hi hz, Sem.run_pure, Result.andThen_ok]
                  rw [r1]
                  simp [newRow]
              · have := VR.slice (ρ := ρ.set h.next ⟨w.heap.size, 0, r'.toList.length, i.size⟩) (N := h.next + 1) h.next 0 n n (Nat.lt_succ_self _) (Nat.le_refl _)
                rwa [Rho.set_self] at this
          · exact SF.none
      · exact SF.none
    · exact SF.none
  · exact SF.none

/-! ### Places -/
omit ok in
theorem add_at (b o n : Nat) : (⟨b, o, none⟩ : Addr).add n = ⟨b, o + n, none⟩ := by unfold Addr.add; split <;> simp_all
theorem fieldAddr_ok (hr : HR E ρ h w) (s : TypeId) {x : SV} {x' : Value} (hx : VR ρ h.next x x') (f : Nat) : SF E ρ h w (oFieldAddr E h s x f) (Instr.fieldAt s x' f) := by
  unfold oFieldAddr
  split
  · rename_i b off
    split
    · rename_i fs hu
      simp only [nth_eq]
      split
      · rename_i fd hf
        split
        · rename_i n hn
          cases h0 : Nat.beq n 0
          · rw [cond_false]
            have hne : n ≠ 0 := fun e => by rw [e] at h0; simp at h0
            cases hx with
            | ptr _ _ hb =>
              refine SF.same hr (v' := .pointer (some ⟨(ρ b).b, (ρ b).o + (off + fd.offset), none⟩)) (.ptr b _ hb) ?_
              have hf' : fs[f]? = some fd := by simpa using hf
              simp only [Instr.fieldAt, Sem.run_bind, run_und ok hu, Result.andThen_ok, hf', Instr.sureAddr, Sem.run_pure, fieldPlace, run_size ok hn, if_neg hne, add_at]
              simp [Nat.add_assoc]
          · exact SF.none
        · exact SF.none
      · exact SF.none
    · exact SF.none
  · exact SF.none
theorem part_ok (hr : HR E ρ h w) {t : TypeId} {l : List SV} {l' : List Value} (hl : VRs ρ h.next l l') {off : Nat} {v : SV} (hv : partS E t l off = some v) : ∃ v', VR ρ h.next v v' ∧ (part t ⟨l'⟩ off).run E.P w = .ok v' w := by
  unfold partS at hv
  split at hv
  · rename_i hag
    split at hv
    · rename_i n hn
      simp only [Option.some.injEq, dropL_eq, takeL_eq] at hv
      subst hv
      refine ⟨_, .agg _ _ ((hl.drop off).take n), ?_⟩
      simp only [part, Sem.run_bind, run_agg ok hag, Result.andThen_ok, if_true, run_size ok hn, Sem.run_pure]
      congr 2
      apply Array.ext'
      simp [List.extract_eq_take_drop]
    · cases hv
  · rename_i hag
    rw [nth_eq] at hv
    obtain ⟨v', h1, h2⟩ := hl.get hv
    refine ⟨v', h2, ?_⟩
    have h1' : (⟨l'⟩ : Array Value)[off]? = some v' := by simpa using h1
    simp only [part, Sem.run_bind, run_agg ok hag, Result.andThen_ok, Bool.false_eq_true, if_false, h1', Sem.run_pure]
  · cases hv
theorem aggV_ok {x : SV} {x' : Value} (hx : VR ρ h.next x x') (ha : isAggV x = true) {l : List SV} (hl : x.cells = some l) : ∃ l', x' = .agg ⟨l'⟩ ∧ VRs ρ h.next l l' := by
  have hc := hx.cells hl
  cases hx with
  | val => cases x' <;> first | exact ⟨_, rfl, hc⟩ | simp [isAggV] at ha
  | agg _ l' h => exact ⟨_, rfl, hc⟩
  | arr _ _ _ l' _ _ _ => exact ⟨_, rfl, hc⟩
  | _ => simp [isAggV] at ha
theorem field_ok (hr : HR E ρ h w) (t : TypeId) {x : SV} {x' : Value} (hx : VR ρ h.next x x') (f : Nat) : SF E ρ h w (oField E h t x f) (Instr.field t x' f) := by
  unfold oField
  split
  · rename_i fs hu ha
    simp only [nth_eq]
    split
    · rename_i fd l hf hl
      obtain ⟨l', rfl, hll⟩ := aggV_ok ok hx ha hl
      refine SF.pv hr fun v hv => ?_
      obtain ⟨v', h1, h2⟩ := part_ok ok hr hll hv
      refine ⟨v', h1, ?_⟩
      have hf' : fs[f]? = some fd := by simpa using hf
      simp only [Instr.field, Sem.run_bind, run_und ok hu, Result.andThen_ok, hf', asAgg, Sem.run_pure, h2]
    · exact SF.none
  · exact SF.none
omit ok in
theorem nat_ok {N : Nat} {x : SV} {x' : Value} (hx : VR ρ N x x') {n : Nat} (hn : natOf x = some n) : ∃ k, x' = .int k (Int.ofNat n) := by
  unfold natOf at hn
  split at hn
  · simp only [Option.some.injEq] at hn
    subst hn
    cases hx
    exact ⟨_, rfl⟩
  · cases hn
theorem indexAddr_ok (hr : HR E ρ h w) (t : TypeId) {x i : SV} {x' i' : Value} (hx : VR ρ h.next x x') (hi : VR ρ h.next i i') : SF E ρ h w (oIndexAddr E h t x i) (Instr.indexAt t x' i') := by
  unfold oIndexAddr
  split
  · exact SF.none
  · rename_i n hn
    obtain ⟨k, rfl⟩ := nat_ok hi hn
    split
    · rename_i b off len cap
      split
      · rename_i sz hz
        rw [blt_eq]
        by_cases hlt : n < len
        · rw [decide_eq_true hlt, cond_true]
          unfold sliceSz at hz
          split at hz
          · rename_i e hu
            have fin : ∀ c, SF E ρ h w (some [(.ptr b (off + n * sz), h)]) (Instr.indexAt t (.slice (some ⟨(ρ b).b, (ρ b).o + off, none⟩) len c) (.int k (Int.ofNat n))) := fun c => by
              have hb : b < h.next := by cases hx <;> assumption
              refine SF.same hr (v' := .pointer (some ⟨(ρ b).b, (ρ b).o + (off + n * sz), none⟩)) (.ptr b _ hb) ?_
              have h1 : (0 : Int) ≤ Int.ofNat n ∧ Int.ofNat n < (len : Int) := ⟨Int.natCast_nonneg n, Int.ofNat_lt.2 hlt⟩
              simp only [Instr.indexAt, asIntOf, Sem.run_bind, Sem.run_pure, run_und ok hu, Result.andThen_ok, h1, and_self, if_true, run_size ok hz, add_at]
              simp [Nat.add_assoc]
            cases hx with
            | slice => exact fin _
            | sliceU => exact fin _
          · cases hz
        · rw [decide_eq_false hlt]; exact SF.none
      · exact SF.none
    · rename_i b off
      split
      · rename_i m e hu
        split
        · rename_i sz hz
          rw [blt_eq]
          by_cases hlt : n < m
          · rw [decide_eq_true hlt, cond_true]
            cases hx with
            | ptr _ _ hb =>
              refine SF.same hr (v' := .pointer (some ⟨(ρ b).b, (ρ b).o + (off + n * sz), none⟩)) (.ptr b _ hb) ?_
              have h1 : (0 : Int) ≤ Int.ofNat n ∧ Int.ofNat n < (m : Int) := ⟨Int.natCast_nonneg n, Int.ofNat_lt.2 hlt⟩
              simp only [Instr.indexAt, asIntOf, Sem.run_bind, Sem.run_pure, run_und ok hu, Result.andThen_ok, Instr.sureAddr, h1, and_self, if_true, run_size ok hz, add_at]
              simp [Nat.add_assoc]
          · rw [decide_eq_false hlt]; exact SF.none
        · exact SF.none
      · exact SF.none
    · exact SF.none
theorem index_ok (hr : HR E ρ h w) (t : TypeId) {x i : SV} {x' i' : Value} (hx : VR ρ h.next x x') (hi : VR ρ h.next i i') : SF E ρ h w (oIndex E h t x i) (Instr.index t x' i') := by
  unfold oIndex
  split
  · exact SF.none
  · rename_i n hn
    obtain ⟨k, rfl⟩ := nat_ok hi hn
    split
    · rename_i s
      split
      · rename_i hu
        cases hx
        rw [nth_eq]
        split
        · rename_i b hb
          refine SF.same hr (.val _) ?_
          have h1 : (0 : Int) ≤ Int.ofNat n := Int.natCast_nonneg n
          have h2 : s[n]? = some b := by
            rw [← hb]; simp [getElem?_def]; rfl
          simp only [Instr.index, asIntOf, Sem.run_bind, Sem.run_pure, run_und ok hu, Result.andThen_ok, h1, if_true, Int.ofNat_eq_natCast, Int.toNat_natCast, h2]
          rfl
        · exact SF.none
      · exact SF.none
    · unfold oIndexArr
      split
      · rename_i m e hu
        split
        · rename_i sz hz
          rw [blt_eq]
          by_cases hlt : n < m
          · rw [decide_eq_true hlt, cond_true]
            have h1 : (0 : Int) ≤ Int.ofNat n ∧ Int.ofNat n < (m : Int) := ⟨Int.natCast_nonneg n, Int.ofNat_lt.2 hlt⟩
            have run : ∀ l', (Instr.index t (.agg ⟨l'⟩) (.int k (Int.ofNat n))).run E.P w = (part e ⟨l'⟩ (n * sz)).run E.P w := fun l' => by
              simp only [Instr.index, asIntOf, Sem.run_bind, Sem.run_pure, run_und ok hu, Result.andThen_ok, h1, and_self, if_true, run_size ok hz]
              simp
            split
            · rename_i cs dfl q hag _
              rw [blt_eq]
              by_cases hq : n * sz < q
              · rw [decide_eq_true hq, cond_true]
                refine SF.pv hr fun v hv => ?_
                cases hx with
                | arr _ _ l l' r1 r2 r3 =>
                  obtain ⟨s1, s2⟩ := rowGets_some r1
                  have s3 := s2 _ hq
                  rw [Nat.zero_add, hv] at s3
                  obtain ⟨v', a1, a2⟩ := r3.get s3.symm
                  refine ⟨v', a2, ?_⟩
                  rw [run]
                  have h1' : (⟨l'⟩ : Array Value)[n * sz]? = some v' := by simpa using a1
                  simp only [part, Sem.run_bind, run_agg ok hag, Result.andThen_ok, Bool.false_eq_true, if_false, h1', Sem.run_pure]
              · rw [decide_eq_false hq]; exact SF.none
            · rename_i x _ _ _ _
              cases ha : isAggV x
              · exact SF.none
              · rw [cond_true]
                split
                · rename_i l hl
                  obtain ⟨l', rfl, hll⟩ := aggV_ok ok hx ha hl
                  refine SF.pv hr fun v hv => ?_
                  obtain ⟨v', a1, a2⟩ := part_ok ok hr hll hv
                  exact ⟨v', a1, by rw [run]; exact a2⟩
                · exact SF.none
          · rw [decide_eq_false hlt]; exact SF.none
        · exact SF.none
      · exact SF.none
end
end Go.Ev
