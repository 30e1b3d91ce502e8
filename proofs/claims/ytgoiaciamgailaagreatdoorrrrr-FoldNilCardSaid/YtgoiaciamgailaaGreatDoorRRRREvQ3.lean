/- What runs on what is known: rounds of a range over a function; calls; operations in a row. -/
import Derived.Test.YtgoiaciamgailaaGreatDoorRRRREvQ2
namespace Go.Ev
set_option linter.unusedVariables false
set_option linter.unusedSimpArgs false
set_option linter.unusedSectionVars false
set_option linter.unnecessarySimpa false

section
variable {E : Env} {ρ : Rho} {h : Heap} {w : World}
theorem setParams_ok {N : Nat} : ∀ (ps : List Tmp) (as : List SV) (as' : List Value) (st st' : St) (a : Act), setParams ps as st = some st' → VRs ρ N as as' → AR ρ N st a.tmps a.defers →
    AR ρ N st' ((ps.zip as').foldl (fun tmps (x : Tmp × Value) => tmps.setIfInBounds x.1 x.2) a.tmps) a.defers ∧ st'.round = st.round ∧ ps.length = as'.length
  | [], as, as', st, st', a, h, hv, ha => by
    cases hv with
    | nil => cases h; exact ⟨ha, rfl, rfl⟩
    | cons v v' l l' h1 h2 => cases h
  | p :: ps, as, as', st, st', a, h, hv, ha => by
    cases hv with
    | nil => cases h
    | cons v v' l l' h1 h2 =>
      have h3 := setParams_ok ps l l' (putSt st (some p) v) st' (a.put (some p) v') h h2 (ha.put (some p) h1)
      obtain ⟨b1, b2, b3⟩ := h3
      refine ⟨b1, b2.trans ?_, by simp [b3]⟩
      simp only [putSt]
      cases Nat.blt p st.cut
      · cases Nat.blt p st.n <;> rfl
      · rfl
theorem putSt_round (st : St) (d : Option Tmp) (v : SV) : (putSt st d v).round = st.round := by
  cases d with
  | none => rfl
  | some p =>
    simp only [putSt]
    cases Nat.blt p st.cut
    · cases Nat.blt p st.n <;> rfl
    · rfl
theorem loop_inv {N : Nat} {r : SLoop} {p : Pl} {r' : Loop} (hx : BR E ρ N (.loop r) p (.loop r')) : r'.state = r.state ∧ r'.pending = r.pending ∧ VarsR ρ N r.vars r.n r'.tmps ∧ r'.params = r.params ∧ r'.assign = r.assign ∧ r'.body = r.body ∧ r.defers < N ∧ r'.defers = (ρ r.defers).b := by
  cases hx
  refine ⟨?_, ?_, ?_, ?_, ?_, ?_, ?_, ?_⟩ <;> assumption
theorem loop_R (hr : HR E ρ h w) {l : Nat} {r : SLoop} (hb : h.t.get l = some (.loop r)) : ∃ r' : Loop, w.heap[(ρ l).b]? = some (.loop r') ∧ BR E ρ h.next (.loop r) (ρ l) (.loop r') := by
  obtain ⟨o, h1, h2⟩ := hr.blk l _ hb
  cases o with
  | loop r' => exact ⟨r', h1, h2⟩
  | _ => cases h2
theorem loop_at (hr : HR E ρ h w) {l : Nat} {r : SLoop} (hb : h.t.get l = some (.loop r)) : ∃ r' : Loop, w.heap[(ρ l).b]? = some (.loop r') ∧ r'.state = r.state ∧ r'.pending = r.pending ∧ VarsR ρ h.next r.vars r.n r'.tmps ∧ r'.params = r.params ∧ r'.assign = r.assign ∧ r'.body = r.body ∧ r.defers < h.next ∧ r'.defers = (ρ r.defers).b := by
  obtain ⟨r', h1, h2⟩ := loop_R hr hb
  exact ⟨r', h1, loop_inv h2⟩
theorem loop_put (hr : HR E ρ h w) {l : Nat} {r : SLoop} (hb : h.t.get l = some (.loop r)) {r' : Loop} (hx : BR E ρ h.next (.loop r) (ρ l) (.loop r')) (hw : w.heap[(ρ l).b]? = some (.loop r')) (s : LoopState) (p : Option Code) :
    Go E ρ h w ρ (h.set l (.loop { r with state := s, pending := p })) (w.putObj (ρ l).b (.loop { r' with state := s, pending := p })) := by
  obtain ⟨a1, a2, a3, a4, a5, a6, a7, a8⟩ := loop_inv hx
  exact Go.put hr hb _ _ (.loop _ _ _ rfl rfl a3 a4 a5 a6 a7 a8)
variable (ok : ProgOk E) {fs : Fns} (fo : FnsOk E fs)
include ok fo
theorem round_ok (hr : HR E ρ h w) {l : Nat} (hl : l < h.next) {as : List SV} {as' : List Value} (ha : VRs ρ h.next as as') {outs : List (SV × Heap)} (hv : roundS fs l as h = some outs) :
    NextR E outs ρ h w ((Instr.yield (ρ l).b ⟨as'⟩).run E.P w) := by
  unfold roundS at hv
  split at hv
  case h_2 => cases hv
  rename_i r hb
  obtain ⟨r', hw, h1, h2, h3, h4, h5, h6, h7, h8⟩ := loop_at hr hb
  cases hp : setParams r.params.toList as ⟨[], r.vars, r.vars.length, r.n, [], some l⟩ with
  | none => rw [hp] at hv; cases hv
  | some st =>
    rw [hp] at hv
    have ha0 : AR ρ h.next ⟨[], r.vars, r.vars.length, r.n, [], some l⟩ (Act.mk r'.tmps []).tmps (Act.mk r'.tmps []).defers := by
      refine ⟨h3.size, rfl, h3.le, fun t => ?_, .nil⟩
      simp only [getT, blt_eq]
      by_cases ht : t < r.vars.length
      · rw [decide_eq_true ht, cond_true, nth_eq]
        have := h3.var t r.vars[t] (List.getElem?_eq_getElem ht)
        rw [List.getElem?_eq_getElem ht]
        exact this
      · rw [decide_eq_false ht, cond_false]
        exact .unk _
    obtain ⟨ha1, ha2, ha3⟩ := setParams_ok _ _ _ _ _ (Act.mk r'.tmps []) hp ha ha0
    have hsz : (⟨as'⟩ : Array Value).size = r'.params.size := by rw [h4]; simpa using ha3.symm
    rw [run_yield hw hsz]
    intro n
    refine roundIn_of_wpIn (F := Fence.wide) trivial ?_
    obtain ⟨l1, e1, k1⟩ := bindM_some hv
    have hT : (r'.params.zip ⟨as'⟩).foldl (fun tmps (x : Tmp × Value) => tmps.setIfInBounds x.1 x.2) r'.tmps = (r.params.toList.zip as').foldl (fun tmps (x : Tmp × Value) => tmps.setIfInBounds x.1 x.2) r'.tmps := by
      rw [h4, ← Array.foldl_toList, Array.toList_zip]
    rw [h5, h6]
    have hA := fo.code r.assign st h l1 e1 ρ ⟨(r.params.toList.zip as').foldl (fun tmps (x : Tmp × Value) => tmps.setIfInBounds x.1 x.2) r'.tmps, []⟩ w (some (ρ l).b) n hr ha1 (by rw [ha2]; exact ⟨hl, rfl⟩)
    show Code.wpIn (W (some (ρ l).b)) n E.P r.assign _ { tmps := (r'.params.zip ⟨as'⟩).foldl (fun tmps (x : Tmp × Value) => tmps.setIfInBounds x.1 x.2) r'.tmps, defers := [] } w
    rw [hT]
    refine wpIn_mono hA ?_
    rintro e a1 w1 ⟨o, ρ1, m1, c1, c2, c3, c4⟩
    obtain ⟨os, e2, k2⟩ := k1 o m1
    have hs1 : ρ1 l = ρ l := c2.ren.same l hl
    cases hj : o.j <;> simp only [hj] at e2 <;> try cases e2
    rw [hj] at c1
    subst c1
    split at e2
    case h_2 => cases e2
    rename_i hq r2 e3 hb2
    clear hq e3
    cases hrd : isReady r2.state with
    | false => rw [hrd] at e2; cases e2
    | true =>
      rw [hrd] at e2
      simp only [cond_true] at e2
      have hrd' : r2.state = .ready := by cases hss : r2.state <;> rw [hss] at hrd <;> first | rfl | cases hrd
      obtain ⟨r2', hw2, hx2⟩ := loop_R c2.hr hb2
      have g2 := loop_put c2.hr hb2 hx2 hw2 .busy r2.pending
      have hst : r2'.state = .ready := by rw [(loop_inv hx2).1, hrd']
      have hpd : r2'.pending = r2.pending := (loop_inv hx2).2.1
      obtain ⟨l3, e4, k3⟩ := bindM_some e2
      refine ⟨w1.putObj (ρ1 l).b (.loop { r2' with state := .busy, pending := r2.pending }), ?_, ?_⟩
      · rw [← hs1, run_beginRound hw2 hst, ← hpd]
      · have hB := fo.code r.body o.st (o.h.set l (.loop { r2 with state := .busy })) l3 e4 ρ1 a1 _ (some (ρ l).b) n g2.hr (c3.ren g2.ren) (c4.ren g2.ren)
        refine wpIn_mono hB ?_
        rintro e a3 w3 ⟨o2, ρ2, m3, d1, d2, d3, d4⟩
        obtain ⟨os2, e5, k4⟩ := k3 o2 m3
        have hs2 : ρ2 l = ρ l := (d2.ren.same l (Nat.lt_of_lt_of_le hl c2.ren.le)).trans hs1
        split at e5
        case h_2 => cases e5
        rename_i hq r3 e6 hb3
        obtain ⟨r3', hw3, hx3⟩ := loop_R d2.hr hb3
        have tot := c2.trans E (g2.trans E d2)
        have fin : ∀ (j : Option Code) (os2 : List (SV × Heap)), (∀ y, y ∈ os2 → y ∈ outs) → (Value.bool j.isNone |> fun v => (SV.val v, o2.h.set l (.loop { r3 with state := (if j.isNone then LoopState.ready else .done), pending := j })) ∈ os2) → ∃ v w', (Instr.endRound (ρ l).b j).run E.P w3 = .ok v w' ∧ RetR E outs ρ h w (.returned v) w' := fun j os2 hsub hm => by
          have g3 := loop_put d2.hr hb3 hx3 hw3 (if j.isNone then LoopState.ready else .done) j
          refine ⟨.bool j.isNone, w3.putObj (ρ2 l).b (.loop { r3' with state := if j.isNone then .ready else .done, pending := j }), ?_, ?_⟩
          · rw [← hs2, run_endRound j hw3]
          · exact ⟨_, _, _, ρ2, hsub _ hm, rfl, .val _, tot.trans E g3⟩
        have hsub : ∀ y, y ∈ os2 → y ∈ outs := fun y hy => k2 _ (k4 _ hy)
        cases hj2 : o2.j <;> rw [hj2] at d1 e5 <;> subst d1 <;> simp only [jumpCode, Option.some.injEq] at e5 <;> subst e5
        · exact fin none _ hsub (by simp)
        · exact fin (some _) _ hsub (by simp)
        · exact fin (some _) _ hsub (by simp)
        · exact fin (some _) _ hsub (by simp)
end
end Go.Ev
