/- Regions whose order is drawn; the whole: a run on what is known tells of each run. -/
import Derived.Test.YtgoiaciamgailaaGreatDoorRRRREvD5
namespace Go.Ev
set_option linter.unusedVariables false
set_option linter.unusedSimpArgs false
set_option linter.unusedSectionVars false
set_option linter.unnecessarySimpa false

theorem binds_any (e : Edge) : Region.binds .any e = bindsE e := by
  unfold Region.binds bindsE
  cases e.ground <;> rfl
theorem count_set (l : List Bool) : ∀ (i : Nat), l[i]? = some false → (l.set i true).count false + 1 = l.count false := by
  induction l with
  | nil => intro i h; simp at h
  | cons x l ih =>
    intro i h
    cases i with
    | zero =>
      simp only [List.getElem?_cons_zero, Option.some.injEq] at h
      subst h
      simp
    | succ i =>
      have := ih i (by simpa using h)
      simp only [List.set_cons_succ, List.count_cons]
      omega
theorem ready_mem {ops : Array Oper} {listed : Array Bool} {i : Nat} : i ∈ Region.ready .any ops listed ↔ i < ops.size ∧ listed.getD i true = false ∧ ∃ o, ops[i]? = some o ∧ ∀ e, e ∈ o.after.toList → bindsE e = true → listed.getD e.on false = true := by
  unfold Region.ready
  rw [List.mem_filter, List.mem_range]
  constructor
  · rintro ⟨h1, h2⟩
    rw [Bool.and_eq_true, Bool.not_eq_true'] at h2
    refine ⟨h1, h2.1, ?_⟩
    cases ho : ops[i]? with
    | none => rw [ho] at h2; simp at h2
    | some o =>
      rw [ho] at h2
      refine ⟨o, rfl, fun e he hb => ?_⟩
      have h3 := h2.2
      simp only [Option.map_some, Option.getD_some, Array.all_eq_true_iff_forall_mem] at h3
      have := h3 e (by simpa using he)
      rw [binds_any, hb] at this
      simpa using this
  · rintro ⟨h1, h2, o, ho, h3⟩
    refine ⟨h1, ?_⟩
    rw [h2, ho]
    simp only [Bool.not_false, Bool.true_and, Option.map_some, Option.getD_some, Array.all_eq_true_iff_forall_mem]
    intro e he
    rw [binds_any]
    cases hb : bindsE e with
    | false => rfl
    | true => simpa using h3 e (by simpa using he) hb
/-- All is listed, where nothing is ready. -/
theorem all_listed {ms : Tr Nat} {ops : Array Oper} (m : MsOk ms ops) {listed : Array Bool} (hs : listed.size = ops.size) (hr : Region.ready .any ops listed = []) : ∀ i, i < ops.size → listed.getD i false = true := by
  intro i
  induction i using Nat.strongRecOn with
  | _ i ih =>
    intro hi
    have hl : i < listed.size := by omega
    cases hb : listed.getD i false with
    | true => rfl
    | false =>
      exfalso
      have ho : ops[i]? = some ops[i] := Array.getElem?_eq_getElem hi
      have hm : i ∈ Region.ready .any ops listed := ready_mem.2 ⟨hi, by
        simp only [Array.getD_eq_getD_getElem?, Array.getElem?_eq_getElem hl, Option.getD_some] at hb ⊢
        exact hb, _, ho, fun e he hbe => ih e.on (m.low i _ ho e he hbe) (by have := m.low i _ ho e he hbe; omega)⟩
      rw [hr] at hm
      cases hm

section
variable {E : Env} {fs : Fns} {ops : Array Oper} {ms : Tr Nat} {st0 : St} {ρ0 : Rho} {h0 : Heap} {w0 : World} (ok : ProgOk E) (fo : FnsOk E fs) (ssa : Ssa ms ops st0.n)
include ok fo ssa
theorem orders_ok {rd : Option Nat} {n : Nat} {Q : Exit → Act → World → Prop} {all : List Rg}
    (hQ : ∀ r ρ a w, r ∈ all → AR ρ r.h.next r.st a.tmps a.defers → Go E ρ0 h0 w0 ρ r.h w → r.st.round = st0.round → Q .normal a w) :
    ∀ (fuel t : Nat) (listed : Array Bool) (f : Nat) (r : Rg) (ρ : Rho) (a : Act) (w : World) (outs : List Rg), listed.size = ops.size → listed.toList.count false ≤ fuel → Inv E ops ms st0 ρ0 h0 w0 r (fun i => listed.getD i false) ρ a w → imps E fs ops.toList ms f r = some outs → (∀ x, x ∈ outs → x ∈ all) →
      wpOpsIn (W rd) n E.P ops Q (Region.linearise.go .any ops fuel t listed []) a w := by
  have fin : ∀ (listed : Array Bool) (f : Nat) (r : Rg) (ρ : Rho) (a : Act) (w : World) (outs : List Rg), (∀ i, i < ops.size → listed.getD i false = true) → Inv E ops ms st0 ρ0 h0 w0 r (fun i => listed.getD i false) ρ a w → imps E fs ops.toList ms f r = some outs → (∀ x, x ∈ outs → x ∈ all) → Q .normal a w := fun listed f r ρ a w outs hall inv hv hsub => by
    obtain ⟨h1, h2⟩ := inv.last ok fo ssa hv hall
    exact hQ r ρ a w (hsub _ h1) h2 inv.go inv.pre.round
  intro fuel
  induction fuel with
  | zero =>
    intro t listed f r ρ a w outs hs hc inv hv hsub
    refine fin listed f r ρ a w outs (fun i hi => ?_) inv hv hsub
    have hl : i < listed.size := by omega
    have h1 : false ∉ listed.toList := by
      rw [← List.count_eq_zero]; omega
    cases hb : listed.getD i false with
    | true => rfl
    | false =>
      exfalso
      apply h1
      rw [Array.getD_eq_getD_getElem?, Array.getElem?_eq_getElem hl, Option.getD_some] at hb
      rw [← hb]
      simp
  | succ fuel ih =>
    intro t listed f r ρ a w outs hs hc inv hv hsub
    simp only [Region.linearise.go]
    change wpOpsIn (W rd) n E.P ops Q (match (Region.ready .any ops listed)[t % (Region.ready .any ops listed).length]? with
      | some i => Region.linearise.go .any ops fuel (t / (Region.ready .any ops listed).length) (listed.setIfInBounds i true) [i]
      | none => [].reverse) a w
    cases hi : (Region.ready .any ops listed)[t % (Region.ready .any ops listed).length]? with
    | none =>
      have hnil : Region.ready .any ops listed = [] := by
        cases hr : Region.ready .any ops listed with
        | nil => rfl
        | cons x xs =>
          rw [hr] at hi
          have hlt : t % (x :: xs).length < (x :: xs).length := Nat.mod_lt _ (by simp)
          simp at hi
          simp at hlt
          omega
      exact fin listed f r ρ a w outs (all_listed ssa.m hs hnil) inv hv hsub
    | some i =>
      simp only []
      rw [linearise_go_acc, List.reverse_singleton, List.singleton_append]
      obtain ⟨hlt, hnl, o, ho, hedges⟩ := ready_mem.1 (List.mem_of_getElem? hi)
      have hl : i < listed.size := by omega
      have hnd : listed.getD i false = false := by
        simp only [Array.getD_eq_getD_getElem?, Array.getElem?_eq_getElem hl, Option.getD_some] at hnl ⊢
        exact hnl
      have hm : ∀ j, (mkOf ms i).testBit j = true → listed.getD j false = true := fun j hj => by
        obtain ⟨e, he, hb, h | h⟩ := ssa.m.cl i o ho j hj
        · rw [h]; exact hedges e he hb
        · exact inv.dcl e.on (hedges e he hb) j h
      show match ops[i]? with
        | none => _
        | some o => _
      rw [ho]
      refine inv.step ok fo ssa hv ho hnd hm (next := wpOpsIn (W rd) n E.P ops Q (Region.linearise.go .any ops fuel (t / (Region.ready .any ops listed).length) (listed.setIfInBounds i true) [])) ?_
      intro f' r' ρ' a' w' outs' inv' hv' hsub'
      refine ih _ (listed.setIfInBounds i true) f' r' ρ' a' w' outs' (by simp [hs]) ?_ ?_ hv' fun x hx => hsub x (hsub' x hx)
      · have := count_set listed.toList i (by
          rw [Array.getD_eq_getD_getElem?, Array.getElem?_eq_getElem hl, Option.getD_some] at hnd
          rw [Array.getElem?_toList, Array.getElem?_eq_getElem hl, hnd])
        rw [Array.toList_setIfInBounds]
        omega
      · have e : (fun k => (listed.setIfInBounds i true).getD k false) = fun k => listed.getD k false || decide (k = i) := by
          funext k
          simp only [Array.getD_eq_getD_getElem?, Array.getElem?_setIfInBounds]
          by_cases e : i = k
          · subst e; simp [hl]
          · have : ¬ k = i := fun h => e h.symm
            simp [e, this]
        rw [e]
        exact inv'
end
/-- The program draws its orders as the language allows. -/
structure ProgOk2 (E : Env) : Prop extends ProgOk E where
  mixed : E.P.follows .mixedOrders = true
theorem drawn_ok {E : Env} (ok : ProgOk2 E) {fs : Fns} (fo : FnsOk E fs) : DrawnOk E fs := fun id ops st h l hv ρ a w r n hr ha => by
  unfold drawn at hv
  cases hs : ssaOk ops.toList st.n with
  | false => rw [hs] at hv; cases hv
  | true =>
    rw [hs] at hv
    simp only [cond_true] at hv
    have ssa := Ssa.of hs
    cases has : asap E ops.toList (masks ops.toList 0 .e) ops.toList 0 ⟨0, st, h, []⟩ with
    | none => rw [has] at hv; cases hv
    | some r0 =>
      rw [has] at hv
      simp only at hv
      obtain ⟨outs, e1, k1⟩ := bindM_some hv
      refine wpIn_region_draw fun t => ?_
      have hsch : Region.schedule (E.P.follows .mixedOrders) ops t = Region.linearise .any ops t := by
        simp only [Region.schedule, ok.mixed, Bool.true_or, if_true]
      rw [hsch]
      have hr' : HR E ρ h { w with drawn := w.drawn + 1 } := hr.heap E rfl
      have g0 : Go E ρ h w ρ h { w with drawn := w.drawn + 1 } := Go.heap E hr rfl
      have p0 : Pre E ops (masks ops.toList 0 .e) st ⟨0, st, h, []⟩ := ⟨fun i hi => by simp at hi, rfl, rfl, rfl, ha.len, ha.le, fun _ _ => rfl, fun p hp => by cases hp⟩
      obtain ⟨p1, A⟩ := asap_ok ssa ops.toList 0 rfl _ r0 p0 has
      have hz : ∀ i, (0 : Nat).testBit i = false := fun i => by simp
      have inv0 : Inv E ops (masks ops.toList 0 .e) st ρ h { w with drawn := w.drawn + 1 } r0 (fun i => (Array.replicate ops.size false).getD i false) ρ a { w with drawn := w.drawn + 1 } := by
        have hf : ∀ i, (Array.replicate ops.size false).getD i false = false := fun i => by
          rw [Array.getD_eq_getD_getElem?, Array.getElem?_replicate]; split <;> rfl
        have hh : r0.h = h := A.h
        refine ⟨p1, fun i o hi hq hm => A.full i o (Nat.zero_le _) hi hq hm, fun i hi => (by rw [hf] at hi; cases hi), fun i hi => (by rw [hf] at hi; cases hi), fun i o hi hq hd => ?_, fun i o hi hq hd _ => ?_, (by rw [hh]; exact Go.refl E hr'), ha.size, fun t j hj hd => (by rw [hf] at hd; cases hd), fun t _ => (by rw [hh]; exact ha.get t), (by rw [hh]; exact ha.defs)⟩
        · obtain ⟨_, ⟨o2, b1, b2⟩, _⟩ := A.only i hd (hz i)
          rw [hi] at b1; cases b1
          rw [hq] at b2; cases b2
        · obtain ⟨_, _, p, hp, hpk⟩ := A.only i hd (hz i)
          exact ⟨p, hp, hpk⟩
      refine orders_ok ok.toProgOk fo ssa (all := outs) (fun r' ρ' a' w' hm hA hG hrd => ?_) ops.size t (Array.replicate ops.size false) _ r0 ρ a _ outs (by simp) (by simp) inv0 e1 fun x hx => hx
      obtain ⟨os, e2, k2⟩ := k1 r' hm
      cases e2
      exact ⟨_, _, ρ', k2 _ (.head _), rfl, g0.trans E hG, hA, hrd⟩
/-- The whole. -/
theorem ev_sound {E : Env} (ok : ProgOk2 E) {ext : Tr (List SV → Heap → Option (List (SV × Heap)))} (he : ExtOk E ext) {lf n : Nat} : FnsOk E (ev E ext lf n) :=
  ev_ok ok.toProgOk he (fun fs fo => drawn_ok ok fo) n
end Go.Ev
