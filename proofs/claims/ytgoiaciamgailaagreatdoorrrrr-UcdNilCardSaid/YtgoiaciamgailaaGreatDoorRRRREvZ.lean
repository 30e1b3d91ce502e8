/- A function without parameters, run on nothing known: what is told of each run. -/
import Derived.Test.YtgoiaciamgailaaGreatDoorRRRREvD6
import Derived.Below
namespace Go.Ev
open Go.RowKit
set_option linter.unusedVariables false
set_option linter.unusedSimpArgs false

theorem tab_get {α : Type} (a : Array α) (i : Nat) (x : α) (h : (tabOf a).get i = some x) : a[i]? = some x := by
  unfold tabOf at h
  rw [Tr.get_puts] at h
  split at h
  · simpa using h
  · rw [Tr.get_e] at h; cases h
/-- No function has that name. -/
def noNG (P : Program) : Bool := P.funcs.toList.all fun fn => !(fn.name == "runtime.NumGoroutine")
theorem envOk {P : Program} {cuts : List Nat} {globs : Tr Value} (hn : noNG P = true) (hm : P.follows .mixedOrders = true) : ProgOk2 (envOf P cuts globs) := by
  refine { tt := fun t i h => ?_, ft := fun f fn h => tab_get _ _ _ h, ng := fun f fn h => ?_, mixed := hm }
  · have h1 : P.types[t]? = some i := tab_get _ _ _ h
    have hlt : t < P.types.size := (Array.getElem?_eq_some_iff.1 h1).1
    show P.toTables.info? t = some i
    unfold Tables.info?
    rw [if_pos hlt]
    exact h1
  · have h1 : P.funcs[f]? = some fn := tab_get _ _ _ h
    unfold noNG at hn
    rw [List.all_eq_true] at hn
    have := hn fn (by
      have := List.mem_of_getElem? (l := P.funcs.toList) (i := f) (a := fn) (by simpa using h1)
      exact this)
    simpa using this
def isTrue : SV → Bool
  | .val (.bool b) => b
  | _ => false
def allTrue : List (SV × Heap) → Bool
  | [] => true
  | x :: l => bif isTrue x.1 then allTrue l else false
def good (r : Option (List (SV × Heap))) : Bool :=
  match r with
  | some l => allTrue l
  | none => false
theorem allTrue_mem : ∀ {l : List (SV × Heap)}, allTrue l = true → ∀ x, x ∈ l → x.1 = .val (.bool true)
  | [], _, x, h => by cases h
  | y :: l, h, x, hx => by
    unfold allTrue at h
    cases hy : isTrue y.1 with
    | false => rw [hy] at h; cases h
    | true =>
      rw [hy] at h
      rcases List.mem_cons.1 hx with rfl | hx
      · unfold isTrue at hy
        split at hy
        · rename_i b he; rw [he, hy]
        · cases hy
      · exact allTrue_mem h x hx
def GlobsOk (globs : Tr Value) (w : World) : Prop := ∀ g v, globs.get g = some v → ∃ cs t fr, w.heap[g]? = some (Obj.cells cs t fr) ∧ cs[0]? = some v
theorem start_HR (E : Env) (ρ : Rho) (n : Nat) (w : World) (hg : GlobsOk E.globs w) : HR E ρ ⟨.e, n⟩ w :=
  ⟨fun b c x y h => (by rw [Tr.get_e] at h; cases h), fun b x h => (by rw [Tr.get_e] at h; cases h), fun b x h => (by rw [Tr.get_e] at h; cases h), hg, fun b x h => (by rw [Tr.get_e] at h; cases h)⟩
theorem Go.below {E : Env} {ρ ρ' : Rho} {h' : Heap} {n : Nat} {w w' : World} (g : Go E ρ ⟨.e, n⟩ w ρ' h' w') : Below w.heap.size w w' :=
  ⟨g.side.os, g.side.tape, g.side.output, g.size, fun k hk => g.keep k hk fun ⟨b, x, hb, _⟩ => by rw [Tr.get_e] at hb; cases hb⟩
/-- What a function without parameters answers: true, and nothing that was there changes. -/
theorem calls_true {P : Program} {cuts : List Nat} {globs : Tr Value} (hn : noNG P = true) (hm : P.follows .mixedOrders = true) {ext : Tr (List SV → Heap → Option (List (SV × Heap)))} (he : ExtOk (envOf P cuts globs) ext) {f : FuncId} {fn : Func} {c : Code} (hf : P.funcs[f]? = some fn) (hname : (fn.name == "runtime.NumGoroutine") = false) (hb : fn.body = some c) {lf n k : Nat}
    (hg : good ((ev (envOf P cuts globs) ext lf n).call f [] ⟨.e, k⟩) = true) (w : World) (hw : GlobsOk globs w) : Calls P f #[] w fun e w' => e = .returned (.bool true) ∧ Below w.heap.size w w' := by
  have fo := ev_sound (lf := lf) (n := n) (envOk (cuts := cuts) (globs := globs) hn hm) he
  cases hr : (ev (envOf P cuts globs) ext lf n).call f [] ⟨.e, k⟩ with
  | none => rw [hr] at hg; cases hg
  | some outs =>
    rw [hr] at hg
    have h1 := fo.call f [] ⟨.e, k⟩ outs hr (fun _ => ⟨0, 0, 0, 0⟩) w [] (start_HR _ _ _ _ hw) .nil
    have h2 : (callFunc f (⟨[]⟩ : Array Value)).run P w = .ok (.enter f ⟨[]⟩) w := MuLone.run_callFunc_enter hf hname hb _ _
    have h3 : NextR (envOf P cuts globs) outs (fun _ => ⟨0, 0, 0, 0⟩) ⟨.e, k⟩ w ((callFunc f (⟨[]⟩ : Array Value)).run P w) := h1
    rw [h2] at h3
    have h4 : Calls P f #[] w (RetR (envOf P cuts globs) outs (fun _ => ⟨0, 0, 0, 0⟩) ⟨.e, k⟩ w) := h3
    intro cs
    obtain ⟨e, w', fr, ⟨v, h', v', ρ', m, b, cc, d⟩, x⟩ := h4 cs
    refine ⟨e, w', fr, ⟨?_, d.below⟩, x⟩
    have := allTrue_mem hg _ m
    simp only at this
    rw [this] at cc
    cases cc
    exact b
end Go.Ev
