/- What runs on what is known: lists of outcomes, calls, operations in a row. -/
import Derived.Test.YtgoiaciamgailaaGreatDoorRRRREvO9
import Derived.Test.YtgoiaciamgailaaGreatDoorRRRREvB
import Derived.RangeFuncRecord
import Derived.LoopNIn
import Derived.Conc.MuLone
namespace Go.Ev
set_option linter.unusedVariables false
set_option linter.unusedSimpArgs false
set_option linter.unusedSectionVars false
set_option linter.unnecessarySimpa false

/-! ### Outcomes -/
theorem andThen_nil {α β : Type} (f : α → Option (List β)) : andThen f [] = some [] := rfl
theorem andThen_one {α β : Type} (f : α → Option (List β)) (x : α) : andThen f [x] = f x := rfl
theorem andThen_cons {α β : Type} (f : α → Option (List β)) (x y : α) (l : List α) : andThen f (x :: y :: l) = (match f x with | none => none | some a => match andThen f (y :: l) with | none => none | some b => some (a ++ b)) := by
  have e : andThen f (x :: y :: l) = (Option.casesOn (motive := fun _ => Option (List β)) (f x) none (fun a => Option.casesOn (motive := fun _ => Option (List β)) (andThen f (y :: l)) none (fun b => some (a ++ b)))) := rfl
  rw [e]
  cases f x
  · rfl
  · cases andThen f (y :: l) <;> rfl
theorem andThen_some {α β : Type} {f : α → Option (List β)} : ∀ {l : List α} {r : List β}, andThen f l = some r → ∀ x, x ∈ l → ∃ os, f x = some os ∧ ∀ y, y ∈ os → y ∈ r
  | [], _, _, _, hx => by cases hx
  | [x], r, h, y, hy => by
    rw [andThen_one] at h
    cases List.mem_singleton.1 hy
    exact ⟨r, h, fun _ h => h⟩
  | x :: y :: l, r, h, z, hz => by
    rw [andThen_cons] at h
    cases h1 : f x with
    | none => rw [h1] at h; cases h
    | some a =>
      rw [h1] at h
      cases h2 : andThen f (y :: l) with
      | none => rw [h2] at h; cases h
      | some b =>
        rw [h2] at h
        cases h
        rcases List.mem_cons.1 hz with e | hz
        · subst e; exact ⟨a, h1, fun _ h => List.mem_append_left _ h⟩
        · obtain ⟨os, h3, h4⟩ := andThen_some h2 z hz
          exact ⟨os, h3, fun _ h => List.mem_append_right _ (h4 _ h)⟩
theorem bindM_some {α β : Type} {m : Option (List α)} {f : α → Option (List β)} {r : List β} (h : bindM m f = some r) : ∃ l, m = some l ∧ ∀ x, x ∈ l → ∃ os, f x = some os ∧ ∀ y, y ∈ os → y ∈ r := by
  cases m with
  | none => cases h
  | some l => exact ⟨l, rfl, andThen_some h⟩

def W (r : Option Nat) : Fence := { Fence.wide with round := r }
theorem W_none : W none = Fence.wide := rfl
theorem W_in (r : Option Nat) (l : Nat) : (W r).inRound l = W (some l) := rfl
theorem W_room (r : Option Nat) (n : Nat) : (W r).room n := fun _ h => by simp [W, Fence.wide] at h
theorem W_depth (r : Option Nat) (n : Nat) : (W r).depth.isSome = true → 1 ≤ n := fun h => by simp [W, Fence.wide] at h

def exitOf : Jump → Exit
  | .normal => .normal
  | .exit id => .exit id
  | .goto l => .goto l
  | .ret => .ret

section
variable (E : Env)
/-- What a call's end is. -/
def RetR (outs : List (SV × Heap)) (ρ : Rho) (h : Heap) (w : World) : Ending → World → Prop := fun e w' =>
  ∃ v h' v' ρ', (v, h') ∈ outs ∧ e = .returned v' ∧ VR ρ' h'.next v v' ∧ Go E ρ h w ρ' h' w'
/-- What a call comes to. -/
def NextR (outs : List (SV × Heap)) (ρ : Rho) (h : Heap) (w : World) : Result Next → Prop
  | .ok (.value v') w' => ∃ v h' ρ', (v, h') ∈ outs ∧ VR ρ' h'.next v v' ∧ Go E ρ h w ρ' h' w'
  | .ok .skip w' => ∃ v h' ρ', (v, h') ∈ outs ∧ VR ρ' h'.next v undef ∧ Go E ρ h w ρ' h' w'
  | .ok (.enter f args) w' => Calls E.P f args w' (RetR E outs ρ h w)
  | .ok (.round l f tmps assign body) w' => ∀ n, RoundIn Fence.wide n E.P l f tmps assign body w' (RetR E outs ρ h w)
  | _ => False
def CallOk (call : FuncId → List SV → Heap → Option (List (SV × Heap))) : Prop :=
  ∀ f args h outs, call f args h = some outs → ∀ ρ w args', HR E ρ h w → VRs ρ h.next args args' → NextR E outs ρ h w ((callFunc f ⟨args'⟩).run E.P w)
/-- What the end of some code is. -/
def OutR (outs : List Out) (ρ : Rho) (h : Heap) (w : World) (r : Option Nat) : Exit → Act → World → Prop := fun e a' w' =>
  ∃ o ρ', o ∈ outs ∧ e = exitOf o.j ∧ Go E ρ h w ρ' o.h w' ∧ AR ρ' o.h.next o.st a'.tmps a'.defers ∧ RoundR ρ' o.h.next o.st.round r
def COk (c : Code) (g : St → Heap → Option (List Out)) : Prop :=
  ∀ st h outs, g st h = some outs → ∀ ρ a w r n, HR E ρ h w → AR ρ h.next st a.tmps a.defers → RoundR ρ h.next st.round r → c.wpIn (W r) n E.P (OutR E outs ρ h w r) a w
theorem OutR.lift {E : Env} {os outs : List Out} {ρ ρ' : Rho} {h h' : Heap} {w w' : World} {r : Option Nat} (hs : ∀ x, x ∈ os → x ∈ outs) (hg : Go E ρ h w ρ' h' w') {e : Exit} {a : Act} {w'' : World} (ho : OutR E os ρ' h' w' r e a w'') : OutR E outs ρ h w r e a w'' := by
  obtain ⟨o, ρ'', h1, h2, h3, h4, h5⟩ := ho
  exact ⟨o, ρ'', hs _ h1, h2, hg.trans E h3, h4, h5⟩
theorem NextR.lift {E : Env} {os outs : List (SV × Heap)} {ρ ρ' : Rho} {h h' : Heap} {w w' : World} (hs : ∀ x, x ∈ os → x ∈ outs) (hg : Go E ρ h w ρ' h' w') {R : Result Next} (ho : NextR E os ρ' h' w' R) : NextR E outs ρ h w R := by
  have key : ∀ e w'', RetR E os ρ' h' w' e w'' → RetR E outs ρ h w e w'' := fun e w'' ⟨v, h1, v', ρ1, a, b, c, d⟩ => ⟨v, h1, v', ρ1, hs _ a, b, c, hg.trans E d⟩
  match R, ho with
  | .ok (.value v') w'', ⟨v, h1, ρ1, a, b, c⟩ => exact ⟨v, h1, ρ1, hs _ a, b, hg.trans E c⟩
  | .ok .skip w'', ⟨v, h1, ρ1, a, b, c⟩ => exact ⟨v, h1, ρ1, hs _ a, b, hg.trans E c⟩
  | .ok (.enter f args) w'', ho => exact fun cs => let ⟨e, w3, fr, a, b⟩ := ho cs; ⟨e, w3, fr, key _ _ a, b⟩
  | .ok (.round l f tmps assign body) w'', ho => exact fun n => (ho n).mono key
end

section
variable {E : Env}
/-- A step of an operation: what comes of it. -/
theorem upon_next {outs : List (SV × Heap)} {ρ : Rho} {h : Heap} {w : World} {r : Option Nat} {n : Nat} {o : Oper} {a : Act} {next : Act → World → Prop} {Q : Exit → Act → World → Prop} {R : Result Next}
    (hR : NextR E outs ρ h w R) (hn : ∀ v h' v' ρ' w', (v, h') ∈ outs → VR ρ' h'.next v v' → Go E ρ h w ρ' h' w' → next (a.put o.dst v') w') : o.uponIn (W r) n E.P a next Q R := by
  match R, hR with
  | .ok (.value v') w', ⟨v, h', ρ', a1, b, c⟩ => exact hn v h' v' ρ' w' a1 b c
  | .ok .skip w', ⟨v, h', ρ', a1, b, c⟩ => exact hn v h' undef ρ' w' a1 b c
  | .ok (.enter f args) w', hR =>
    refine ⟨W_depth r n, (callsIn_wide (n := n - 1)).2 ?_⟩
    exact fun cs => let ⟨e, w3, fr, ⟨v, h1, v', ρ1, a1, b, c, d⟩, x⟩ := hR cs; ⟨e, w3, fr, by subst b; exact hn v h1 v' ρ1 w3 a1 c d, x⟩
  | .ok (.round l f tmps assign body) w', hR =>
    refine ⟨W_depth r n, ?_⟩
    refine RoundIn.mono (F := W r) (R := RetR E outs ρ h w) (hR (n - 1)) ?_
    rintro e w3 ⟨v, h1, v', ρ1, a1, b, c, d⟩
    subst b
    exact hn v h1 v' ρ1 w3 a1 c d
end
end Go.Ev
