/- A range over a function, whose body may write below what the function reads, and is told that what it is handed is new. -/
import Derived.Test.YtiakfdfpikheaaaRange
import Derived.RangeFuncNested
namespace Go.Proofs.Ytiakfdfpikheaaa
open Go.RowKit
set_option linter.unusedVariables false
set_option linter.unusedSimpArgs false

/-- What a body keeps of the world, as the function that is ranged over needs it. -/
structure KeepRel (KR : World → World → Prop) : Prop where
  trans : ∀ {A B C : World}, KR A B → KR B C → KR A C
  swap : ∀ {A B : World} {l : Nat} {o o' : Obj}, A.heap[l]? = some o → o.isCells = false → KR (A.putObj l o') B → B.heap[l]? = some o' → o'.isCells = false → KR A (B.putObj l o)
theorem others_swap {A B : World} {l : Nat} {o o' : Obj} (hl : A.heap[l]? = some o) (h : KeepsOthers (A.putObj l o') B) (hl3 : B.heap[l]? = some o') : KeepsOthers A (B.putObj l o) := by
  have hlt3 := (Array.getElem?_eq_some_iff.1 hl3).1
  refine ⟨?_, fun k x hk hx => ?_⟩
  · have := h.size
    simp at this ⊢
    omega
  · by_cases e : k = l
    · subst e
      rw [hl] at hk
      cases hk
      exact World.putObj_heap_same hlt3
    · have h1 : (A.putObj l o').heap[k]? = some x := (World.putObj_heap_other e).trans hk
      exact (World.putObj_heap_other e).trans (h.same k x h1 hx)

/-- THE CONTRACT of a function that is ranged over. -/
def SeqF {α : Type} (pv : TypeId → Bool) (KR : World → World → Prop) (F : α → World → Prop) (n : Nat) (g : Nat) (lb : Array Value) (encs : α → Array Value) (G : α → World → Prop) (S Sp : List α → Prop) (w : World) : Prop :=
  ∀ (l : Nat) (J Jx : List α → World → Prop) (W : World), Below w.heap.size w W → l < W.heap.size → Stays pv W.heap.size J → Stays pv W.heap.size Jx →
    (∀ pre x W1, J pre W1 → G x W1 → Sp (pre ++ [x]) → (∃ W0, J pre W0 ∧ F x W0 ∧ Below W0.heap.size W0 W1) → YieldAt Fence.wide (n - 1) Try.prog l (encs x) W1 fun e W' =>
      (e = .returned (.bool true) ∧ J (pre ++ [x]) W' ∧ KR W1 W' ∧ KeepsOthers W1 W') ∨ (e = .returned (.bool false) ∧ Jx (pre ++ [x]) W' ∧ KeepsFrom (l + 1) W1 W')) →
    J [] W →
    CallsIn Fence.wide n Try.prog g (#[.func (.yield l) #[] #[]] ++ lb) W fun e W' => (∃ v, e = .returned v) ∧ ((∃ xs, S xs ∧ J xs W') ∨ (∃ pre, Sp pre ∧ Jx pre W'))

/-- How the body of a round may be left. -/
def bodyF {α : Type} (B : Nat) (KR : World → World → Prop) (I : List α → World → Prop) (Ix : Code → List α → World → Prop) (xs : List α) (W : World) : Exit → Act → World → Prop
  | .normal, _, W' => KR W W' ∧ KeepsOthers W W' ∧ I xs W'
  | .ret, _, W' => KeepsFrom B W W' ∧ Ix .ret xs W'
  | .exit id, _, W' => KeepsFrom B W W' ∧ Ix (.exit id) xs W'
  | .goto t, _, W' => KeepsFrom B W W' ∧ Ix (.goto t) xs W'
  | _, _, _ => False

theorem range_F {α : Type} {pv : TypeId → Bool} {KR : World → World → Prop} (hKR : KeepRel KR) {F : α → World → Prop} {n : Nat} {g : Operand} {ps : Array Tmp} {assign body : Code} {Q : Exit → Act → World → Prop} {a : Act} {w : World}
    (h1 : 1 ≤ n) {gf : Nat} {lb : Array Value} (hg : a.eval g = .func (.func gf) #[] lb) (eg : ∀ args w, (callFunc gf args).run Try.prog w = .ok (.enter gf args) w)
    {encs : α → Array Value} {G : α → World → Prop} {S Sp : List α → Prop} {w0 : World} (hseq : SeqF pv KR F (n - 1) gf lb encs G S Sp w0)
    (hb0 : Below w0.heap.size w0 w) (hps : ∀ x, (encs x).size = ps.size)
    (I : List α → World → Prop) (Ix : Code → List α → World → Prop) (hI : Stays pv w.heap.size I) (hIx : ∀ c, Stays pv w.heap.size (Ix c)) (h0 : I [] w) (Ax : α → Act → World → Prop) (hAx : ∀ x a', Stays pv w.heap.size (fun (_ : Unit) W => Ax x a' W))
    (hassign : ∀ (l : Nat) (pre : List α) (x : α) (W : World) (K : Act → World → Prop), I pre W → G x W → (∃ W0, I pre W0 ∧ F x W0 ∧ Below W0.heap.size W0 W) → (∀ a' W', KR W W' → KeepsOthers W W' → I pre W' → Ax x a' W' → K a' W') →
      assign.wpIn (Fence.wide.inRound l) (n - 1 - 1) Try.prog (Exit.then K (fun _ _ _ => False)) { tmps := (ps.zip (encs x)).foldl (fun t (p, v) => t.setIfInBounds p v) a.tmps, defers := [] } W)
    (hbody : ∀ (l : Nat) (pre : List α) (x : α) (a' : Act) (W : World), w.heap.size ≤ l → (∃ r, W.heap[l]? = some (.loop r)) → I pre W → Ax x a' W → Sp (pre ++ [x]) → body.wpIn (Fence.wide.inRound l) (n - 1 - 1) Try.prog (bodyF w.heap.size KR I Ix (pre ++ [x]) W) a' W)
    (hdone : ∀ (D : Nat) (xs : List α) (W : World), w.heap.size ≤ D → S xs → I xs W → W.heap[D]? = some (.deferred (some [])) → Q .normal { a with defers := { target := .collected D, args := #[] } :: a.defers } W)
    (hstop : ∀ (D : Nat) (c : Code) (pre : List α) (W : World), w.heap.size ≤ D → Sp pre → Ix c pre W → W.heap[D]? = some (.deferred (some [])) → c.wpIn Fence.wide n Try.prog Q { a with defers := { target := .collected D, args := #[] } :: a.defers } W) :
    (Code.rangeFunc g ps assign body).wpIn Fence.wide n Try.prog Q a w := by
  refine wpIn_rangeFunc ?_
  intro fn hfn
  have hB := Books.made w { state := .ready, pending := none, fn, tmps := a.tmps, params := ps, assign, body, defers := w.heap.size }
  have hbW : Below w.heap.size w _ := ((Below.refl _ w).alloc (Nat.le_refl _) (.deferred (some []))).alloc (by simp) (.loop { state := .ready, pending := none, fn, tmps := a.tmps, params := ps, assign, body, defers := w.heap.size })
  have hI1 := hI.alloc (.loop { state := .ready, pending := none, fn, tmps := a.tmps, params := ps, assign, body, defers := w.heap.size }) (hI.alloc (.deferred (some [])) h0)
  have hent := run_enterLoop_outer (P := Try.prog) (w := w) fn a.tmps ps assign body
  generalize (w.alloc (.deferred (some []))).alloc (.loop { state := .ready, pending := none, fn, tmps := a.tmps, params := ps, assign, body, defers := w.heap.size }) = W1 at hB hbW hI1 hent
  have hW1 := hB.lt
  refine ⟨w.heap.size + 1, [{ target := .collected w.heap.size, args := #[] }], W1, { target := .fn (.func gf) lb, args := #[.func (.yield (w.heap.size + 1)) #[] #[]] }, W1, gf,
    #[.func (.yield (w.heap.size + 1)) #[] #[]] ++ lb, W1, hent, ?_, fun _ _ => trivial, ?_, fun _ => h1, ?_⟩
  · simp only [resolve, hg]
    simp [go_sem]
  · simp [invoke, go_sem, eg]
  · clear hent
    generalize hL : ({ state := .ready, pending := none, fn, tmps := a.tmps, params := ps, assign, body, defers := w.heap.size } : Loop) = L at hB
    have far : ∀ {A : World} {row : Option Nat}, (∀ r, row = some r → W1.heap.size ≤ r ∧ ∃ o : Obj, A.heap[r]? = some o ∧ privO pv o = true) → ∀ r, row = some r → w.heap.size + 1 < r := fun hr r e => by have := (hr r e).1; omega
    have low : ∀ {A : World} {row : Option Nat}, (∀ r, row = some r → W1.heap.size ≤ r ∧ ∃ o : Obj, A.heap[r]? = some o ∧ privO pv o = true) → (∀ r, row = some r → w.heap.size ≤ r ∧ ∃ o : Obj, A.heap[r]? = some o ∧ privO pv o = true) :=
      fun hr r e => ⟨by have := (hr r e).1; omega, (hr r e).2⟩
    refine (hseq (w.heap.size + 1) (fun pre W => I pre W ∧ Books w.heap.size L W) (fun pre W => ∃ c, Ix c pre W ∧ Books w.heap.size { L with state := .done, pending := some c } W) W1 (hb0.trans (hbW.mono hb0.size)) hW1
      (fun s A B row hs hg' hr => ⟨hI s A B row hs.1 hg' (low hr), hs.2.grown hg' (far hr)⟩)
      (fun s A B row hs hg' hr => by
        obtain ⟨c, hc, hbk⟩ := hs
        exact ⟨c, hIx c s A B row hc hg' (low hr), hbk.grown hg' (far hr)⟩)
      ?round ⟨hI1, hB⟩).mono ?behind
    case round =>
      rintro pre x W ⟨hi, hbk⟩ hG hlen ⟨W0, ⟨hi0, _⟩, hF0, hbl0⟩
      have hy := run_yield (P := Try.prog) (args := encs x) hbk.rcd (by rw [← hL]; exact hps x)
      rw [← hL] at hy
      refine ⟨fn, _, assign, body, hy, roundIn_of_wpIn hfn (hassign _ pre x W _ hi hG ⟨W0, hi0, hF0, hbl0⟩ fun a' Wa hkr hko hia hax => ?_)⟩
      have hba := hbk.keep hko
      have hbz := hba.turn { L with state := .busy }
      refine ⟨_, run_beginRound hba.rcd (by rw [← hL]), wpIn_mono (hbody _ pre x a' _ (by omega) ⟨_, hbz.rcd⟩ (hI.putObj _ hia (by omega) hba.rcd rfl) ((hAx x a').putObj (s := ()) _ hax (by omega) hba.rcd rfl) hlen) ?_⟩
      have back : ∀ c : Option Code, ({ { L with state := .busy } with state := if c.isNone then .ready else .done, pending := c } : Loop) = (match c with | none => L | some c => { L with state := .done, pending := some c }) := fun c => by
        rw [← hL]; cases c <;> rfl
      have leave : ∀ (c : Code) (W3 : World), KeepsFrom w.heap.size (Wa.putObj (w.heap.size + 1) (.loop { L with state := .busy })) W3 → Ix c (pre ++ [x]) W3 →
          (Instr.endRound (w.heap.size + 1) (some c)).run Try.prog W3 = .ok (.bool false) (W3.putObj (w.heap.size + 1) (.loop { L with state := .done, pending := some c })) ∧
          (∃ c', Ix c' (pre ++ [x]) (W3.putObj (w.heap.size + 1) (.loop { L with state := .done, pending := some c })) ∧ Books w.heap.size { L with state := .done, pending := some c' } (W3.putObj (w.heap.size + 1) (.loop { L with state := .done, pending := some c }))) ∧
          KeepsFrom (w.heap.size + 1 + 1) W (W3.putObj (w.heap.size + 1) (.loop { L with state := .done, pending := some c })) := fun c W3 hk3 hx3 => by
        have hb3 := hbz.from hk3
        have he := hb3.end_ (some c)
        rw [back] at he
        exact ⟨he, ⟨c, (hIx c).putObj _ hx3 (by omega) hb3.rcd rfl, hb3.turn _⟩, (((hko.from _).trans (keeps_put Wa _ (Nat.lt_succ_self _))).trans (keeps_mono hk3 (by omega))).trans (keeps_put W3 _ (Nat.lt_succ_self _))⟩
      intro e a3 W3 hp
      cases e with
      | normal =>
        obtain ⟨hr3, hk3, hi3⟩ := hp
        have hb3 := hbz.keep hk3
        have he := hb3.end_ none
        rw [back] at he
        exact ⟨_, _, he, .inl ⟨rfl, ⟨hI.putObj _ hi3 (by omega) hb3.rcd rfl, hb3.turn _⟩, hKR.trans hkr (hKR.swap hba.rcd rfl hr3 hb3.rcd rfl), hko.trans (others_swap hba.rcd hk3 hb3.rcd)⟩⟩
      | ret => have h := leave .ret W3 hp.1 hp.2; exact ⟨_, _, h.1, .inr ⟨rfl, h.2⟩⟩
      | exit id => have h := leave (.exit id) W3 hp.1 hp.2; exact ⟨_, _, h.1, .inr ⟨rfl, h.2⟩⟩
      | goto t => have h := leave (.goto t) W3 hp.1 hp.2; exact ⟨_, _, h.1, .inr ⟨rfl, h.2⟩⟩
      | panic ch => exact hp.elim
      | outgrown => exact hp.elim
    case behind =>
      rintro e W2 ⟨⟨v, rfl⟩, (⟨xs, hS, hi, hbk⟩ | ⟨pre, hSp, c, hi, hbk⟩)⟩
      · have he := run_endLoop (P := Try.prog) hbk.rcd (by rw [← hL]; simp)
        have hbe := hbk.turn { L with state := .exhausted }
        have hp : L.pending = none := by rw [← hL]
        rw [hp] at he hbe
        refine ⟨none, _, he, ?_⟩
        exact hdone _ xs _ (Nat.le_refl _) hS (hI.putObj _ hi (by omega) hbk.rcd rfl) hbe.dfr
      · have he := run_endLoop (P := Try.prog) hbk.rcd (by simp)
        have hbe := hbk.turn { { L with state := .done, pending := some c } with state := .exhausted }
        exact ⟨some c, _, he, hstop _ c pre _ (Nat.le_refl _) hSp ((hIx c).putObj _ hi (by omega) hbk.rcd rfl) hbe.dfr⟩
end Go.Proofs.Ytiakfdfpikheaaa
