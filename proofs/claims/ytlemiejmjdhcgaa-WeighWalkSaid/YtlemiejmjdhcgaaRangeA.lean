/- A range over a function that writes, beside what is its own, one variable that stands below the range ('a₀', an int): what it holds may be told of what has been handed. -/
import Derived.Test.YtlemiejmjdhcgaaRange
namespace Go.Proofs.Ytlemiejmjdhcgaa
open Go.RowKit
set_option linter.unusedVariables false
set_option linter.unusedSimpArgs false

/-- J stays where such a function writes what is its own, and the one variable. -/
def StaysA {β : Type} (pv : TypeId → Bool) (B a₀ : Nat) (J : β → World → Prop) : Prop :=
  Stays pv B J ∧ ∀ s W (k : Int), J s W → J s (W.setCell ⟨a₀, 0, none⟩ (.int .i64 k))
theorem StaysA.mono {β : Type} {pv : TypeId → Bool} {B B' a₀ : Nat} {J : β → World → Prop} (h : StaysA pv B a₀ J) (hB : B ≤ B') : StaysA pv B' a₀ J := ⟨h.1.mono hB, h.2⟩
theorem Books.setA {D a₀ : Nat} {L : Loop} {W : World} (h : Books D L W) (ha : a₀ < D) (k : Int) : Books D L (W.setCell ⟨a₀, 0, none⟩ (.int .i64 k)) :=
  ⟨(Below.heap_setCell W ⟨a₀, 0, none⟩ _ (D + 1) (by simp; omega)).trans h.rcd, (Below.heap_setCell W ⟨a₀, 0, none⟩ _ D (by simp; omega)).trans h.dfr⟩

/-- THE CONTRACT of such a function. -/
def SeqA {α : Type} (pv : TypeId → Bool) (a₀ : Nat) (n₀ : Nat) (ty : TypeId → Bool) (n : Nat) (g : Nat) (lb : Array Value) (encs : α → Array Value) (G : List α → α → World → Prop) (S Sp : List α → Prop) (w : World) : Prop :=
  ∀ (l : Nat) (J Jx : List α → World → Prop) (W : World), Below w.heap.size w W → l < W.heap.size → StaysA pv W.heap.size a₀ J → Stays pv W.heap.size Jx →
    (∀ pre x W1, J pre W1 → G pre x W1 → Sp (pre ++ [x]) → YieldAt Fence.wide (n - 1) Try.prog l (encs x) W1 fun e W' =>
      (e = .returned (.bool true) ∧ J (pre ++ [x]) W' ∧ KP n₀ ty W1 W') ∨ (e = .returned (.bool false) ∧ Jx (pre ++ [x]) W' ∧ KeepsFrom (l + 1) W1 W')) →
    J [] W →
    CallsIn Fence.wide n Try.prog g (#[.func (.yield l) #[] #[]] ++ lb) W fun e W' => (∃ v, e = .returned v) ∧ ((∃ xs, S xs ∧ J xs W') ∨ (∃ pre, Sp pre ∧ Jx pre W'))

theorem range_A {α : Type} {pv : TypeId → Bool} {n₀ : Nat} {ty : TypeId → Bool} {n : Nat} {g : Operand} {ps : Array Tmp} {assign body : Code} {Q : Exit → Act → World → Prop} {a : Act} {w : World}
    (h1 : 1 ≤ n) {gf : Nat} {lb : Array Value} (hg : a.eval g = .func (.func gf) #[] lb) (eg : ∀ args w, (callFunc gf args).run Try.prog w = .ok (.enter gf args) w)
    {encs : α → Array Value} {a₀ : Nat} {G : List α → α → World → Prop} {S Sp : List α → Prop} {w0 : World} (hseq : SeqA pv a₀ n₀ ty (n - 1) gf lb encs G S Sp w0)
    (hb0 : Below w0.heap.size w0 w) (hn₀ : n₀ ≤ w.heap.size) (ha₀ : a₀ < w.heap.size) (hps : ∀ x, (encs x).size = ps.size)
    (I : List α → World → Prop) (Ix : Code → List α → World → Prop) (hI : StaysA pv w.heap.size a₀ I) (hIx : ∀ c, Stays pv w.heap.size (Ix c)) (h0 : I [] w) (Ax : List α → α → Act → World → Prop) (hAx : ∀ pre x a', Stays pv w.heap.size (fun (_ : Unit) W => Ax pre x a' W))
    (hassign : ∀ (l : Nat) (pre : List α) (x : α) (W : World) (K : Act → World → Prop), I pre W → G pre x W → (∀ a' W', KP n₀ ty W W' → I pre W' → Ax pre x a' W' → K a' W') →
      assign.wpIn (Fence.wide.inRound l) (n - 1 - 1) Try.prog (Exit.then K (fun _ _ _ => False)) { tmps := (ps.zip (encs x)).foldl (fun t (p, v) => t.setIfInBounds p v) a.tmps, defers := [] } W)
    (hbody : ∀ (l : Nat) (pre : List α) (x : α) (a' : Act) (W : World), w.heap.size ≤ l → (∃ r, W.heap[l]? = some (.loop r)) → I pre W → Ax pre x a' W → Sp (pre ++ [x]) → body.wpIn (Fence.wide.inRound l) (n - 1 - 1) Try.prog (bodyT w.heap.size n₀ ty I Ix (pre ++ [x]) W) a' W)
    (hdone : ∀ (D : Nat) (xs : List α) (W : World), w.heap.size ≤ D → S xs → I xs W → W.heap[D]? = some (.deferred (some [])) → Q .normal { a with defers := { target := .collected D, args := #[] } :: a.defers } W)
    (hstop : ∀ (D : Nat) (c : Code) (pre : List α) (W : World), w.heap.size ≤ D → Sp pre → Ix c pre W → W.heap[D]? = some (.deferred (some [])) → c.wpIn Fence.wide n Try.prog Q { a with defers := { target := .collected D, args := #[] } :: a.defers } W) :
    (Code.rangeFunc g ps assign body).wpIn Fence.wide n Try.prog Q a w := by
  refine wpIn_rangeFunc ?_
  intro fn hfn
  have hB := Books.made w { state := .ready, pending := none, fn, tmps := a.tmps, params := ps, assign, body, defers := w.heap.size }
  have hbW : Below w.heap.size w _ := ((Below.refl _ w).alloc (Nat.le_refl _) (.deferred (some []))).alloc (by simp) (.loop { state := .ready, pending := none, fn, tmps := a.tmps, params := ps, assign, body, defers := w.heap.size })
  have hI1 := hI.1.alloc (.loop { state := .ready, pending := none, fn, tmps := a.tmps, params := ps, assign, body, defers := w.heap.size }) (hI.1.alloc (.deferred (some [])) h0)
  have hent := run_enterLoop_outer (P := Try.prog) (w := w) fn a.tmps ps assign body
  generalize (w.alloc (.deferred (some []))).alloc (.loop { state := .ready, pending := none, fn, tmps := a.tmps, params := ps, assign, body, defers := w.heap.size }) = W1 at hB hbW hI1 hent
  have hW1 := hB.lt
  refine ⟨w.heap.size + 1, [{ target := .collected w.heap.size, args := #[] }], W1, { target := .fn (.func gf) lb, args := #[.func (.yield (w.heap.size + 1)) #[] #[]] }, W1, gf,
    #[.func (.yield (w.heap.size + 1)) #[] #[]] ++ lb, W1, hent, ?_, fun _ _ => trivial, ?_, fun _ => h1, ?_⟩
  · simp only [resolve, hg]
    simp [go_sem]
  · simp [invoke, go_sem, eg]
  · clear hent
    generalize hL : ({ state := .ready, pending := none, fn, tmps := a.tmps, params := ps, assign, body, defers := w.heap.size } : Loop) = L at hB
    have far : ∀ {A : World} {row : Option Nat}, (∀ r, row = some r → W1.heap.size ≤ r ∧ ∃ o : Obj, A.heap[r]? = some o ∧ privO pv o = true) → ∀ r, row = some r → w.heap.size + 1 < r := fun hr r e => by have := (hr r e).1; omega
    have low : ∀ {A : World} {row : Option Nat}, (∀ r, row = some r → W1.heap.size ≤ r ∧ ∃ o : Obj, A.heap[r]? = some o ∧ privO pv o = true) → (∀ r, row = some r → w.heap.size ≤ r ∧ ∃ o : Obj, A.heap[r]? = some o ∧ privO pv o = true) :=
      fun hr r e => ⟨by have := (hr r e).1; omega, (hr r e).2⟩
    refine (hseq (w.heap.size + 1) (fun pre W => I pre W ∧ Books w.heap.size L W) (fun pre W => ∃ c, Ix c pre W ∧ Books w.heap.size { L with state := .done, pending := some c } W) W1 (hb0.trans (hbW.mono hb0.size)) hW1
      ⟨fun s A B row hs hg' hr => ⟨hI.1 s A B row hs.1 hg' (low hr), hs.2.grown hg' (far hr)⟩, fun s A k hs => ⟨hI.2 s A k hs.1, hs.2.setA (by omega) k⟩⟩
      (fun s A B row hs hg' hr => by
        obtain ⟨c, hc, hbk⟩ := hs
        exact ⟨c, hIx c s A B row hc hg' (low hr), hbk.grown hg' (far hr)⟩)
      ?round ⟨hI1, hB⟩).mono ?behind
    case round =>
      rintro pre x W ⟨hi, hbk⟩ hG hlen
      have hy := run_yield (P := Try.prog) (args := encs x) hbk.rcd (by rw [← hL]; exact hps x)
      rw [← hL] at hy
      refine ⟨fn, _, assign, body, hy, roundIn_of_wpIn hfn (hassign _ pre x W _ hi hG fun a' Wa hkp hia hax => ?_)⟩
      have hba := hbk.keep hkp.oth
      have hbz := hba.turn { L with state := .busy }
      refine ⟨_, run_beginRound hba.rcd (by rw [← hL]), wpIn_mono (hbody _ pre x a' _ (by omega) ⟨_, hbz.rcd⟩ (hI.1.putObj _ hia (by omega) hba.rcd rfl) ((hAx pre x a').putObj (s := ()) _ hax (by omega) hba.rcd rfl) hlen) ?_⟩
      have back : ∀ c : Option Code, ({ { L with state := .busy } with state := if c.isNone then .ready else .done, pending := c } : Loop) = (match c with | none => L | some c => { L with state := .done, pending := some c }) := fun c => by
        rw [← hL]; cases c <;> rfl
      have leave : ∀ (c : Code) (W3 : World), KeepsFrom w.heap.size (Wa.putObj (w.heap.size + 1) (.loop { L with state := .busy })) W3 → Ix c (pre ++ [x]) W3 →
          (Instr.endRound (w.heap.size + 1) (some c)).run Try.prog W3 = .ok (.bool false) (W3.putObj (w.heap.size + 1) (.loop { L with state := .done, pending := some c })) ∧
          (∃ c', Ix c' (pre ++ [x]) (W3.putObj (w.heap.size + 1) (.loop { L with state := .done, pending := some c })) ∧ Books w.heap.size { L with state := .done, pending := some c' } (W3.putObj (w.heap.size + 1) (.loop { L with state := .done, pending := some c }))) ∧
          KeepsFrom (w.heap.size + 1 + 1) W (W3.putObj (w.heap.size + 1) (.loop { L with state := .done, pending := some c })) := fun c W3 hk3 hx3 => by
        have hb3 := hbz.from hk3
        have he := hb3.end_ (some c)
        rw [back] at he
        exact ⟨he, ⟨c, (hIx c).putObj _ hx3 (by omega) hb3.rcd rfl, hb3.turn _⟩, (((hkp.oth.from _).trans (keeps_put Wa _ (Nat.lt_succ_self _))).trans (keeps_mono hk3 (by omega))).trans (keeps_put W3 _ (Nat.lt_succ_self _))⟩
      intro e a3 W3 hp
      cases e with
      | normal =>
        obtain ⟨hk3, hi3⟩ := hp
        have hb3 := hbz.keep hk3.oth
        have he := hb3.end_ none
        rw [back] at he
        exact ⟨_, _, he, .inl ⟨rfl, ⟨hI.1.putObj _ hi3 (by omega) hb3.rcd rfl, hb3.turn _⟩, hkp.trans (KP.swap (by omega) hba.rcd rfl hk3 hb3.rcd rfl)⟩⟩
      | ret => have h := leave .ret W3 hp.1 hp.2; exact ⟨_, _, h.1, .inr ⟨rfl, h.2⟩⟩
      | exit id => have h := leave (.exit id) W3 hp.1 hp.2; exact ⟨_, _, h.1, .inr ⟨rfl, h.2⟩⟩
      | goto t => have h := leave (.goto t) W3 hp.1 hp.2; exact ⟨_, _, h.1, .inr ⟨rfl, h.2⟩⟩
      | panic ch => exact hp.elim
      | outgrown => exact hp.elim
    case behind =>
      rintro e W2 ⟨⟨v, rfl⟩, (⟨xs, hS, hi, hbk⟩ | ⟨pre, hSp, c, hi, hbk⟩)⟩
      · have he := run_endLoop (P := Try.prog) hbk.rcd (by rw [← hL]; simp)
        have hbe := hbk.turn { L with state := .exhausted }
        have hp : L.pending = none := by rw [← hL]
        rw [hp] at he hbe
        refine ⟨none, _, he, ?_⟩
        exact hdone _ xs _ (Nat.le_refl _) hS (hI.1.putObj _ hi (by omega) hbk.rcd rfl) hbe.dfr
      · have he := run_endLoop (P := Try.prog) hbk.rcd (by simp)
        have hbe := hbk.turn { { L with state := .done, pending := some c } with state := .exhausted }
        exact ⟨some c, _, he, hstop _ c pre _ (Nat.le_refl _) hSp ((hIx c).putObj _ hi (by omega) hbk.rcd rfl) hbe.dfr⟩
end Go.Proofs.Ytlemiejmjdhcgaa
