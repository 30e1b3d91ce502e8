/- A range over a function: the function may keep variables of its own (blocks of private types), and what it hands may be told of the world in which it is handed. -/
import Derived.Test.YtppmjlfecbaicaaDoorRow
import Derived.RangeFuncNested
namespace Go.Proofs.YtppmjlfecbaicaaDoor
open Go.RowKit
set_option linter.unusedVariables false
set_option linter.unusedSimpArgs false

/-- May a function that is ranged over write this object, where it is its own? 'pv': the types of its variables. -/
def privO (pv : TypeId → Bool) : Obj → Bool
  | .cells _ t _ => pv t
  | _ => true
/-- J stays where such functions, called from block B on, write what is theirs. -/
def Stays {β : Type} (pv : TypeId → Bool) (B : Nat) (J : β → World → Prop) : Prop :=
  ∀ s W W' row, J s W → W.grownBy W' row → (∀ r, row = some r → B ≤ r ∧ ∃ o : Obj, W.heap[r]? = some o ∧ privO pv o = true) → J s W'
section
variable {β : Type} {pv : TypeId → Bool} {B : Nat} {J : β → World → Prop}
theorem Stays.mono {B' : Nat} (h : Stays pv B J) (hB : B ≤ B') : Stays pv B' J := fun s W W' row hs hg hr => h s W W' row hs hg (fun r e => ⟨Nat.le_trans hB (hr r e).1, (hr r e).2⟩)
theorem Stays.alloc (h : Stays pv B J) {s : β} {W : World} (o : Obj) (hs : J s W) : J s (W.alloc o) := h s W _ none hs (World.grownBy_alloc W o none) (fun r e => by cases e)
theorem Stays.putObj (h : Stays pv B J) {s : β} {W : World} {l : Nat} {o : Obj} (o' : Obj) (hs : J s W) (hB : B ≤ l) (hl : W.heap[l]? = some o) (ho : privO pv o = true) : J s (W.putObj l o') :=
  h s W _ (some l) hs (grownBy_putObj' W l o') (fun r e => by cases e; exact ⟨hB, o, hl, ho⟩)
end

/-- What a body keeps: all below n₀; blocks of the types 'ty', whole; all that is no cells. -/
structure KP (n₀ : Nat) (ty : TypeId → Bool) (W W' : World) : Prop where
  bel : Below n₀ W W'
  ty : ∀ b t cs, ty t = true → Blk W b t cs → Blk W' b t cs
  oth : KeepsOthers W W'
section
variable {n₀ : Nat} {ty : TypeId → Bool} {A B C : World}
theorem KP.refl (W : World) : KP n₀ ty W W := ⟨Below.refl _ _, fun _ _ _ _ h => h, KeepsOthers.refl _⟩
theorem KP.trans (h : KP n₀ ty A B) (k : KP n₀ ty B C) : KP n₀ ty A C := ⟨h.bel.trans k.bel, fun b t cs ht hb => k.ty b t cs ht (h.ty b t cs ht hb), h.oth.trans k.oth⟩
theorem KP.alloc (h : n₀ ≤ A.heap.size) (o : Obj) : KP n₀ ty A (A.alloc o) := ⟨(Below.refl _ _).alloc h o, fun _ _ _ _ hb => hb.alloc o, KeepsOthers.alloc _ _⟩
theorem KP.set {b : Nat} {t : TypeId} {cs : Array Value} (h : n₀ ≤ b) (hb : Blk A b t cs) (ht : ty t = false) (i : Nat) (v : Value) : KP n₀ ty A (A.setCell ⟨b, i, none⟩ v) :=
  ⟨(Below.refl _ _).setCell (p := ⟨b, i, none⟩) h v, fun b' t' cs' ht' hb' => hb'.far (fun e => by
    have e' : b' = b := e
    subst e'
    unfold Blk at hb hb'
    rw [hb] at hb'
    cases hb'
    rw [ht] at ht'
    cases ht') v, KeepsOthers.setCell _ _ _⟩
/-- A record that is turned, and turned back. -/
theorem KP.swap {l : Nat} {o o' : Obj} (hn : n₀ ≤ l) (hl : A.heap[l]? = some o) (ho : o.isCells = false) (h : KP n₀ ty (A.putObj l o') B) (hl3 : B.heap[l]? = some o') (ho' : o'.isCells = false) : KP n₀ ty A (B.putObj l o) := by
  have hlt := (Array.getElem?_eq_some_iff.1 hl).1
  have hlt3 := (Array.getElem?_eq_some_iff.1 hl3).1
  have hA : Below n₀ A (A.putObj l o') := (Below.refl n₀ A).grown (grownBy_putObj' A l o') (by omega) (fun k e => by cases e; exact hn)
  have hB : Below n₀ B (B.putObj l o) := (Below.refl n₀ B).grown (grownBy_putObj' B l o) (by omega) (fun k e => by cases e; exact hn)
  have nb : ∀ (W : World) (x : Obj), W.heap[l]? = some x → x.isCells = false → ∀ b t cs, Blk W b t cs → b ≠ l := fun W x hx hc b t cs hb e => by
    subst e
    unfold Blk at hb
    rw [hx] at hb
    cases hb
    cases hc
  refine ⟨(hA.trans h.bel).trans hB, fun b t cs ht hb => ?_, ?_, fun k x hk hx => ?_⟩
  · have h1 : Blk (A.putObj l o') b t cs := (World.putObj_heap_other (nb A o hl ho b t cs hb)).trans hb
    have h2 := h.ty b t cs ht h1
    exact (World.putObj_heap_other (nb B o' hl3 ho' b t cs h2)).trans h2
  · have := h.oth.size
    simp at this ⊢
    omega
  · by_cases e : k = l
    · subst e
      rw [hl] at hk
      cases hk
      exact World.putObj_heap_same hlt3
    · have h1 : (A.putObj l o').heap[k]? = some x := (World.putObj_heap_other e).trans hk
      have h2 := h.oth.same k x h1 hx
      exact (World.putObj_heap_other e).trans h2
end

theorem keeps_mono {B B' : Nat} {W W' : World} (h : KeepsFrom B W W') (hB : B ≤ B') : KeepsFrom B' W W' := ⟨h.size, fun k o hk => h.same k o (Nat.le_trans hB hk)⟩
theorem keeps_put {B l : Nat} (W : World) (o : Obj) (hl : l < B) : KeepsFrom B W (W.putObj l o) := ⟨by simp, fun k o' hk hh _ => (World.putObj_heap_other (by omega)).trans hh⟩

/-- THE CONTRACT of a function that is ranged over. -/
def SeqT {α : Type} (pv : TypeId → Bool) (n₀ : Nat) (ty : TypeId → Bool) (n : Nat) (g : Nat) (lb : Array Value) (encs : α → Array Value) (G : α → World → Prop) (S Sp : List α → Prop) (w : World) : Prop :=
  ∀ (l : Nat) (J Jx : List α → World → Prop) (W : World), Below w.heap.size w W → l < W.heap.size → Stays pv W.heap.size J → Stays pv W.heap.size Jx →
    (∀ pre x W1, J pre W1 → G x W1 → Sp (pre ++ [x]) → YieldAt Fence.wide (n - 1) Tryd.prog l (encs x) W1 fun e W' =>
      (e = .returned (.bool true) ∧ J (pre ++ [x]) W' ∧ KP n₀ ty W1 W') ∨ (e = .returned (.bool false) ∧ Jx (pre ++ [x]) W' ∧ KeepsFrom (l + 1) W1 W')) →
    J [] W →
    CallsIn Fence.wide n Tryd.prog g (#[.func (.yield l) #[] #[]] ++ lb) W fun e W' => (∃ v, e = .returned v) ∧ ((∃ xs, S xs ∧ J xs W') ∨ (∃ pre, Sp pre ∧ Jx pre W'))

/-- How the body of a round may be left. -/
def bodyT {α : Type} (B : Nat) (n₀ : Nat) (ty : TypeId → Bool) (I : List α → World → Prop) (Ix : Code → List α → World → Prop) (xs : List α) (W : World) : Exit → Act → World → Prop
  | .normal, _, W' => KP n₀ ty W W' ∧ I xs W'
  | .ret, _, W' => KeepsFrom B W W' ∧ Ix .ret xs W'
  | .exit id, _, W' => KeepsFrom B W W' ∧ Ix (.exit id) xs W'
  | .goto t, _, W' => KeepsFrom B W W' ∧ Ix (.goto t) xs W'
  | _, _, _ => False

/-- The two objects that a range keeps: its record, its deferred calls. -/
structure Books (D : Nat) (L : Loop) (W : World) : Prop where
  rcd : W.heap[D + 1]? = some (.loop L)
  dfr : W.heap[D]? = some (.deferred (some []))
section
variable {D : Nat} {L : Loop} {W W' : World}
theorem Books.lt (h : Books D L W) : D + 1 < W.heap.size := (Array.getElem?_eq_some_iff.1 h.rcd).1
theorem Books.made (w : World) (L : Loop) : Books w.heap.size L ((w.alloc (.deferred (some []))).alloc (.loop L)) := by
  have h := World.alloc_heap_new (w.alloc (.deferred (some []))) (.loop L)
  rw [World.size_alloc] at h
  exact ⟨h, (Below.heap_alloc _ _ _ (by simp)).trans (World.alloc_heap_new w _)⟩
theorem Books.keep (h : Books D L W) (hk : KeepsOthers W W') : Books D L W' := ⟨hk.same _ _ h.rcd rfl, hk.same _ _ h.dfr rfl⟩
theorem Books.from (h : Books D L W) (hk : KeepsFrom D W W') : Books D L W' := ⟨hk.same _ _ (Nat.le_succ _) h.rcd rfl, hk.same _ _ (Nat.le_refl _) h.dfr rfl⟩
theorem Books.turn (h : Books D L W) (L' : Loop) : Books D L' (W.putObj (D + 1) (.loop L')) := ⟨World.putObj_heap_same h.lt, (World.putObj_heap_other (by omega)).trans h.dfr⟩
theorem Books.grown {row : Option Nat} (h : Books D L W) (hg : W.grownBy W' row) (hr : ∀ r, row = some r → D + 1 < r) : Books D L W' :=
  ⟨(hg.block _ h.lt (fun e => by have := hr _ e.symm; omega)).trans h.rcd, (hg.block _ (by have := h.lt; omega) (fun e => by have := hr _ e.symm; omega)).trans h.dfr⟩
/-- A round's end, gone on with or left. -/
theorem Books.end_ (h : Books D L W) (jump : Option Code) : (Instr.endRound (D + 1) jump).run Tryd.prog W = .ok (.bool jump.isNone) (W.putObj (D + 1) (.loop { L with state := if jump.isNone then .ready else .done, pending := jump })) :=
  run_endRound (P := Tryd.prog) jump h.rcd
end

theorem range_T {α : Type} {pv : TypeId → Bool} {n₀ : Nat} {ty : TypeId → Bool} {n : Nat} {g : Operand} {ps : Array Tmp} {assign body : Code} {Q : Exit → Act → World → Prop} {a : Act} {w : World}
    (h1 : 1 ≤ n) {gf : Nat} {lb : Array Value} (hg : a.eval g = .func (.func gf) #[] lb) (eg : ∀ args w, (callFunc gf args).run Tryd.prog w = .ok (.enter gf args) w)
    {encs : α → Array Value} {G : α → World → Prop} {S Sp : List α → Prop} {w0 : World} (hseq : SeqT pv n₀ ty (n - 1) gf lb encs G S Sp w0)
    (hb0 : Below w0.heap.size w0 w) (hn₀ : n₀ ≤ w.heap.size) (hps : ∀ x, (encs x).size = ps.size)
    (I : List α → World → Prop) (Ix : Code → List α → World → Prop) (hI : Stays pv w.heap.size I) (hIx : ∀ c, Stays pv w.heap.size (Ix c)) (h0 : I [] w) (Ax : α → Act → World → Prop) (hAx : ∀ x a', Stays pv w.heap.size (fun (_ : Unit) W => Ax x a' W))
    (hassign : ∀ (l : Nat) (pre : List α) (x : α) (W : World) (K : Act → World → Prop), I pre W → G x W → (∀ a' W', KP n₀ ty W W' → I pre W' → Ax x a' W' → K a' W') →
      assign.wpIn (Fence.wide.inRound l) (n - 1 - 1) Tryd.prog (Exit.then K (fun _ _ _ => False)) { tmps := (ps.zip (encs x)).foldl (fun t (p, v) => t.setIfInBounds p v) a.tmps, defers := [] } W)
    (hbody : ∀ (l : Nat) (pre : List α) (x : α) (a' : Act) (W : World), w.heap.size ≤ l → (∃ r, W.heap[l]? = some (.loop r)) → I pre W → Ax x a' W → Sp (pre ++ [x]) → body.wpIn (Fence.wide.inRound l) (n - 1 - 1) Tryd.prog (bodyT w.heap.size n₀ ty I Ix (pre ++ [x]) W) a' W)
    (hdone : ∀ (D : Nat) (xs : List α) (W : World), w.heap.size ≤ D → S xs → I xs W → W.heap[D]? = some (.deferred (some [])) → Q .normal { a with defers := { target := .collected D, args := #[] } :: a.defers } W)
    (hstop : ∀ (D : Nat) (c : Code) (pre : List α) (W : World), w.heap.size ≤ D → Sp pre → Ix c pre W → W.heap[D]? = some (.deferred (some [])) → c.wpIn Fence.wide n Tryd.prog Q { a with defers := { target := .collected D, args := #[] } :: a.defers } W) :
    (Code.rangeFunc g ps assign body).wpIn Fence.wide n Tryd.prog Q a w := by
  refine wpIn_rangeFunc ?_
  intro fn hfn
  have hB := Books.made w { state := .ready, pending := none, fn, tmps := a.tmps, params := ps, assign, body, defers := w.heap.size }
  have hbW : Below w.heap.size w _ := ((Below.refl _ w).alloc (Nat.le_refl _) (.deferred (some []))).alloc (by simp) (.loop { state := .ready, pending := none, fn, tmps := a.tmps, params := ps, assign, body, defers := w.heap.size })
  have hI1 := hI.alloc (.loop { state := .ready, pending := none, fn, tmps := a.tmps, params := ps, assign, body, defers := w.heap.size }) (hI.alloc (.deferred (some [])) h0)
  have hent := run_enterLoop_outer (P := Tryd.prog) (w := w) fn a.tmps ps assign body
  generalize (w.alloc (.deferred (some []))).alloc (.loop { state := .ready, pending := none, fn, tmps := a.tmps, params := ps, assign, body, defers := w.heap.size }) = W1 at hB hbW hI1 hent
  have hW1 := hB.lt
  refine ⟨w.heap.size + 1, [{ target := .collected w.heap.size, args := #[] }], W1, { target := .fn (.func gf) lb, args := #[.func (.yield (w.heap.size + 1)) #[] #[]] }, W1, gf,
    #[.func (.yield (w.heap.size + 1)) #[] #[]] ++ lb, W1, hent, ?_, fun _ _ => trivial, ?_, fun _ => h1, ?_⟩
  · simp only [resolve, hg]
    simp [go_sem]
  · simp [invoke, go_sem, eg]
  · clear hent
    generalize hL : ({ state := .ready, pending := none, fn, tmps := a.tmps, params := ps, assign, body, defers := w.heap.size } : Loop) = L at hB
    have far : ∀ {A : World} {row : Option Nat}, (∀ r, row = some r → W1.heap.size ≤ r ∧ ∃ o : Obj, A.heap[r]? = some o ∧ privO pv o = true) → ∀ r, row = some r → w.heap.size + 1 < r := fun hr r e => by have := (hr r e).1; omega
    have low : ∀ {A : World} {row : Option Nat}, (∀ r, row = some r → W1.heap.size ≤ r ∧ ∃ o : Obj, A.heap[r]? = some o ∧ privO pv o = true) → (∀ r, row = some r → w.heap.size ≤ r ∧ ∃ o : Obj, A.heap[r]? = some o ∧ privO pv o = true) :=
      fun hr r e => ⟨by have := (hr r e).1; omega, (hr r e).2⟩
    refine (hseq (w.heap.size + 1) (fun pre W => I pre W ∧ Books w.heap.size L W) (fun pre W => ∃ c, Ix c pre W ∧ Books w.heap.size { L with state := .done, pending := some c } W) W1 (hb0.trans (hbW.mono hb0.size)) hW1
      (fun s A B row hs hg' hr => ⟨hI s A B row hs.1 hg' (low hr), hs.2.grown hg' (far hr)⟩)
      (fun s A B row hs hg' hr => by
        obtain ⟨c, hc, hbk⟩ := hs
        exact ⟨c, hIx c s A B row hc hg' (low hr), hbk.grown hg' (far hr)⟩)
      ?round ⟨hI1, hB⟩).mono ?behind
    case round =>
      rintro pre x W ⟨hi, hbk⟩ hG hlen
      have hy := run_yield (P := Tryd.prog) (args := encs x) hbk.rcd (by rw [← hL]; exact hps x)
      rw [← hL] at hy
      refine ⟨fn, _, assign, body, hy, roundIn_of_wpIn hfn (hassign _ pre x W _ hi hG fun a' Wa hkp hia hax => ?_)⟩
      have hba := hbk.keep hkp.oth
      have hbz := hba.turn { L with state := .busy }
      refine ⟨_, run_beginRound hba.rcd (by rw [← hL]), wpIn_mono (hbody _ pre x a' _ (by omega) ⟨_, hbz.rcd⟩ (hI.putObj _ hia (by omega) hba.rcd rfl) ((hAx x a').putObj (s := ()) _ hax (by omega) hba.rcd rfl) hlen) ?_⟩
      have back : ∀ c : Option Code, ({ { L with state := .busy } with state := if c.isNone then .ready else .done, pending := c } : Loop) = (match c with | none => L | some c => { L with state := .done, pending := some c }) := fun c => by
        rw [← hL]; cases c <;> rfl
      have leave : ∀ (c : Code) (W3 : World), KeepsFrom w.heap.size (Wa.putObj (w.heap.size + 1) (.loop { L with state := .busy })) W3 → Ix c (pre ++ [x]) W3 →
          (Instr.endRound (w.heap.size + 1) (some c)).run Tryd.prog W3 = .ok (.bool false) (W3.putObj (w.heap.size + 1) (.loop { L with state := .done, pending := some c })) ∧
          (∃ c', Ix c' (pre ++ [x]) (W3.putObj (w.heap.size + 1) (.loop { L with state := .done, pending := some c })) ∧ Books w.heap.size { L with state := .done, pending := some c' } (W3.putObj (w.heap.size + 1) (.loop { L with state := .done, pending := some c }))) ∧
          KeepsFrom (w.heap.size + 1 + 1) W (W3.putObj (w.heap.size + 1) (.loop { L with state := .done, pending := some c })) := fun c W3 hk3 hx3 => by
        have hb3 := hbz.from hk3
        have he := hb3.end_ (some c)
        rw [back] at he
        exact ⟨he, ⟨c, (hIx c).putObj _ hx3 (by omega) hb3.rcd rfl, hb3.turn _⟩, (((hkp.oth.from _).trans (keeps_put Wa _ (Nat.lt_succ_self _))).trans (keeps_mono hk3 (by omega))).trans (keeps_put W3 _ (Nat.lt_succ_self _))⟩
      intro e a3 W3 hp
      cases e with
      | normal =>
        obtain ⟨hk3, hi3⟩ := hp
        have hb3 := hbz.keep hk3.oth
        have he := hb3.end_ none
        rw [back] at he
        exact ⟨_, _, he, .inl ⟨rfl, ⟨hI.putObj _ hi3 (by omega) hb3.rcd rfl, hb3.turn _⟩, hkp.trans (KP.swap (by omega) hba.rcd rfl hk3 hb3.rcd rfl)⟩⟩
      | ret => have h := leave .ret W3 hp.1 hp.2; exact ⟨_, _, h.1, .inr ⟨rfl, h.2⟩⟩
      | exit id => have h := leave (.exit id) W3 hp.1 hp.2; exact ⟨_, _, h.1, .inr ⟨rfl, h.2⟩⟩
      | goto t => have h := leave (.goto t) W3 hp.1 hp.2; exact ⟨_, _, h.1, .inr ⟨rfl, h.2⟩⟩
      | panic ch => exact hp.elim
      | outgrown => exact hp.elim
    case behind =>
      rintro e W2 ⟨⟨v, rfl⟩, (⟨xs, hS, hi, hbk⟩ | ⟨pre, hSp, c, hi, hbk⟩)⟩
      · have he := run_endLoop (P := Tryd.prog) hbk.rcd (by rw [← hL]; simp)
        have hbe := hbk.turn { L with state := .exhausted }
        have hp : L.pending = none := by rw [← hL]
        rw [hp] at he hbe
        refine ⟨none, _, he, ?_⟩
        exact hdone _ xs _ (Nat.le_refl _) hS (hI.putObj _ hi (by omega) hbk.rcd rfl) hbe.dfr
      · have he := run_endLoop (P := Tryd.prog) hbk.rcd (by simp)
        have hbe := hbk.turn { { L with state := .done, pending := some c } with state := .exhausted }
        exact ⟨some c, _, he, hstop _ c pre _ (Nat.le_refl _) hSp ((hIx c).putObj _ hi (by omega) hbk.rcd rfl) hbe.dfr⟩
end Go.Proofs.YtppmjlfecbaicaaDoor
