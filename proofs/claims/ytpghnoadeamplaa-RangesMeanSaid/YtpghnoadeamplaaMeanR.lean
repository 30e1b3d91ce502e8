/- The range over a map's ranges, that appends each to a row: whatever the frame. -/
import Derived.Test.YtpghnoadeamplaaMean
import Derived.Test.YtpghnoadeamplaaMany
import Derived.RangeFuncNested
namespace Go.Proofs.Ytpghnoadeamplaa
open Go.RowKit Go.Shelf
set_option linter.unusedVariables false
set_option linter.unusedSimpArgs false

theorem own_cells {W : World} {base : Nat} {v : Value} {l : List Rg} (h : RowR W base v l) {k : Nat} {o : Obj} (hk : v.ownBlock = some k) (ho : W.heap[k]? = some o) : o.isCells = true := by
  rcases h.2 with ⟨rfl, _⟩ | ⟨g, cap, cur, rfl, _, hh, _⟩
  · simp [Value.ownBlock] at hk
  · have : g = k := by simpa [Value.ownBlock] using hk
    subst this
    rw [hh] at ho
    cases ho
    rfl
theorem keeps_row {W W' : World} {base : Nat} {v : Value} {l : List Rg} (h : RowR W base v l) (hg : W.grownBy W' v.ownBlock) : KeepsOthers W W' :=
  ⟨hg.size, fun k o hk ho => (hg.block k (Array.getElem?_eq_some_iff.1 hk).1 (fun e => by rw [own_cells h e.symm hk] at ho; cases ho)).trans hk⟩
theorem row_kept {W W' : World} {base : Nat} {v : Value} {l : List Rg} {row : Option Nat} (h : RowR W base v l) (hg : W.grownBy W' row) (hr : ∀ r, row = some r → ∃ o : Obj, W.heap[r]? = some o ∧ o.isCells = false) : RowR W' base v l := by
  refine World.ownsRow.kept h hg ?_
  cases hv : v.ownBlock with
  | none => exact .inl rfl
  | some k =>
    refine .inr fun e => ?_
    obtain ⟨o, ho, hc⟩ := hr k e.symm
    rw [own_cells h hv ho] at hc
    cases hc
theorem blk_not {W : World} {b : Nat} {t : TypeId} {cs : Array Value} (h : Blk W b t cs) {row : Option Nat} (hr : ∀ r, row = some r → ∃ o : Obj, W.heap[r]? = some o ∧ o.isCells = false) : some b ≠ row := fun e => by
  obtain ⟨o, ho, hc⟩ := hr b e.symm
  unfold Blk at h
  rw [h] at ho
  cases ho
  cases hc

/-- What the loop's own variable, and all else, hold. -/
structure MI (B8 : Nat) (w3 : World) (pre : List Rg) (W : World) : Prop where
  own : ∃ v, Blk W B8 22 #[v] ∧ RowR W w3.heap.size v pre
  keep : ∀ b t cs, B8 < b → Blk w3 b t cs → Blk W b t cs
  bel : Below B8 w3 W
  le : w3.heap.size ≤ W.heap.size

theorem mean_range {g : Operand} {ps : Array Tmp} {assign body : Code} {Q : Exit → Act → World → Prop} {a : Act} {w3 : World} (F : Nat → Rg → Act) (B8 Bs : Nat) (q : Option Addr) (m : List Rg) (hm1 : m.length ≤ 1000000)
    (hg : a.eval g = .func (.func 24) #[] #[.pointer (some ⟨Bs, 0, none⟩)]) (hps : ps.size = 1) (hBs : Bs < w3.heap.size) (hc : w3.cell? ⟨Bs, 0, none⟩ = some (.pointer q)) (hm : MapR w3 B8 q m)
    (h8 : Blk w3 B8 22 #[.slice none 0 0])
    (hassign : ∀ (l : Nat) (x : Rg) (W : World) (Bn : Nat) (K : Act → World → Prop), Bn = W.heap.size → K (F Bn x) (W.alloc (.cells #[.int .i32 x.lo, .int .i32 x.hi, .int .i64 x.val] 24)) →
      assign.wpIn (Fence.wide.inRound l) 1 Try.prog (Exit.then K (fun _ _ _ => False)) { tmps := (ps.zip #[aggR x]).foldl (fun t (p, v) => t.setIfInBounds p v) a.tmps, defers := [] } W)
    (hbody : ∀ (l : Nat) (x : Rg) (W : World) (Bx : Nat) (v : Value) (pre : List Rg) (R : World → Prop), Blk W B8 22 #[v] → Blk W Bx 24 #[.int .i32 x.lo, .int .i32 x.hi, .int .i64 x.val] → RowR W w3.heap.size v pre → pre.length ≤ 1000000 → w3.heap.size ≤ W.heap.size → B8 < w3.heap.size →
      (∀ v' w', RowR w' w3.heap.size v' (pre ++ [x]) → (W.alloc (.cells #[.int .i32 x.lo, .int .i32 x.hi, .int .i64 x.val] 24)).grownBy w' v.ownBlock → R (w'.setCell ⟨B8, 0, none⟩ v')) →
      body.wpIn (Fence.wide.inRound l) 1 Try.prog (fun e _ w' => e = .normal ∧ R w') (F Bx x) W)
    (hdone : ∀ (D : Nat) (v : Value) (W : World), w3.heap.size ≤ D → Blk W B8 22 #[v] → RowR W w3.heap.size v m → (∀ b t cs, B8 < b → Blk w3 b t cs → Blk W b t cs) → Below B8 w3 W → w3.heap.size ≤ W.heap.size → W.heap[D]? = some (.deferred (some [])) →
      Q .normal { a with defers := { target := .collected D, args := #[] } :: a.defers } W) :
    (Code.rangeFunc g ps assign body).wp Try.prog Q a w3 := by
  refine (wpIn_wide (n := 3)).1 ?_
  have h8lt := h8.lt
  refine wpIn_rangeFunc_ownH rfl (by omega) (gf := 24) (lb := #[.pointer (some ⟨Bs, 0, none⟩)]) hg trivial (enters_of Try.func24 (by kernel_rfl) rfl)
    (all_stops q m hm1 _ (by omega) Bs B8 w3 hBs hc hm (by omega)) belowK_t (belowK_b (by omega)) (Below.refl _ _) (fun _ => by rw [hps]; rfl)
    (MI B8 w3) (fun _ _ _ => False)
    (fun pre X Y row hs hgr hr => ?_)
    (fun _ _ _ _ _ hs _ _ => hs)
    ⟨⟨_, h8, nil_row _ _⟩, fun _ _ _ _ h => h, Below.refl _ _, Nat.le_refl _⟩
    (fun x a' W => ∃ Bx, B8 < Bx ∧ Blk W Bx 24 #[.int .i32 x.lo, .int .i32 x.hi, .int .i64 x.val] ∧ a' = F Bx x)
    (fun x a' _ X Y row hs hgr hr => by obtain ⟨Bx, h1, h2, h3⟩ := hs; exact ⟨Bx, h1, h2.grown hgr (blk_not h2 (fun r e => (hr r e).2)), h3⟩)
    ?assign ?body ?done ?stop
  · obtain ⟨v, h1, h2⟩ := hs.own
    have hr' : ∀ r, row = some r → ∃ o : Obj, X.heap[r]? = some o ∧ o.isCells = false := fun r e => (hr r e).2
    exact ⟨⟨v, h1.grown hgr (blk_not h1 hr'), row_kept h2 hgr hr'⟩, fun b t cs hb h => (hs.keep b t cs hb h).grown hgr (blk_not (hs.keep b t cs hb h) hr'), hs.bel.grown hgr (by have := hs.le; omega) (fun k e => by have := (hr k e).1; omega), Nat.le_trans hs.le hgr.size⟩
  case assign =>
    intro lb pre x W K hI hK
    refine hassign lb x W _ K rfl (hK _ _ ((KeepsOthers.alloc _ _).from _) ((Below.refl _ W).alloc (by have := hI.le; omega) _) ?_ ⟨W.heap.size, by have := hI.le; omega, Blk.new W 24 _, rfl⟩)
    obtain ⟨v, h1, h2⟩ := hI.own
    exact ⟨⟨v, h1.alloc _, h2.alloc _⟩, fun b t cs hb h => (hI.keep b t cs hb h).alloc _, hI.bel.alloc (by have := hI.le; omega) _, by have := hI.le; simp; omega⟩
  case body =>
    rintro lb pre x a' W hlb hr hI ⟨Bx, hBx, bX, rfl⟩ hlt
    obtain ⟨v, h1, h2⟩ := hI.own
    have hle := hI.le
    refine wpIn_mono (hbody lb x W Bx v pre (fun W' => KeepsFrom w3.heap.size W W' ∧ Below B8 W W' ∧ MI B8 w3 (pre ++ [x]) W') h1 bX h2 (by omega) hle h8lt fun v' w' h3 h4 => ?_) ?_
    · have hA := h2.alloc (.cells #[.int .i32 x.lo, .int .i32 x.hi, .int .i64 x.val] 24)
      have hk := fun k (hk : v.ownBlock = some k) => (World.ownsRow.lt hA k hk).1
      have hbB : Below B8 W w' := ((Below.refl _ W).alloc (by omega) _).grown h4 (by simp; omega) (fun k e => by have := hk k e; omega)
      have n8 : ∀ b, b < w3.heap.size → some b ≠ v.ownBlock := fun b hb e => by have := hk b e.symm; omega
      have h18 : Blk w' B8 22 #[v] := (h1.alloc _).grown h4 (n8 B8 h8lt)
      have hne : v'.ownBlock ≠ some B8 := fun e => by have := (World.ownsRow.lt h3 B8 e).1; omega
      refine ⟨(((KeepsOthers.alloc _ _).trans (keeps_row hA h4)).trans (KeepsOthers.setCell _ _ _)).from _, hbB.setCell (p := ⟨B8, 0, none⟩) (Nat.le_refl _) _, ⟨v', by simpa using h18.set_ 0 v', h3.set_ hne v'⟩, fun b t cs hb h => ?_, (hI.bel.trans hbB).setCell (p := ⟨B8, 0, none⟩) (Nat.le_refl _) _, ?_⟩
      · exact (((hI.keep b t cs hb h).alloc _).grown h4 (n8 b h.lt)).far (by simp; omega) v'
      · have := h4.size
        simp at this ⊢
        omega
    · rintro e a2 w2 ⟨rfl, h3⟩
      exact h3
  case done =>
    rintro D ys W hD rfl hI hK
    obtain ⟨v, h1, h2⟩ := hI.own
    exact hdone D v W hD h1 h2 hI.keep hI.bel hI.le hK
  case stop =>
    rintro D c pre W _ _ h _
    exact h.elim
end Go.Proofs.Ytpghnoadeamplaa
