/- Slices of records of one-cell fields, whatever the record: read, owned, appended to. -/
import Derived.Test.YtgjcomnljonffaaTWrite
import Derived.WalkKit
import Derived.ProofKit
import Derived.Below
import Derived.BigQuiet
import Derived.IntWalk
import Derived.Deep.QuietTactic
import Derived.LoopTactic
import Derived.LoopN
import Derived.Lib.Hide
import Derived.WalkSpells
import Derived.ScopeJumps
import Derived.OwnWalk
import Derived.OwnWalkIn
import Derived.Deep.MidRow
import Derived.Deep.AppendLies
import Derived.Deep.RegionLaw
import Derived.Deep.DrawnRows
import Derived.RangeFuncNested
namespace Go.Proofs.Ytgjcomnljonffaa.Tlv
open Go.RowKit
set_option maxRecDepth 100000
set_option linter.unusedVariables false
set_option linter.unusedSimpArgs false
section
variable {w w' : World} {g : Nat} {t : TypeId} {cs : Array Value}
theorem Blk.far (h : Blk w g t cs) {p : Addr} (hp : g ≠ p.block) (u : Value) : Blk (w.setCell p u) g t cs := (Below.heap_setCell w p u g hp).trans h
theorem Blk.on (h : Blk w g t cs) (hb : Below w.heap.size w w') : Blk w' g t cs := h.below hb h.lt
theorem Blk.drew (h : Blk w g t cs) : Blk w.drew g t cs := h
theorem Blk.drewN (h : Blk w g t cs) (n : Nat) : Blk (w.drewN n) g t cs := h
end
theorem below_drewN {B : Nat} {a w : World} (h : Below B a w) (n : Nat) : Below B a (w.drewN n) := ⟨h.os, h.tape, h.output, h.size, h.block⟩
theorem le_alloc {n : Nat} {w : World} {o : Obj} (h : n ≤ w.heap.size) : n ≤ (w.alloc o).heap.size := by simp; omega
theorem le_alloc_drew {n : Nat} {w : World} {o : Obj} (h : n ≤ w.heap.size) : n ≤ ((w.alloc o).drew).heap.size := le_alloc h
theorem grown_none {w w' : World} {B : Nat} (hg : w.grownBy w' none) (hB : B ≤ w.heap.size) : Below B w w' :=
  (Below.refl B w).grown hg hB (fun k hk => by cases hk)
theorem below_acc {N : Nat} {args : Array Value} {u : Value} {w0 W : World} (hb : Below w0.heap.size w0 W) (h : Calls Try.prog N args W fun e w' => e = .returned u ∧ Below W.heap.size W w') :
    Calls Try.prog N args W fun e w' => e = .returned u ∧ Below w0.heap.size w0 w' := h.mono fun e w' ⟨h1, h2⟩ => ⟨h1, hb.trans (h2.mono hb.size)⟩

theorem blk_not {w : World} {b : Nat} {t : TypeId} {cs : Array Value} (h : Blk w b t cs) {row : Option Nat} (hr : ∀ r, row = some r → ∃ o : Obj, w.heap[r]? = some o ∧ o.isCells = false) : some b ≠ row := fun e => by
  obtain ⟨o, ho, hc⟩ := hr b e.symm
  unfold Blk at h
  rw [h] at ho
  cases ho
  cases hc


/-- A kind of records: their type, their slices' type, their cells. -/
structure Kind (α : Type) where
  e : TypeId
  st : TypeId
  size : Nat
  bytes : Nat
  cs : α → List Value
  len : ∀ x, (cs x).length = size
  one : ∀ x, ∀ u ∈ cs x, u.oneCell' = true
  pos : 0 < size
  sl : Try.prog.underlying st = some (.slice e)
  zero : ∃ (i : TypeInfo) (z : Value), Try.prog.info? e = some i ∧ i.zero = some z ∧ i.size = size ∧ i.bytes = bytes ∧ z.cells.size = size
  small : bytes ≤ 1000

section
variable {α : Type} (K : Kind α)
abbrev flatK (l : List α) : List Value := l.flatMap K.cs
theorem flat_length (l : List α) : (flatK K l).length = l.length * K.size := by
  induction l with
  | nil => simp [flatK]
  | cons x t ih => simp only [flatK, List.flatMap_cons, List.length_append, List.length_cons] at *; rw [ih, K.len, Nat.add_mul, Nat.one_mul, Nat.add_comm]
theorem flat_one (l : List α) : ∀ u ∈ flatK K l, u.oneCell' = true := fun u hu => by
  obtain ⟨x, _, hx⟩ := List.mem_flatMap.1 hu
  exact K.one x u hx

/-- A slice that the call owns, from block 'base' on. -/
def RowK (w : World) (base : Nat) (v : Value) (l : List α) : Prop := w.ownsRow base K.e K.size v l.length (flatK K l)
variable {K} {w w' : World} {l : List α} {B base : Nat} {v : Value}
theorem RowK.alloc (h : RowK K w base v l) (o : Obj) : RowK K (w.alloc o) base v l := World.ownsRow.alloc h o
theorem RowK.drew (h : RowK K w base v l) : RowK K w.drew base v l := h
theorem RowK.drewN (h : RowK K w base v l) (n : Nat) : RowK K (w.drewN n) base v l := h
theorem nil_row (K : Kind α) (w : World) (base : Nat) : RowK K w base (.slice none 0 0) [] := World.ownsRow_nil _ _ _ _
theorem row_below (h : RowK K w base v l) (hg : w.grownBy w' v.ownBlock) (hb : base ≤ w.heap.size) : Below base w w' :=
  (Below.refl base w).grown hg hb (fun k hk => (World.ownsRow.lt h k hk).1)
theorem own_cells (h : RowK K w base v l) {k : Nat} {o : Obj} (hk : v.ownBlock = some k) (ho : w.heap[k]? = some o) : o.isCells = true := by
  rcases h.2 with ⟨rfl, _⟩ | ⟨g, cap, cur, rfl, _, hh, _⟩
  · simp [Value.ownBlock] at hk
  · have : g = k := by simpa [Value.ownBlock] using hk
    subst this
    rw [hh] at ho
    cases ho
    rfl
theorem row_kept {row : Option Nat} (h : RowK K w base v l) (hg : w.grownBy w' row) (hr : ∀ r, row = some r → ∃ o : Obj, w.heap[r]? = some o ∧ o.isCells = false) : RowK K w' base v l := by
  refine World.ownsRow.kept h hg ?_
  cases hv : v.ownBlock with
  | none => exact .inl rfl
  | some k =>
    refine .inr fun e => ?_
    obtain ⟨o, ho, hc⟩ := hr k e.symm
    rw [own_cells h hv ho] at hc
    cases hc
end
section
variable {α : Type} [Inhabited α] (K : Kind α)
theorem flat_at : ∀ (l : List α) (j i : Nat), j < l.length → i < K.size → (flatK K l)[j * K.size + i]? = (K.cs (l.getD j default))[i]? := by
  intro l
  induction l with
  | nil => intro j i hj; simp at hj
  | cons x t ih =>
    intro j i hj hi
    simp only [flatK, List.flatMap_cons]
    have h3 := K.len x
    cases j with
    | zero => rw [List.getElem?_append_left (by omega)]; simp
    | succ j =>
      have e : (j + 1) * K.size = j * K.size + K.size := by rw [Nat.add_mul, Nat.one_mul]
      rw [List.getElem?_append_right (by omega), h3, show (j + 1) * K.size + i - K.size = j * K.size + i from by omega]
      have := ih j i (by simpa using hj) hi
      simpa using this
theorem flat_get : ∀ (l : List α) (j : Nat) (u : Value), (flatK K l)[j]? = some u → ∃ i c, i < l.length ∧ j = i * K.size + c ∧ (K.cs (l.getD i default))[c]? = some u := by
  intro l j u h
  have hp := K.pos
  have hlt : j < l.length * K.size := by rw [← flat_length]; exact (List.getElem?_eq_some_iff.1 h).1
  have hi : j / K.size < l.length := (Nat.div_lt_iff_lt_mul hp).2 hlt
  have hj : j = j / K.size * K.size + j % K.size := by rw [Nat.mul_comm]; exact (Nat.div_add_mod j K.size).symm
  refine ⟨j / K.size, j % K.size, hi, hj, ?_⟩
  rw [← flat_at K l _ _ hi (Nat.mod_lt _ hp), ← hj]
  exact h
/-- The slice that begins at A reads as l, below block B. -/
def RdK (w : World) (B : Nat) (A : Option Addr) (l : List α) : Prop := 0 < l.length → ∃ b off, A = some ⟨b, off, none⟩ ∧ b < B ∧ ∀ j, j < l.length → ∀ (i : Nat) (u : Value), (K.cs (l.getD j default))[i]? = some u → w.cell? ⟨b, off + j * K.size + i, none⟩ = some u
variable {K} {w w' : World} {l : List α} {A : Option Addr} {B base : Nat} {v : Value}
theorem RdK.below (h : RdK K w B A l) (hb : Below B w w') : RdK K w' B A l := fun hp => by
  obtain ⟨b, off, e, hlt, hc⟩ := h hp
  exact ⟨b, off, e, hlt, fun j hj i v hv => (hb.cell (p := ⟨b, off + j * K.size + i, none⟩) hlt).trans (hc j hj i v hv)⟩
theorem RdK.more {B' : Nat} (h : RdK K w B A l) (hB : B ≤ B') : RdK K w B' A l := fun hp => by
  obtain ⟨b, off, e, hlt, hc⟩ := h hp
  exact ⟨b, off, e, by omega, hc⟩
theorem RdK.on (h : RdK K w w.heap.size A l) (hb : Below w.heap.size w w') : RdK K w' w'.heap.size A l := (h.below hb).more hb.size
theorem RdK.drew (h : RdK K w B A l) : RdK K w.drew B A l := h
theorem rd_none : RdK K w B none l → l = [] := fun h => by
  cases l with
  | nil => rfl
  | cons x t => obtain ⟨b, off, e, _⟩ := h (by simp); cases e
theorem rd_block {g : Nat} {cs : Array Value} (h : Blk w g K.e cs) (e : cs.toList = flatK K l) : RdK K w w.heap.size (some ⟨g, 0, none⟩) l := fun hp => by
  refine ⟨g, 0, rfl, h.lt, fun j hj i v hv => ?_⟩
  have hi : i < K.size := by
    have := (List.getElem?_eq_some_iff.1 hv).1
    rwa [K.len] at this
  rw [h.cell, ← Array.getElem?_toList, e, show 0 + j * K.size + i = j * K.size + i from by omega, flat_at K l j i hj hi]
  exact hv
theorem RowK.rd0 (h : RowK K w base v l) : ∃ A c, v = .slice A l.length c ∧ (A = none → c = 0) ∧ RdK K w w.heap.size A l := by
  have hl := flat_length K l
  rcases h.2 with ⟨rfl, h0⟩ | ⟨g, cap, cur, rfl, _, hh, _, _, hcs, htk⟩
  · obtain rfl : l = [] := List.eq_nil_of_length_eq_zero h0
    exact ⟨none, 0, rfl, fun _ => rfl, fun h => by simp at h⟩
  · refine ⟨_, cap, rfl, fun h => (by cases h), fun _ => ⟨g, 0, rfl, (Array.getElem?_eq_some_iff.1 hh).1, fun j hj i u hu => ?_⟩⟩
    have hi : i < K.size := by
      have := (List.getElem?_eq_some_iff.1 hu).1
      rwa [K.len] at this
    have hlt : j * K.size + i < l.length * K.size := by
      have : (j + 1) * K.size ≤ l.length * K.size := Nat.mul_le_mul_right _ hj
      rw [Nat.add_mul, Nat.one_mul] at this
      omega
    rw [cell_of_row w g _ cur K.e (0, 0) hh, ← Array.getElem?_toList, show 0 + j * K.size + i = j * K.size + i from by omega, ← hu, ← flat_at K l j i hj hi]
    have : (flatK K l)[j * K.size + i]? = (cur.toList.take (l.length * K.size))[j * K.size + i]? := by rw [htk]
    rw [this, List.getElem?_take_of_lt hlt]
theorem RowK.rdn (h : RowK K w base v l) : ∃ A c n, Hid (n = l.length) ∧ v = .slice A n c ∧ (A = none → c = 0) ∧ RdK K w w.heap.size A l := by
  obtain ⟨A, c, e, h1, h2⟩ := h.rd0
  exact ⟨A, c, _, Lib.hid rfl, e, h1, h2⟩
/-- append, of a slice that may be nil. -/
theorem run_app (ty : TypeId) {c : Nat} (m : List α) (hown : RowK K w base v l) (hr : RdK K w B A m) (hA : A = none → c = 0)
    (hn : l.length + m.length ≤ 1000000000) (hb : base ≤ w.heap.size) :
    ∃ v' w', (Builtin.append_ #[K.st, K.st] ty #[v, .slice A m.length c]).run Try.prog w = .ok v' w' ∧ RowK K w' base v' (l ++ m) ∧ w.grownBy w' v.ownBlock := by
  obtain ⟨i0, z, hi, hz0, hz1, hz2, hz3⟩ := K.zero
  cases A with
  | none =>
    have hm : m = [] := rd_none hr
    subst hm
    have hc := hA rfl
    subst hc
    exact ⟨v, w, run_append_owned_none (P := Try.prog) (w := w) base K.st ty K.e i0 K.size K.sl hi v l.length (flatK K l) hown, by simpa using hown, World.grownBy.refl _ _⟩
  | some ad =>
    have hby : (l.length + m.length) * K.bytes ≤ 140737488355328 := by
      have := Nat.mul_le_mul hn K.small
      omega
    obtain ⟨v', w', h1, h2, h3, _, _⟩ := run_append_own_at (P := Try.prog) w base K.st ty K.e i0 z K.size K.bytes K.sl hi hz0 hz1 hz2 hz3 K.pos v l.length (flatK K l) hown ad m.length c (flatK K m) (flat_length K m)
      (fun j u hu => by
        obtain ⟨i, q, hi', rfl, hq⟩ := flat_get K m j u hu
        obtain ⟨b, off, e, hlt, hc⟩ := hr (by omega)
        injection e with e
        subst e
        rw [Addr.add_mid, ← Nat.add_assoc]
        exact hc i hi' q u hq) (flat_one K m) (by unfold maxLen; omega) hby hb
    exact ⟨v', w', h1, by unfold RowK flatK; simpa using h2, h3⟩
end
section
variable {α : Type} [Inhabited α] (K : Kind α) {w : World} {ops : Array Oper} {rest : List Oper} {o : Oper} {a : Act} {Q : Exit → Act → World → Prop}
theorem wpList_appK (hgd : o.guard = none) (s x : Operand)
    (ho : o.op = .call { callee := .builtin .append, args := #[s, x], argTypes := #[K.st, K.st] })
    {base B : Nat} {v : Value} {l : List α} {A : Option Addr} {c : Nat} (m : List α) (hs : a.eval s = v) (hown : RowK K w base v l) (hx : a.eval x = .slice A m.length c) (hr : RdK K w B A m) (hA : A = none → c = 0)
    (hn : l.length + m.length ≤ 1000000000) (hb : base ≤ w.heap.size)
    (h : ∀ v' w', RowK K w' base v' (l ++ m) → w.grownBy w' v.ownBlock → wpList Try.prog ops Q rest (a.put o.dst v') w') :
    wpList Try.prog ops Q (o :: rest) a w := by
  refine wpList_plain hgd fun K' hK => ?_
  obtain ⟨v', w', h1, h2, h3⟩ := run_app o.type m hown hr hA hn hb
  unfold Oper.wp
  simp [execOp, ho, resolve, invoke, builtin, hs, hx, h1, Result.andThen]
  exact hK _ _ (h v' w' h2 h3)
theorem step_app {K' : Act → World → Prop} {E : Prop} (hgd : o.guard = none) (s x : Operand)
    (ho : o.op = .call { callee := .builtin .append, args := #[s, x], argTypes := #[K.st, K.st] })
    {base B : Nat} {v : Value} {l : List α} {A : Option Addr} {c : Nat} (m : List α) (hs : a.eval s = v) (hown : RowK K w base v l) (hx : a.eval x = .slice A m.length c) (hr : RdK K w B A m) (hA : A = none → c = 0)
    (hn : l.length + m.length ≤ 1000000000) (hb : base ≤ w.heap.size)
    (h : ∀ v' w', RowK K w' base v' (l ++ m) → w.grownBy w' v.ownBlock → K' (a.put o.dst v') w') :
    if Region.wanted o (yielded ops a.tmps) = true then Oper.wp Try.prog o a w K' Q else E := by
  have hw : Region.wanted o (yielded ops a.tmps) = true := by simp [Region.wanted, hgd]
  rw [if_pos hw]
  obtain ⟨v', w', h1, h2, h3⟩ := run_app o.type m hown hr hA hn hb
  unfold Oper.wp
  simp only [execOp, ho, resolve, invoke, builtin, Sem.run_bind, Sem.run_pure, Result.andThen_ok, List.map_toArray, List.map_cons, List.map_nil, hs, hx, h1]
  exact h v' w' h2 h3
theorem wpListIn_app {F : Fence} {n : Nat} (hgd : o.guard = none) (s x : Operand)
    (ho : o.op = .call { callee := .builtin .append, args := #[s, x], argTypes := #[K.st, K.st] })
    {base B : Nat} {v : Value} {l : List α} {A : Option Addr} {c : Nat} (m : List α) (hs : a.eval s = v) (hown : RowK K w base v l) (hx : a.eval x = .slice A m.length c) (hr : RdK K w B A m) (hA : A = none → c = 0)
    (hn : l.length + m.length ≤ 1000000000) (hb : base ≤ w.heap.size)
    (h : ∀ v' w', RowK K w' base v' (l ++ m) → w.grownBy w' v.ownBlock → wpListIn F n Try.prog ops Q rest (a.put o.dst v') w') :
    wpListIn F n Try.prog ops Q (o :: rest) a w := by
  refine wpListIn_plain hgd fun K' hK => ?_
  obtain ⟨v', w', h1, h2, h3⟩ := run_app o.type m hown hr hA hn hb
  unfold Oper.wpIn
  refine ⟨?_, ?_⟩
  · simp [Oper.about, ho, resolve, Target.leads, Sem.run_pure]
  · rw [Oper.semAt_plain F _ _ (by rw [ho]; intro c hc'; cases hc')]
    simp [execOp, ho, resolve, invoke, builtin, hs, hx, h1, Result.andThen]
    exact hK _ _ (h v' w' h2 h3)
end
end Go.Proofs.Ytgjcomnljonffaa.Tlv
