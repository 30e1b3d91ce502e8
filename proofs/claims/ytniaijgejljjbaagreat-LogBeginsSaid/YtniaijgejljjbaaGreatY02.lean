/- tlv.value cuts the first value off bytes. -/
import Derived.Test.YtniaijgejljjbaaGreatY01
import Derived.ScopeJumps
import Derived.Laws.BitsAllLaws
import Derived.WalkKit
import Derived.ProofKit
import Derived.Below
import Derived.BigQuiet
import Derived.IntWalk
import Derived.Deep.QuietTactic
import Derived.LoopTactic
import Derived.LoopN
import Derived.Lib.Hide
import Derived.WalkSpells
import Derived.OwnWalk
import Derived.OwnWalkIn
import Derived.Deep.MidRow
import Derived.Deep.AppendLies
import Derived.Deep.RegionLaw
import Derived.Deep.DrawnRows
import Derived.RangeFuncNested
namespace Go.Proofs.YtniaijgejljjbaaGreat.Tlv
open Go.RowKit
set_option maxRecDepth 100000
set_option linter.unusedVariables false
def nv (l : List Int) : Nat := (l.getD 1 0 * 16777216 + l.getD 2 0 * 65536 + l.getD 3 0 * 256 + l.getD 4 0).toNat
def stands (l : List Int) : Bool := decide (5 ≤ l.length ∧ l.getD 0 0 ≠ 0 ∧ nv l ≤ 4194304 ∧ 5 + nv l ≤ l.length)
def Byt (l : List Int) : Prop := ∀ x ∈ l, 0 ≤ x ∧ x ≤ 255
end Go.Proofs.YtniaijgejljjbaaGreat.Tlv
namespace Go.Proofs.YtniaijgejljjbaaGreat.Tlv
open Go.RowKit
set_option maxRecDepth 100000
set_option linter.unusedVariables false
set_option linter.unusedSimpArgs false
section
variable {w w' : World} {g : Nat} {t : TypeId} {cs : Array Value}
theorem Blk.far (h : Blk w g t cs) {p : Addr} (hp : g ≠ p.block) (u : Value) : Blk (w.setCell p u) g t cs := (Below.heap_setCell w p u g hp).trans h
theorem Blk.on (h : Blk w g t cs) (hb : Below w.heap.size w w') : Blk w' g t cs := h.below hb h.lt
theorem Blk.drew (h : Blk w g t cs) : Blk w.drew g t cs := h
end
theorem below_drewN {B : Nat} {a w : World} (h : Below B a w) (n : Nat) : Below B a (w.drewN n) := ⟨h.os, h.tape, h.output, h.size, h.block⟩
structure Kind (α : Type) where
 e : TypeId
 st : TypeId
 size : Nat
 bytes : Nat
 cs : α → List Value
 len : ∀ x, (cs x).length = size
 one : ∀ x, ∀ u ∈ cs x, u.oneCell' = true
 pos : 0 < size
 sl : Tryz.prog.underlying st = some (.slice e)
 zero : ∃ (i : TypeInfo) (z : Value), Tryz.prog.info? e = some i ∧ i.zero = some z ∧ i.size = size ∧ i.bytes = bytes ∧ z.cells.size = size
 small : bytes ≤ 1000
section
variable {α : Type} (K : Kind α)
abbrev flatK (l : List α) : List Value := l.flatMap K.cs
theorem flat_length (l : List α) : (flatK K l).length = l.length * K.size := by
 induction l with
 | nil => simp [flatK]
 | cons x t ih => simp only [flatK, List.flatMap_cons, List.length_append, List.length_cons] at *; rw [ih, K.len, Nat.add_mul, Nat.one_mul, Nat.add_comm]
theorem flat_one (l : List α) : ∀ u ∈ flatK K l, u.oneCell' = true := fun u hu => by
 obtain ⟨x, _, hx⟩ := List.mem_flatMap.1 hu
 exact K.one x u hx
def RowK (w : World) (base : Nat) (v : Value) (l : List α) : Prop := w.ownsRow base K.e K.size v l.length (flatK K l)
variable {K} {w w' : World} {l : List α} {B base : Nat} {v : Value}
theorem RowK.alloc (h : RowK K w base v l) (o : Obj) : RowK K (w.alloc o) base v l := World.ownsRow.alloc h o
theorem nil_row (K : Kind α) (w : World) (base : Nat) : RowK K w base (.slice none 0 0) [] := World.ownsRow_nil _ _ _ _
theorem row_below (h : RowK K w base v l) (hg : w.grownBy w' v.ownBlock) (hb : base ≤ w.heap.size) : Below base w w' :=
 (Below.refl base w).grown hg hb (fun k hk => (World.ownsRow.lt h k hk).1)
end
section
variable {α : Type} [Inhabited α] (K : Kind α)
theorem flat_at : ∀ (l : List α) (j i : Nat), j < l.length → i < K.size → (flatK K l)[j * K.size + i]? = (K.cs (l.getD j default))[i]? := by
 intro l
 induction l with
 | nil => intro j i hj; simp at hj
 | cons x t ih =>
   intro j i hj hi
   simp only [flatK, List.flatMap_cons]
   have h3 := K.len x
   cases j with
   | zero => rw [List.getElem?_append_left (by omega)]; simp
   | succ j =>
     have e : (j + 1) * K.size = j * K.size + K.size := by rw [Nat.add_mul, Nat.one_mul]
     rw [List.getElem?_append_right (by omega), h3, show (j + 1) * K.size + i - K.size = j * K.size + i from by omega]
     have := ih j i (by simpa using hj) hi
     simpa using this
theorem flat_get : ∀ (l : List α) (j : Nat) (u : Value), (flatK K l)[j]? = some u → ∃ i c, i < l.length ∧ j = i * K.size + c ∧ (K.cs (l.getD i default))[c]? = some u := by
 intro l j u h
 have hp := K.pos
 have hlt : j < l.length * K.size := by rw [← flat_length]; exact (List.getElem?_eq_some_iff.1 h).1
 have hi : j / K.size < l.length := (Nat.div_lt_iff_lt_mul hp).2 hlt
 have hj : j = j / K.size * K.size + j % K.size := by rw [Nat.mul_comm]; exact (Nat.div_add_mod j K.size).symm
 refine ⟨j / K.size, j % K.size, hi, hj, ?_⟩
 rw [← flat_at K l _ _ hi (Nat.mod_lt _ hp), ← hj]
 exact h
def RdK (w : World) (B : Nat) (A : Option Addr) (l : List α) : Prop := 0 < l.length → ∃ b off, A = some ⟨b, off, none⟩ ∧ b < B ∧ ∀ j, j < l.length → ∀ (i : Nat) (u : Value), (K.cs (l.getD j default))[i]? = some u → w.cell? ⟨b, off + j * K.size + i, none⟩ = some u
variable {K} {w w' : World} {l : List α} {A : Option Addr} {B base : Nat} {v : Value}
theorem RdK.below (h : RdK K w B A l) (hb : Below B w w') : RdK K w' B A l := fun hp => by
 obtain ⟨b, off, e, hlt, hc⟩ := h hp
 exact ⟨b, off, e, hlt, fun j hj i v hv => (hb.cell (p := ⟨b, off + j * K.size + i, none⟩) hlt).trans (hc j hj i v hv)⟩
theorem RdK.more {B' : Nat} (h : RdK K w B A l) (hB : B ≤ B') : RdK K w B' A l := fun hp => by
 obtain ⟨b, off, e, hlt, hc⟩ := h hp
 exact ⟨b, off, e, by omega, hc⟩
theorem RdK.on (h : RdK K w w.heap.size A l) (hb : Below w.heap.size w w') : RdK K w' w'.heap.size A l := (h.below hb).more hb.size
theorem rd_none : RdK K w B none l → l = [] := fun h => by
 cases l with
 | nil => rfl
 | cons x t => obtain ⟨b, off, e, _⟩ := h (by simp); cases e
theorem rd_block {g : Nat} {cs : Array Value} (h : Blk w g K.e cs) (e : cs.toList = flatK K l) : RdK K w w.heap.size (some ⟨g, 0, none⟩) l := fun hp => by
 refine ⟨g, 0, rfl, h.lt, fun j hj i v hv => ?_⟩
 have hi : i < K.size := by
   have := (List.getElem?_eq_some_iff.1 hv).1
   rwa [K.len] at this
 rw [h.cell, ← Array.getElem?_toList, e, show 0 + j * K.size + i = j * K.size + i from by omega, flat_at K l j i hj hi]
 exact hv
theorem RowK.rd0 (h : RowK K w base v l) : ∃ A c, v = .slice A l.length c ∧ (A = none → c = 0) ∧ RdK K w w.heap.size A l := by
 have hl := flat_length K l
 rcases h.2 with ⟨rfl, h0⟩ | ⟨g, cap, cur, rfl, _, hh, _, _, hcs, htk⟩
 · obtain rfl : l = [] := List.eq_nil_of_length_eq_zero h0
   exact ⟨none, 0, rfl, fun _ => rfl, fun h => by simp at h⟩
 · refine ⟨_, cap, rfl, fun h => (by cases h), fun _ => ⟨g, 0, rfl, (Array.getElem?_eq_some_iff.1 hh).1, fun j hj i u hu => ?_⟩⟩
   have hi : i < K.size := by
     have := (List.getElem?_eq_some_iff.1 hu).1
     rwa [K.len] at this
   have hlt : j * K.size + i < l.length * K.size := by
     have : (j + 1) * K.size ≤ l.length * K.size := Nat.mul_le_mul_right _ hj
     rw [Nat.add_mul, Nat.one_mul] at this
     omega
   rw [cell_of_row w g _ cur K.e (0, 0) hh, ← Array.getElem?_toList, show 0 + j * K.size + i = j * K.size + i from by omega, ← hu, ← flat_at K l j i hj hi]
   have : (flatK K l)[j * K.size + i]? = (cur.toList.take (l.length * K.size))[j * K.size + i]? := by rw [htk]
   rw [this, List.getElem?_take_of_lt hlt]
theorem RowK.rdn (h : RowK K w base v l) : ∃ A c n, Hid (n = l.length) ∧ v = .slice A n c ∧ (A = none → c = 0) ∧ RdK K w w.heap.size A l := by
 obtain ⟨A, c, e, h1, h2⟩ := h.rd0
 exact ⟨A, c, _, Lib.hid rfl, e, h1, h2⟩
theorem run_app (ty : TypeId) {c : Nat} (m : List α) (hown : RowK K w base v l) (hr : RdK K w B A m) (hA : A = none → c = 0)
   (hn : l.length + m.length ≤ 1000000000) (hb : base ≤ w.heap.size) :
   ∃ v' w', (Builtin.append_ #[K.st, K.st] ty #[v, .slice A m.length c]).run Tryz.prog w = .ok v' w' ∧ RowK K w' base v' (l ++ m) ∧ w.grownBy w' v.ownBlock := by
 obtain ⟨i0, z, hi, hz0, hz1, hz2, hz3⟩ := K.zero
 cases A with
 | none =>
   have hm : m = [] := rd_none hr
   subst hm
   have hc := hA rfl
   subst hc
   exact ⟨v, w, run_append_owned_none (P := Tryz.prog) (w := w) base K.st ty K.e i0 K.size K.sl hi v l.length (flatK K l) hown, by simpa using hown, World.grownBy.refl _ _⟩
 | some ad =>
   have hby : (l.length + m.length) * K.bytes ≤ 140737488355328 := by
     have := Nat.mul_le_mul hn K.small
     omega
   obtain ⟨v', w', h1, h2, h3, _, _⟩ := run_append_own_at (P := Tryz.prog) w base K.st ty K.e i0 z K.size K.bytes K.sl hi hz0 hz1 hz2 hz3 K.pos v l.length (flatK K l) hown ad m.length c (flatK K m) (flat_length K m)
     (fun j u hu => by
       obtain ⟨i, q, hi', rfl, hq⟩ := flat_get K m j u hu
       obtain ⟨b, off, e, hlt, hc⟩ := hr (by omega)
       injection e with e
       subst e
       rw [Addr.add_mid, ← Nat.add_assoc]
       exact hc i hi' q u hq) (flat_one K m) (by unfold maxLen; omega) hby hb
   exact ⟨v', w', h1, by unfold RowK flatK; simpa using h2, h3⟩
end
section
variable {α : Type} [Inhabited α] (K : Kind α) {w : World} {ops : Array Oper} {rest : List Oper} {o : Oper} {a : Act} {Q : Exit → Act → World → Prop}
theorem wpList_appK (hgd : o.guard = none) (s x : Operand)
   (ho : o.op = .call { callee := .builtin .append, args := #[s, x], argTypes := #[K.st, K.st] })
   {base B : Nat} {v : Value} {l : List α} {A : Option Addr} {c : Nat} (m : List α) (hs : a.eval s = v) (hown : RowK K w base v l) (hx : a.eval x = .slice A m.length c) (hr : RdK K w B A m) (hA : A = none → c = 0)
   (hn : l.length + m.length ≤ 1000000000) (hb : base ≤ w.heap.size)
   (h : ∀ v' w', RowK K w' base v' (l ++ m) → w.grownBy w' v.ownBlock → wpList Tryz.prog ops Q rest (a.put o.dst v') w') :
   wpList Tryz.prog ops Q (o :: rest) a w := by
 refine wpList_plain hgd fun K' hK => ?_
 obtain ⟨v', w', h1, h2, h3⟩ := run_app o.type m hown hr hA hn hb
 unfold Oper.wp
 simp [execOp, ho, resolve, invoke, builtin, hs, hx, h1, Result.andThen]
 exact hK _ _ (h v' w' h2 h3)
theorem step_app {K' : Act → World → Prop} {E : Prop} (hgd : o.guard = none) (s x : Operand)
   (ho : o.op = .call { callee := .builtin .append, args := #[s, x], argTypes := #[K.st, K.st] })
   {base B : Nat} {v : Value} {l : List α} {A : Option Addr} {c : Nat} (m : List α) (hs : a.eval s = v) (hown : RowK K w base v l) (hx : a.eval x = .slice A m.length c) (hr : RdK K w B A m) (hA : A = none → c = 0)
   (hn : l.length + m.length ≤ 1000000000) (hb : base ≤ w.heap.size)
   (h : ∀ v' w', RowK K w' base v' (l ++ m) → w.grownBy w' v.ownBlock → K' (a.put o.dst v') w') :
   if Region.wanted o (yielded ops a.tmps) = true then Oper.wp Tryz.prog o a w K' Q else E := by
 have hw : Region.wanted o (yielded ops a.tmps) = true := by simp [Region.wanted, hgd]
 rw [if_pos hw]
 obtain ⟨v', w', h1, h2, h3⟩ := run_app o.type m hown hr hA hn hb
 unfold Oper.wp
 simp only [execOp, ho, resolve, invoke, builtin, Sem.run_bind, Sem.run_pure, Result.andThen_ok, List.map_toArray, List.map_cons, List.map_nil, hs, hx, h1]
 exact h v' w' h2 h3
end
end Go.Proofs.YtniaijgejljjbaaGreat.Tlv
namespace Go.Proofs.YtniaijgejljjbaaGreat.Tlv
open Go.RowKit
set_option maxRecDepth 100000
set_option linter.unusedVariables false
set_option linter.unusedSimpArgs false
def items (l : List Int) : List (Int × List Int) :=
 if h : stands l = true then (l.getD 0 0, (l.drop 5).take (nv l)) :: items (l.drop (5 + nv l)) else []
termination_by l.length
decreasing_by
 have h1 := of_decide_eq_true h
 simp only [List.length_drop]
 omega
def endP (l : List Int) : Nat := if h : stands l = true then 5 + nv l + endP (l.drop (5 + nv l)) else 0
termination_by l.length
decreasing_by
 have h1 := of_decide_eq_true h
 simp only [List.length_drop]
 omega
theorem info5' : ∃ (i : TypeInfo) (z : Value), Tryz.prog.info? 5 = some i ∧ i.zero = some z ∧ i.size = 1 ∧ i.bytes = 1 ∧ z.cells.size = 1 := by
 obtain ⟨i, hi, h0, h1, h2⟩ := info_parts info5
 exact ⟨i, _, hi, h0, h1, h2, rfl⟩
def kB : Kind Int where
 e := 5
 st := 42
 size := 1
 bytes := 1
 cs := fun x => [.int .u8 x]
 len := fun _ => rfl
 one := fun x u hu => by simp at hu; subst hu; rfl
 pos := by decide
 sl := Tryz.underlying42
 zero := info5'
 small := by decide
theorem flat_b (l : List Int) : flatK kB l = l.map (Value.int .u8) := by
 unfold flatK kB
 induction l with
 | nil => rfl
 | cons x t ih => simp only [List.flatMap_cons, List.map_cons, ih]; rfl
theorem row_k {w : World} {base : Nat} {v : Value} {l : List Int} : RowK kB w base v l ↔ Row w base v l := by
 unfold RowK Row
 rw [flat_b]
 exact Iff.rfl
theorem rd_k {w : World} {B : Nat} {A : Option Addr} {l : List Int} (h : Rd w B A l) : RdK kB w B A l := fun hp => by
 obtain ⟨b, off, e, hlt, hc⟩ := h hp
 refine ⟨b, off, e, hlt, fun j hj i u hu => ?_⟩
 have hi : i = 0 := by
   have := (List.getElem?_eq_some_iff.1 hu).1
   have : i < 1 := this
   omega
 subst hi
 have := hc j hj
 rw [show off + j * kB.size + 0 = off + j from by show off + j * 1 + 0 = _; omega, this]
 simpa [kB] using hu
theorem k_rd {w : World} {B : Nat} {A : Option Addr} {l : List Int} (h : RdK kB w B A l) : Rd w B A l := fun hp => by
 obtain ⟨b, off, e, hlt, hc⟩ := h hp
 refine ⟨b, off, e, hlt, fun j hj => ?_⟩
 have := hc j hj 0 (.int .u8 (l.getD j 0)) rfl
 rwa [show off + j * kB.size + 0 = off + j from by show off + j * 1 + 0 = _; omega] at this
def WS (W : World) (base g : Nat) (s : Option (List Int)) (m : Nat) : Prop :=
 match s with
 | some l => ∃ v, Blk W g 91 #[v, .int .i64 m, .int .i64 0] ∧ Row W base v l
 | none => ∃ v, Blk W g 91 #[v, .int .i64 m, .int .i64 2]
def putS (s : Option (List Int)) (tag : Int) (xs : List Int) : Option (List Int) := s.bind fun l => if tag = 0 then none else some (l ++ (tag :: be4 xs.length) ++ xs)
def cntS (s : Option (List Int)) (tag : Int) (m : Nat) : Nat := if s.isSome = true ∧ tag ≠ 0 then m + 1 else m
theorem WS.lt {W : World} {base g m : Nat} {s : Option (List Int)} (h : WS W base g s m) : g < W.heap.size := by
 cases s with
 | some l => obtain ⟨v, h, _⟩ := h; exact h.lt
 | none => obtain ⟨v, h⟩ := h; exact h.lt
theorem Row.below {W W' : World} {base : Nat} {v : Value} {l : List Int} (h : Row W base v l) (hb : Below W.heap.size W W') : Row W' base v l := by
 refine World.ownsRow.kept h (row := none) ⟨hb.os, hb.tape, hb.output, hb.size, fun k hk _ => hb.block k hk⟩ ?_
 cases v.ownBlock with
 | none => exact .inl rfl
 | some k => exact .inr (fun e => by cases e)
theorem WS.on {W W' : World} {base g m : Nat} {s : Option (List Int)} (h : WS W base g s m) (hb : Below W.heap.size W W') : WS W' base g s m := by
 cases s with
 | some l => obtain ⟨v, h1, h2⟩ := h; exact ⟨v, h1.on hb, h2.below hb⟩
 | none => obtain ⟨v, h1⟩ := h; exact ⟨v, h1.on hb⟩
structure WB (base : Nat) (w w' : World) : Prop where
 bel : Below base w w'
 kp : ∀ b t cs, t ≠ 91 → t ≠ 5 → Blk w b t cs → Blk w' b t cs
theorem WB.refl (base : Nat) (w : World) : WB base w w := ⟨Below.refl _ _, fun _ _ _ _ _ h => h⟩
theorem WB.trans {base : Nat} {a b c : World} (h : WB base a b) (k : WB base b c) : WB base a c := ⟨h.bel.trans k.bel, fun b t cs h1 h2 hb => k.kp b t cs h1 h2 (h.kp b t cs h1 h2 hb)⟩
theorem WB.of {base : Nat} {w w' : World} (h : Below w.heap.size w w') (hb : base ≤ w.heap.size) : WB base w w' := ⟨h.mono hb, fun _ _ _ _ _ hk => hk.on h⟩
theorem kp_set {w : World} {g i : Nat} {cs0 : Array Value} (hg : Blk w g 91 cs0) (u : Value) {b : Nat} {t : TypeId} {cs : Array Value} (h1 : t ≠ 91) (h : Blk w b t cs) : Blk (w.setCell ⟨g, i, none⟩ u) b t cs :=
 h.far (p := ⟨g, i, none⟩) (fun e => by
   have e' : b = g := e
   subst e'
   unfold Blk at h hg
   rw [h] at hg
   injection hg with hg
   injection hg with _ ht
   exact h1 ht) u
def Src (W : World) (g : Nat) (A : Option Addr) (xs : List Int) : Prop :=
 Rd W W.heap.size A xs ∧ (0 < xs.length → ∀ ad v, A = some ad → W.cell? ⟨g, 0, none⟩ = some v → ad.block ≠ g ∧ v.ownBlock ≠ some ad.block)
theorem rd_after' {w w1 : World} {X : Obj} {A : Option Addr} {xs : List Int} {v u : Value} {g : Nat} (hrd : Rd w w.heap.size A xs) (h : 0 < xs.length → ∀ ad, A = some ad → ad.block ≠ g ∧ v.ownBlock ≠ some ad.block) (hg : (w.alloc X).grownBy w1 v.ownBlock) :
   Rd (w1.setCell ⟨g, 0, none⟩ u) (w1.setCell ⟨g, 0, none⟩ u).heap.size A xs := fun hp => by
 obtain ⟨b, off, e, _⟩ := hrd hp
 subst e
 obtain ⟨h1, h2⟩ := h hp _ rfl
 exact rd_after hrd h1 h2 hg hp
set_option maxHeartbeats 2000000 in
theorem bytes_some (g : Nat) (m : Nat) (l xs : List Int) (tag : Int) (A : Option Addr) (c base : Nat) (w : World) (hs : WS w base g (some l) m) (hb : base ≤ w.heap.size)
   (hA : Src w g A xs) (hAc : A = none → c = 0) (ht : 0 < tag) (ht2 : tag ≤ 255) (hx : xs.length ≤ 4194304) (hl : l.length ≤ 100000000) (hm : m ≤ 1000000) (hgb : base ≤ g) :
   Calls Tryz.prog 47 #[.pointer (some ⟨g, 0, none⟩), .int .u8 tag, .slice A xs.length c] w fun e w' => e = .returned (.pointer (some ⟨g, 0, none⟩)) ∧
     WS w' base g (some (l ++ (tag :: be4 xs.length) ++ xs)) (m + 1) ∧ WB base w w' := by
 obtain ⟨v, hblk, hrow⟩ := hs
 have c0 : w.cell? ⟨g, 0, none⟩ = some v := hblk.cell 0
 have c1 : w.cell? ⟨g, 1, none⟩ = some (.int .i64 m) := hblk.cell 1
 have c2 : w.cell? ⟨g, 2, none⟩ = some (.int .i64 0) := hblk.cell 2
 have ht0 : (tag == 0) = false := by simp; omega
 have hlt := hblk.lt
 obtain ⟨hrd, hap⟩ := hA
 have hap' : 0 < xs.length → ∀ ad, A = some ad → ad.block ≠ g ∧ v.ownBlock ≠ some ad.block := fun hp ad e => hap hp ad v e c0
 have hgv := own_ne hrow hblk (by decide)
 have hrd1 : RdK kB (w.alloc (.cells #[.int .u8 tag, .int .u8 ((xs.length : Int) / 16777216), .int .u8 ((xs.length : Int) / 65536), .int .u8 ((xs.length : Int) / 256 % 256), .int .u8 ((xs.length : Int) % 256)] 5))
     (w.alloc (.cells #[.int .u8 tag, .int .u8 ((xs.length : Int) / 16777216), .int .u8 ((xs.length : Int) / 65536), .int .u8 ((xs.length : Int) / 256 % 256), .int .u8 ((xs.length : Int) % 256)] 5)).heap.size
     (some ⟨w.heap.size, 0, none⟩) (tag :: be4 xs.length) := rd_block (K := kB) (Blk.new _ _ _) rfl
 have hbX : ∀ X, base ≤ (w.alloc X).heap.size := fun X => by simp; omega
 have hln : l.length + (tag :: be4 xs.length).length ≤ 1000000000 := by show l.length + 5 ≤ _; omega
 have hln2 : (l ++ (tag :: be4 xs.length)).length + xs.length ≤ 1000000000 := by rw [List.length_append]; show l.length + 5 + xs.length ≤ _; omega
 clear hap
 go_enter Tryz.func47, Tryz.ntmps47
 go_wp2_with (first
   | (at_builtin
      refine wpList_appK kB rfl _ _ rfl (tag :: be4 xs.length) rfl ((row_k.2 hrow).alloc _) rfl hrd1 (fun e => by cases e) hln (hbX _) ?_
      intro v1 w1 hrow1 hg1
      obtain ⟨A1, k1, n1, hn1, rfl, _, _⟩ := hrow1.rdn
      have hb1 := (hblk.alloc _).grown hg1 (fun e => hgv e.symm)
      have d0 : w1.cell? ⟨g, 0, none⟩ = some v := hb1.cell 0
      have d1 : w1.cell? ⟨g, 1, none⟩ = some (.int .i64 m) := hb1.cell 1
      have e0 : w1.frozen? ⟨g, 0, none⟩ = false := hb1.frozen 0
      have e1 : w1.frozen? ⟨g, 1, none⟩ = false := hb1.frozen 1
      have hgv1 := own_ne (row_k.1 hrow1) hb1 (by decide)
      have hb1s := hb1.set_ 0 (Value.slice A1 n1 k1)
      have hrow1s := row_k.2 (Row.set_ (i := 0) (row_k.1 hrow1) hgv1 (Value.slice A1 n1 k1))
      have hs1 := hg1.size
      have hbs : base ≤ (w1.setCell ⟨g, 0, none⟩ (Value.slice A1 n1 k1)).heap.size := by simp [World.setCell] at hs1 ⊢; omega
      have hrd2 := rd_k (rd_after' (u := Value.slice A1 n1 k1) hrd hap' hg1))
   | (at_builtin
      refine wpList_appK kB rfl _ _ rfl xs rfl hrow1s rfl hrd2 hAc hln2 hbs ?_
      intro v2 w2 hrow2 hg2
      obtain ⟨A2, k2, n2, hn2, rfl, _, _⟩ := hrow2.rdn
      have hb2 := hb1s.grown hg2 (fun e => hgv1 e.symm)
      have p0 : w2.cell? ⟨g, 0, none⟩ = some _ := hb2.cell 0
      have p1 : w2.cell? ⟨g, 1, none⟩ = some (.int .i64 m) := hb2.cell 1
      have q0 : w2.frozen? ⟨g, 0, none⟩ = false := hb2.frozen 0
      have q1 : w2.frozen? ⟨g, 1, none⟩ = false := hb2.frozen 1
      have hgv2 := own_ne (row_k.1 hrow2) hb2 (by decide)))
 go_ret
 refine ⟨rfl, ⟨Value.slice A2 n2 k2, by simpa using (hb2.set_ 0 (Value.slice A2 n2 k2)).set_ 1 (Value.int .i64 ((m : Int) + 1)), Row.set_ (Row.set_ (row_k.1 hrow2) hgv2 _) hgv2 _⟩, ?_⟩
 have z1 := ((Below.refl base w).alloc hb (.cells #[.int .u8 tag, .int .u8 ((xs.length : Int) / 16777216), .int .u8 ((xs.length : Int) / 65536), .int .u8 ((xs.length : Int) / 256 % 256), .int .u8 ((xs.length : Int) % 256)] 5)).grown hg1 (hbX _) (fun k hk => (World.ownsRow.lt hrow k hk).1)
 have z2 := (z1.setCell (p := ⟨g, 0, none⟩) hgb (Value.slice A1 n1 k1)).grown hg2 hbs (fun k hk => (World.ownsRow.lt (row_k.1 hrow1) k hk).1)
 refine ⟨(z2.setCell (p := ⟨g, 0, none⟩) hgb _).setCell (p := ⟨g, 1, none⟩) hgb _, fun b t cs h48 h5 hb => ?_⟩
 have y0 := hb.alloc (.cells #[.int .u8 tag, .int .u8 ((xs.length : Int) / 16777216), .int .u8 ((xs.length : Int) / 65536), .int .u8 ((xs.length : Int) / 256 % 256), .int .u8 ((xs.length : Int) % 256)] 5)
 have y1 := y0.grown hg1 (fun e => own_ne (World.ownsRow.alloc hrow _) y0 (fun e => h5 e.symm) e.symm)
 have y2 := kp_set (i := 0) hb1 (Value.slice A1 n1 k1) h48 y1
 have y3 := y2.grown hg2 (fun e => own_ne (row_k.1 hrow1s) y2 (fun e => h5 e.symm) e.symm)
 have y4 := kp_set (i := 0) hb2 (Value.slice A2 n2 k2) h48 y3
 exact kp_set (i := 1) (hb2.set_ 0 (Value.slice A2 n2 k2)) _ h48 y4
theorem bytes_zero (g : Nat) (m : Nat) (l xs : List Int) (A : Option Addr) (c base : Nat) (w : World) (hs : WS w base g (some l) m) (hx : xs.length ≤ 4194304) (hgb : base ≤ g) :
   Calls Tryz.prog 47 #[.pointer (some ⟨g, 0, none⟩), .int .u8 0, .slice A xs.length c] w fun e w' => e = .returned (.pointer (some ⟨g, 0, none⟩)) ∧ WS w' base g none m ∧ WB base w w' := by
 obtain ⟨v, hblk, hrow⟩ := hs
 have c2 : w.cell? ⟨g, 2, none⟩ = some (.int .i64 0) := hblk.cell 2
 have f2 := hblk.frozen 2
 have HB := Lib.hid hblk
 have hd : decide ((4194304 : Int) < xs.length) = false := by simp; omega
 clear hblk hrow
 go_enter Tryz.func47, Tryz.ntmps47
 go_wp2
 go_ret
 exact ⟨rfl, ⟨v, by simpa using HB.out.set_ 2 (.int .i64 2)⟩, ⟨(Below.refl _ _).setCell (p := ⟨g, 2, none⟩) hgb _, fun b t cs h48 _ hb => kp_set HB.out _ h48 hb⟩⟩
theorem bytes_fail (g : Nat) (m : Nat) (tag : Int) (sl : Value) (base : Nat) (w : World) (hs : WS w base g none m) :
   Calls Tryz.prog 47 #[.pointer (some ⟨g, 0, none⟩), .int .u8 tag, sl] w fun e w' => e = .returned (.pointer (some ⟨g, 0, none⟩)) ∧ w' = w := by
 obtain ⟨v, hblk⟩ := hs
 have c2 : w.cell? ⟨g, 2, none⟩ = some (.int .i64 2) := hblk.cell 2
 clear hblk
 go_enter Tryz.func47, Tryz.ntmps47
 go_wp2
 go_ret
 exact ⟨rfl, rfl⟩
theorem bytes_any (g : Nat) (s : Option (List Int)) (m : Nat) (xs : List Int) (tag : Int) (A : Option Addr) (c base : Nat) (w : World) (hs : WS w base g s m) (hb : base ≤ w.heap.size)
   (hA : ∀ l, s = some l → Src w g A xs) (hAc : A = none → c = 0) (ht : 0 ≤ tag) (ht2 : tag ≤ 255) (hx : xs.length ≤ 4194304) (hl : ∀ l, s = some l → l.length ≤ 100000000) (hm : m ≤ 1000000) (hgb : base ≤ g) :
   Calls Tryz.prog 47 #[.pointer (some ⟨g, 0, none⟩), .int .u8 tag, .slice A xs.length c] w fun e w' => e = .returned (.pointer (some ⟨g, 0, none⟩)) ∧
     WS w' base g (putS s tag xs) (cntS s tag m) ∧ WB base w w' := by
 cases s with
 | none =>
   refine (bytes_fail g m tag _ base w hs).mono ?_
   rintro e w' ⟨rfl, rfl⟩
   exact ⟨rfl, by simpa [putS, cntS] using hs, WB.refl _ _⟩
 | some l =>
   by_cases h0 : tag = 0
   · subst h0
     refine (bytes_zero g m l xs A c base w hs hx hgb).mono ?_
     rintro e w' ⟨rfl, h1, h2⟩
     exact ⟨rfl, by simpa [putS, cntS] using h1, h2⟩
   · refine (bytes_some g m l xs tag A c base w hs hb (hA l rfl) hAc (by omega) ht2 hx (hl l rfl) hm hgb).mono ?_
     rintro e w' ⟨rfl, h1, h2⟩
     exact ⟨rfl, by simpa [putS, cntS, h0] using h1, h2⟩
end Go.Proofs.YtniaijgejljjbaaGreat.Tlv
