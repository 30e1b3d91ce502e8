/- Slices of records of one-cell fields, whatever the record: read, owned, appended to. -/
import Derived.Test.YtniaijgejljjbaaGreatProg
import Derived.WalkKit
import Derived.ProofKit
import Derived.Below
import Derived.BigQuiet
import Derived.IntWalk
import Derived.Deep.QuietTactic
import Derived.LoopTactic
import Derived.LoopN
import Derived.Lib.Hide
import Derived.WalkSpells
import Derived.ScopeJumps
import Derived.OwnWalk
import Derived.OwnWalkIn
import Derived.Deep.MidRow
import Derived.Deep.AppendLies
import Derived.Deep.RegionLaw
import Derived.Deep.DrawnRows
import Derived.RangeFuncNested
import GoSem.Op.String
namespace Go.Proofs.YtniaijgejljjbaaGreat
open Go.RowKit
set_option linter.unusedVariables false
set_option linter.unusedSimpArgs false
def Blk (w : World) (g : Nat) (t : TypeId) (cs : Array Value) : Prop := w.heap[g]? = some (.cells cs t (0, 0))
section
variable {w w' : World} {g : Nat} {t : TypeId} {cs : Array Value}
theorem Blk.lt (h : Blk w g t cs) : g < w.heap.size := (Array.getElem?_eq_some_iff.1 h).1
theorem Blk.cell (h : Blk w g t cs) (i : Nat) : w.cell? ⟨g, i, none⟩ = cs[i]? := cell_of_row w g i cs t (0, 0) h
theorem Blk.frozen (h : Blk w g t cs) (i : Nat) : w.frozen? ⟨g, i, none⟩ = false := by
 unfold Blk at h
 simp [World.frozen?, h]
theorem Blk.new (w : World) (t : TypeId) (cs : Array Value) : Blk (w.alloc (.cells cs t)) w.heap.size t cs := heap_alloc_new w _
theorem Blk.alloc (h : Blk w g t cs) (o : Obj) : Blk (w.alloc o) g t cs := (Below.heap_alloc w o g h.lt).trans h
theorem Blk.set_ (h : Blk w g t cs) (i : Nat) (u : Value) : Blk (w.setCell ⟨g, i, none⟩ u) g t (cs.setIfInBounds i u) := by
 unfold Blk at h ⊢
 simp [World.setCell, Array.getElem?_modify, h]
theorem Blk.far (h : Blk w g t cs) {p : Addr} (hp : g ≠ p.block) (u : Value) : Blk (w.setCell p u) g t cs := (Below.heap_setCell w p u g hp).trans h
theorem Blk.grown {row : Option Nat} (h : Blk w g t cs) (hb : w.grownBy w' row) (hg : some g ≠ row) : Blk w' g t cs := (hb.block g h.lt hg).trans h
theorem Blk.below {B : Nat} (h : Blk w g t cs) (hb : Below B w w') (hg : g < B) : Blk w' g t cs := (hb.block g hg).trans h
theorem Blk.on (h : Blk w g t cs) (hb : Below w.heap.size w w') : Blk w' g t cs := h.below hb h.lt
theorem Blk.drew (h : Blk w g t cs) : Blk w.drew g t cs := h
end
theorem below_drewN {B : Nat} {a w : World} (h : Below B a w) (n : Nat) : Below B a (w.drewN n) := ⟨h.os, h.tape, h.output, h.size, h.block⟩
structure Kind (α : Type) where
 e : TypeId
 st : TypeId
 size : Nat
 bytes : Nat
 cs : α → List Value
 len : ∀ x, (cs x).length = size
 one : ∀ x, ∀ u ∈ cs x, u.oneCell' = true
 pos : 0 < size
 sl : Tryz.prog.underlying st = some (.slice e)
 zero : ∃ (i : TypeInfo) (z : Value), Tryz.prog.info? e = some i ∧ i.zero = some z ∧ i.size = size ∧ i.bytes = bytes ∧ z.cells.size = size
 small : bytes ≤ 100
section
variable {α : Type} (K : Kind α)
abbrev flatK (l : List α) : List Value := l.flatMap K.cs
theorem flat_length (l : List α) : (flatK K l).length = l.length * K.size := by
 induction l with
 | nil => simp [flatK]
 | cons x t ih => simp only [flatK, List.flatMap_cons, List.length_append, List.length_cons] at *; rw [ih, K.len, Nat.add_mul, Nat.one_mul, Nat.add_comm]
theorem flat_one (l : List α) : ∀ u ∈ flatK K l, u.oneCell' = true := fun u hu => by
 obtain ⟨x, _, hx⟩ := List.mem_flatMap.1 hu
 exact K.one x u hx
def RowK (w : World) (base : Nat) (v : Value) (l : List α) : Prop := w.ownsRow base K.e K.size v l.length (flatK K l)
variable {K} {w w' : World} {l : List α} {B base : Nat} {v : Value}
theorem RowK.alloc (h : RowK K w base v l) (o : Obj) : RowK K (w.alloc o) base v l := World.ownsRow.alloc h o
theorem nil_row (K : Kind α) (w : World) (base : Nat) : RowK K w base (.slice none 0 0) [] := World.ownsRow_nil _ _ _ _
theorem row_below (h : RowK K w base v l) (hg : w.grownBy w' v.ownBlock) (hb : base ≤ w.heap.size) : Below base w w' :=
 (Below.refl base w).grown hg hb (fun k hk => (World.ownsRow.lt h k hk).1)
end
section
variable {α : Type} [Inhabited α] (K : Kind α)
theorem flat_at : ∀ (l : List α) (j i : Nat), j < l.length → i < K.size → (flatK K l)[j * K.size + i]? = (K.cs (l.getD j default))[i]? := by
 intro l
 induction l with
 | nil => intro j i hj; simp at hj
 | cons x t ih =>
   intro j i hj hi
   simp only [flatK, List.flatMap_cons]
   have h3 := K.len x
   cases j with
   | zero => rw [List.getElem?_append_left (by omega)]; simp
   | succ j =>
     have e : (j + 1) * K.size = j * K.size + K.size := by rw [Nat.add_mul, Nat.one_mul]
     rw [List.getElem?_append_right (by omega), h3, show (j + 1) * K.size + i - K.size = j * K.size + i from by omega]
     have := ih j i (by simpa using hj) hi
     simpa using this
theorem flat_get : ∀ (l : List α) (j : Nat) (u : Value), (flatK K l)[j]? = some u → ∃ i c, i < l.length ∧ j = i * K.size + c ∧ (K.cs (l.getD i default))[c]? = some u := by
 intro l j u h
 have hp := K.pos
 have hlt : j < l.length * K.size := by rw [← flat_length]; exact (List.getElem?_eq_some_iff.1 h).1
 have hi : j / K.size < l.length := (Nat.div_lt_iff_lt_mul hp).2 hlt
 have hj : j = j / K.size * K.size + j % K.size := by rw [Nat.mul_comm]; exact (Nat.div_add_mod j K.size).symm
 refine ⟨j / K.size, j % K.size, hi, hj, ?_⟩
 rw [← flat_at K l _ _ hi (Nat.mod_lt _ hp), ← hj]
 exact h
def RdK (w : World) (B : Nat) (A : Option Addr) (l : List α) : Prop := 0 < l.length → ∃ b off, A = some ⟨b, off, none⟩ ∧ b < B ∧ ∀ j, j < l.length → ∀ (i : Nat) (u : Value), (K.cs (l.getD j default))[i]? = some u → w.cell? ⟨b, off + j * K.size + i, none⟩ = some u
variable {K} {w w' : World} {l : List α} {A : Option Addr} {B base : Nat} {v : Value}
theorem RdK.below (h : RdK K w B A l) (hb : Below B w w') : RdK K w' B A l := fun hp => by
 obtain ⟨b, off, e, hlt, hc⟩ := h hp
 exact ⟨b, off, e, hlt, fun j hj i v hv => (hb.cell (p := ⟨b, off + j * K.size + i, none⟩) hlt).trans (hc j hj i v hv)⟩
theorem RdK.more {B' : Nat} (h : RdK K w B A l) (hB : B ≤ B') : RdK K w B' A l := fun hp => by
 obtain ⟨b, off, e, hlt, hc⟩ := h hp
 exact ⟨b, off, e, by omega, hc⟩
theorem RdK.on (h : RdK K w w.heap.size A l) (hb : Below w.heap.size w w') : RdK K w' w'.heap.size A l := (h.below hb).more hb.size
theorem rd_none : RdK K w B none l → l = [] := fun h => by
 cases l with
 | nil => rfl
 | cons x t => obtain ⟨b, off, e, _⟩ := h (by simp); cases e
theorem rd_block {g : Nat} {cs : Array Value} (h : Blk w g K.e cs) (e : cs.toList = flatK K l) : RdK K w w.heap.size (some ⟨g, 0, none⟩) l := fun hp => by
 refine ⟨g, 0, rfl, h.lt, fun j hj i v hv => ?_⟩
 have hi : i < K.size := by
   have := (List.getElem?_eq_some_iff.1 hv).1
   rwa [K.len] at this
 rw [h.cell, ← Array.getElem?_toList, e, show 0 + j * K.size + i = j * K.size + i from by omega, flat_at K l j i hj hi]
 exact hv
theorem RowK.rd0 (h : RowK K w base v l) : ∃ A c, v = .slice A l.length c ∧ (A = none → c = 0) ∧ RdK K w w.heap.size A l := by
 have hl := flat_length K l
 rcases h.2 with ⟨rfl, h0⟩ | ⟨g, cap, cur, rfl, _, hh, _, _, hcs, htk⟩
 · obtain rfl : l = [] := List.eq_nil_of_length_eq_zero h0
   exact ⟨none, 0, rfl, fun _ => rfl, fun h => by simp at h⟩
 · refine ⟨_, cap, rfl, fun h => (by cases h), fun _ => ⟨g, 0, rfl, (Array.getElem?_eq_some_iff.1 hh).1, fun j hj i u hu => ?_⟩⟩
   have hi : i < K.size := by
     have := (List.getElem?_eq_some_iff.1 hu).1
     rwa [K.len] at this
   have hlt : j * K.size + i < l.length * K.size := by
     have : (j + 1) * K.size ≤ l.length * K.size := Nat.mul_le_mul_right _ hj
     rw [Nat.add_mul, Nat.one_mul] at this
     omega
   rw [cell_of_row w g _ cur K.e (0, 0) hh, ← Array.getElem?_toList, show 0 + j * K.size + i = j * K.size + i from by omega, ← hu, ← flat_at K l j i hj hi]
   have : (flatK K l)[j * K.size + i]? = (cur.toList.take (l.length * K.size))[j * K.size + i]? := by rw [htk]
   rw [this, List.getElem?_take_of_lt hlt]
theorem RowK.rdn (h : RowK K w base v l) : ∃ A c n, Hid (n = l.length) ∧ v = .slice A n c ∧ (A = none → c = 0) ∧ RdK K w w.heap.size A l := by
 obtain ⟨A, c, e, h1, h2⟩ := h.rd0
 exact ⟨A, c, _, Lib.hid rfl, e, h1, h2⟩
set_option maxRecDepth 100000 in
theorem run_app (ty : TypeId) {c : Nat} (m : List α) (hown : RowK K w base v l) (hr : RdK K w B A m) (hA : A = none → c = 0)
   (hn : l.length + m.length ≤ 1000000000) (hb : base ≤ w.heap.size) :
   ∃ v' w', (Builtin.append_ #[K.st, K.st] ty #[v, .slice A m.length c]).run Tryz.prog w = .ok v' w' ∧ RowK K w' base v' (l ++ m) ∧ w.grownBy w' v.ownBlock := by
 obtain ⟨i0, z, hi, hz0, hz1, hz2, hz3⟩ := K.zero
 cases A with
 | none =>
   have hm : m = [] := rd_none hr
   subst hm
   have hc := hA rfl
   subst hc
   exact ⟨v, w, run_append_owned_none (P := Tryz.prog) (w := w) base K.st ty K.e i0 K.size K.sl hi v l.length (flatK K l) hown, by simpa using hown, World.grownBy.refl _ _⟩
 | some ad =>
   have hby : (l.length + m.length) * K.bytes ≤ 140737488355328 := by
     have := Nat.mul_le_mul hn K.small
     omega
   obtain ⟨v', w', h1, h2, h3, _, _⟩ := run_append_own_at (P := Tryz.prog) w base K.st ty K.e i0 z K.size K.bytes K.sl hi hz0 hz1 hz2 hz3 K.pos v l.length (flatK K l) hown ad m.length c (flatK K m) (flat_length K m)
     (fun j u hu => by
       obtain ⟨i, q, hi', rfl, hq⟩ := flat_get K m j u hu
       obtain ⟨b, off, e, hlt, hc⟩ := hr (by omega)
       injection e with e
       subst e
       rw [Addr.add_mid, ← Nat.add_assoc]
       exact hc i hi' q u hq) (flat_one K m) (by unfold maxLen; omega) hby hb
   exact ⟨v', w', h1, by unfold RowK flatK; simpa using h2, h3⟩
end
section
variable {α : Type} [Inhabited α] (K : Kind α) {w : World} {ops : Array Oper} {rest : List Oper} {o : Oper} {a : Act} {Q : Exit → Act → World → Prop}
theorem wpList_app (hgd : o.guard = none) (s x : Operand)
   (ho : o.op = .call { callee := .builtin .append, args := #[s, x], argTypes := #[K.st, K.st] })
   {base B : Nat} {v : Value} {l : List α} {A : Option Addr} {c : Nat} (m : List α) (hs : a.eval s = v) (hown : RowK K w base v l) (hx : a.eval x = .slice A m.length c) (hr : RdK K w B A m) (hA : A = none → c = 0)
   (hn : l.length + m.length ≤ 1000000000) (hb : base ≤ w.heap.size)
   (h : ∀ v' w', RowK K w' base v' (l ++ m) → w.grownBy w' v.ownBlock → wpList Tryz.prog ops Q rest (a.put o.dst v') w') :
   wpList Tryz.prog ops Q (o :: rest) a w := by
 refine wpList_plain hgd fun K' hK => ?_
 obtain ⟨v', w', h1, h2, h3⟩ := run_app o.type m hown hr hA hn hb
 unfold Oper.wp
 simp [execOp, ho, resolve, invoke, builtin, hs, hx, h1, Result.andThen]
 exact hK _ _ (h v' w' h2 h3)
theorem step_app {K' : Act → World → Prop} {E : Prop} (hgd : o.guard = none) (s x : Operand)
   (ho : o.op = .call { callee := .builtin .append, args := #[s, x], argTypes := #[K.st, K.st] })
   {base B : Nat} {v : Value} {l : List α} {A : Option Addr} {c : Nat} (m : List α) (hs : a.eval s = v) (hown : RowK K w base v l) (hx : a.eval x = .slice A m.length c) (hr : RdK K w B A m) (hA : A = none → c = 0)
   (hn : l.length + m.length ≤ 1000000000) (hb : base ≤ w.heap.size)
   (h : ∀ v' w', RowK K w' base v' (l ++ m) → w.grownBy w' v.ownBlock → K' (a.put o.dst v') w') :
   if Region.wanted o (yielded ops a.tmps) = true then Oper.wp Tryz.prog o a w K' Q else E := by
 have hw : Region.wanted o (yielded ops a.tmps) = true := by simp [Region.wanted, hgd]
 rw [if_pos hw]
 obtain ⟨v', w', h1, h2, h3⟩ := run_app o.type m hown hr hA hn hb
 unfold Oper.wp
 simp only [execOp, ho, resolve, invoke, builtin, Sem.run_bind, Sem.run_pure, Result.andThen_ok, List.map_toArray, List.map_cons, List.map_nil, hs, hx, h1]
 exact h v' w' h2 h3
end
end Go.Proofs.YtniaijgejljjbaaGreat
namespace Go.Proofs.YtniaijgejljjbaaGreat
set_option linter.unusedVariables false
abbrev bless := Op.bytesLess
theorem bless_irrefl : ∀ x, bless x x = false
 | [] => rfl
 | a :: x => by
   have h := bless_irrefl x
   show (decide (a < a) || (a == a && bless x x)) = false
   rw [h]
   simp
theorem bless_cons {a b : UInt8} {x y : List UInt8} : bless (a :: x) (b :: y) = true ↔ a < b ∨ a = b ∧ bless x y = true := by
 show (decide (a < b) || (a == b && bless x y)) = true ↔ _
 simp
theorem u8_tri (a b : UInt8) : a < b ∨ a = b ∨ b < a := by
 rcases Nat.lt_trichotomy a.toNat b.toNat with h | h | h
 · exact .inl (UInt8.lt_iff_toNat_lt.2 h)
 · exact .inr (.inl (UInt8.toNat_inj.1 h))
 · exact .inr (.inr (UInt8.lt_iff_toNat_lt.2 h))
theorem u8_trans {a b c : UInt8} (h : a < b) (k : b < c) : a < c := UInt8.lt_iff_toNat_lt.2 (Nat.lt_trans (UInt8.lt_iff_toNat_lt.1 h) (UInt8.lt_iff_toNat_lt.1 k))
theorem bless_trans : ∀ {x y z : List UInt8}, bless x y = true → bless y z = true → bless x z = true
 | x, [], _, h, _ => by cases x <;> simp [bless, Op.bytesLess] at h
 | _, _ :: _, [], _, h => by simp [bless, Op.bytesLess] at h
 | [], _ :: _, _ :: _, _, _ => rfl
 | a :: x, b :: y, c :: z, h, k => by
   rw [bless_cons] at h k ⊢
   rcases h with h | ⟨rfl, h⟩
   · rcases k with k | ⟨rfl, k⟩
     · exact .inl (u8_trans h k)
     · exact .inl h
   · rcases k with k | ⟨rfl, k⟩
     · exact .inl k
     · exact .inr ⟨rfl, bless_trans h k⟩
theorem bless_tri : ∀ (x y : List UInt8), bless x y = true ∨ x = y ∨ bless y x = true
 | [], [] => .inr (.inl rfl)
 | [], _ :: _ => .inl rfl
 | _ :: _, [] => .inr (.inr rfl)
 | a :: x, b :: y => by
   rw [bless_cons, bless_cons]
   rcases u8_tri a b with h | rfl | h
   · exact .inl (.inl h)
   · rcases bless_tri x y with h | rfl | h
     · exact .inl (.inr ⟨rfl, h⟩)
     · exact .inr (.inl rfl)
     · exact .inr (.inr (.inr ⟨rfl, h⟩))
   · exact .inr (.inr (.inl h))
theorem bless_asymm {x y : List UInt8} (h : bless x y = true) : bless y x = false := by
 cases k : bless y x with
 | false => rfl
 | true => have := bless_trans h k; rw [bless_irrefl] at this; cases this
structure At where
 t : List UInt8
 v : List UInt8
deriving Inhabited, DecidableEq
def ltA (x y : At) : Bool := bless x.t y.t || (x.t == y.t && bless x.v y.v)
theorem ltA_iff {x y : At} : ltA x y = true ↔ bless x.t y.t = true ∨ x.t = y.t ∧ bless x.v y.v = true := by unfold ltA; simp
theorem ltA_irrefl (x : At) : ltA x x = false := by unfold ltA; rw [bless_irrefl, bless_irrefl]; simp
theorem ltA_trans {x y z : At} (h : ltA x y = true) (k : ltA y z = true) : ltA x z = true := by
 rw [ltA_iff] at *
 rcases h with h | ⟨e, h⟩
 · rcases k with k | ⟨e', k⟩
   · exact .inl (bless_trans h k)
   · exact .inl (e' ▸ h)
 · rcases k with k | ⟨e', k⟩
   · exact .inl (e ▸ k)
   · exact .inr ⟨e.trans e', bless_trans h k⟩
theorem ltA_asymm {x y : At} (h : ltA x y = true) : ltA y x = false := by
 cases k : ltA y x with
 | false => rfl
 | true => have := ltA_trans h k; rw [ltA_irrefl] at this; cases this
def cmpA (x y : At) : Int := if ltA x y = true then -1 else if ltA y x = true then 1 else 0
def cmpB (x y : List UInt8) : Int := if bless x y = true then -1 else if bless y x = true then 1 else 0
theorem cmpA_or (x y : At) : cmpA x y = if cmpB x.t y.t = 0 then cmpB x.v y.v else cmpB x.t y.t := by
 unfold cmpA cmpB
 rcases bless_tri x.t y.t with h | h | h
 · have h2 := bless_asymm h
   have e1 : ltA x y = true := ltA_iff.2 (.inl h)
   simp [h, e1]
 · have e1 : ltA x y = bless x.v y.v := by unfold ltA; rw [h, bless_irrefl]; simp
   have e2 : ltA y x = bless y.v x.v := by unfold ltA; rw [h, bless_irrefl]; simp
   rw [h, bless_irrefl, e1, e2]
   simp
 · have h2 := bless_asymm h
   have e1 : ltA y x = true := ltA_iff.2 (.inl h)
   have e2 : ltA x y = false := ltA_asymm e1
   simp [h, h2, e1, e2]
def Rises (l : List At) : Prop := l.Pairwise fun x y => ltA x y = true
end Go.Proofs.YtniaijgejljjbaaGreat
namespace Go.Proofs.YtniaijgejljjbaaGreat
open Go.RowKit
set_option linter.unusedVariables false
set_option linter.unusedSimpArgs false
def sx (l : List UInt8) : ByteArray := ⟨l.toArray⟩
theorem sx_data (l : List UInt8) : (sx l).data.toList = l := by unfold sx; simp
theorem data_sx (s : ByteArray) : sx s.data.toList = s := by cases s; unfold sx; simp
theorem sx_size (l : List UInt8) : (sx l).size = l.length := by unfold sx; exact List.size_toArray
theorem sx_list (r : List UInt8) : (sx r).toList = r := by rw [ByteArray.toList_eq, sx_data]
abbrev At.val (a : At) : Value := .agg #[.string (sx a.t), .string (sx a.v)]
def At.cells (a : At) : List Value := [.string (sx a.t), .string (sx a.v)]
theorem info29 : ∃ (i : TypeInfo) (z : Value), Tryz.prog.info? 99 = some i ∧ i.zero = some z ∧ i.size = 2 ∧ i.bytes = 32 ∧ z.cells.size = 2 := by
 have h : (Tryz.prog.info? 99).map (fun i => (i.zero, i.size, i.bytes)) = some (some (.agg #[.string ⟨#[]⟩, .string ⟨#[]⟩]), 2, 32) := by kernel_rfl
 obtain ⟨i, hi, h0, h1, h2⟩ := info_parts h
 exact ⟨i, _, hi, h0, h1, h2, rfl⟩
def kA : Kind At where
 e := 99
 st := 40
 size := 2
 bytes := 32
 cs := At.cells
 len := fun _ => rfl
 one := fun x u hu => by simp [At.cells] at hu; rcases hu with rfl | rfl <;> rfl
 pos := by decide
 sl := Tryz.underlying40
 zero := info29
 small := by decide
theorem RowK.low {α : Type} {K : Kind α} {w : World} {base base' : Nat} {v : Value} {l : List α} (h : RowK K w base v l) (hb : base' ≤ base) : RowK K w base' v l := by
 refine ⟨h.1, ?_⟩
 rcases h.2 with h0 | ⟨g, cap, cur, hv, hg, rest⟩
 · exact .inl h0
 · exact .inr ⟨g, cap, cur, hv, Nat.le_trans hb hg, rest⟩
theorem at_cells {w w' : World} {n k : Nat} {A : Option Addr} {l : List At} (h : RdK kA w n A l) (hb : Below n w w') (hk : k < l.length) : ∃ b off, A = some ⟨b, off, none⟩ ∧ b < n ∧
   w'.cell? ⟨b, off + k * 2, none⟩ = some (.string (sx (l.getD k default).t)) ∧ w'.cell? ⟨b, off + k * 2 + 1, none⟩ = some (.string (sx (l.getD k default).v)) := by
 obtain ⟨b, off, e, hlt, hc⟩ := h (by omega)
 exact ⟨b, off, e, hlt, (hb.cell (p := ⟨b, off + k * 2, none⟩) hlt).trans (hc k hk 0 _ rfl), (hb.cell (p := ⟨b, off + k * 2 + 1, none⟩) hlt).trans (hc k hk 1 _ rfl)⟩
end Go.Proofs.YtniaijgejljjbaaGreat
