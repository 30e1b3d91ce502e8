/- A reader's Number, Flag. -/
import Derived.Test.YtcjiofhjognklaaGreatW05
import Derived.Test.YtcjiofhjognklaaGreatProg
import Derived.WalkKit
import Derived.ProofKit
import Derived.Below
import Derived.BigQuiet
import Derived.IntWalk
import Derived.Deep.QuietTactic
import Derived.LoopTactic
import Derived.LoopN
import Derived.Lib.Hide
import Derived.WalkSpells
import Derived.ScopeJumps
import Derived.OwnWalk
import Derived.OwnWalkIn
import Derived.Deep.MidRow
import Derived.Deep.AppendLies
import Derived.Deep.RegionLaw
import Derived.Deep.DrawnRows
import Derived.RangeFuncNested

namespace Go.Proofs.YtcjiofhjognklaaGreat.Tlv
open Go.RowKit
set_option maxRecDepth 100000
set_option linter.unusedVariables false
set_option linter.unusedSimpArgs false

theorem u64_or_nat (a b : Nat) (ha : a < 18446744073709551616) (hb : b < 18446744073709551616) : bits .or .u64 (a : Int) (b : Int) = ((a ||| b : Nat) : Int) := by
  have hx : a ||| b < 2 ^ 64 := Nat.or_lt_two_pow ha hb
  show IntKind.u64.wrap ((BitVec.ofInt 64 (a : Int) ||| BitVec.ofInt 64 (b : Int)).toNat : Int) = _
  rw [BitVec.toNat_or, ofInt_u64 a (by omega), ofInt_u64 b (by omega)]
  exact IntWalk.u64_in _ (by omega)
theorem shl_or (n b : Int) (h0 : 0 ≤ n) (h1 : n < 72057594037927936) (hb0 : 0 ≤ b) (hb1 : b ≤ 255) : bits .or .u64 (n * 256) b = 256 * n + b := by
  obtain ⟨k, rfl⟩ := Int.eq_ofNat_of_zero_le h0
  obtain ⟨c, rfl⟩ := Int.eq_ofNat_of_zero_le hb0
  rw [show (k : Int) * 256 = ((2 ^ 8 * k : Nat) : Int) from by omega, u64_or_nat _ _ (by omega) (by omega), ← Nat.two_pow_add_eq_or_of_lt (by omega)]
  omega
def numOf (v : List Int) : Int := v.foldl (fun n b => 256 * n + b) 0
theorem numOf_be8 {n : Int} (h0 : 0 ≤ n) (h1 : n < 18446744073709551616) : numOf (be8 n) = n := by
  simp only [numOf, be8, List.foldl_cons, List.foldl_nil]
  omega

theorem numOf_snoc {v : List Int} {k : Nat} (hk : k < v.length) : numOf (v.take (k + 1)) = 256 * numOf (v.take k) + v.getD k 0 := by
  unfold numOf
  rw [List.take_add_one, List.getElem?_eq_getElem hk, List.foldl_append, List.getD_eq_getElem?_getD, List.getElem?_eq_getElem hk]
  rfl
theorem numOf_lt {v : List Int} (hb : Byt v) : ∀ k, k ≤ v.length → 0 ≤ numOf (v.take k) ∧ numOf (v.take k) < ((256 ^ k : Nat) : Int) := by
  intro k
  induction k with
  | zero => intro _; simp [numOf]
  | succ k ih =>
    intro hk
    have := ih (by omega)
    have hx := hb.at k
    rw [numOf_snoc (by omega), Nat.pow_succ]
    omega

set_option maxHeartbeats 4000000 in
theorem number_r (D g : Nat) (f : Bool) (r : List Int) (tag : Int) (w : World) (hs : RS w D g f r) :
    Calls Tryz.prog 101 #[.pointer (some ⟨g, 0, none⟩), .int .u8 tag] w fun e w' => ∃ n f' r', e = .returned (.int .u64 n) ∧ RS w' D g f' r' ∧ w.grownBy w' (some g) ∧
      ((∃ v, (tk f r tag).1 = some v ∧ v.length = 8 ∧ n = numOf v ∧ f' = (tk f r tag).2.1 ∧ r' = (tk f r tag).2.2) ∨ (f' = true ∧ n = 0 ∧ r' = (tk f r tag).2.2 ∧ ¬ ∃ v, (tk f r tag).1 = some v ∧ v.length = 8)) := by
  have ht := Lib.hid (take_any D g f r tag w hs)
  have hbyt : Hid (∀ v, (tk f r tag).1 = some v → Byt v) := Lib.hid fun v h => by
    obtain ⟨h1, h2, h3, h4, h5⟩ := tk_some (f' := (tk f r tag).2.1) (r' := (tk f r tag).2.2) hs.byt (by rw [← h])
    exact fun x hx => hs.byt x (by rw [h4]; simp [valB, hx])
  have hno : Hid ((tk f r tag).1 = none → (tk f r tag).2.1 = true) := Lib.hid fun h => (tk_none (f' := (tk f r tag).2.1) (r' := (tk f r tag).2.2) (by rw [← h])).1
  generalize tk f r tag = t at *
  obtain ⟨v0, f0, r0⟩ := t
  clear hs
  go_enter Tryz.func101, Tryz.ntmps101
  go_wp2_with fail
  refine ht.out.mono ?_
  clear ht
  rintro e w1 ⟨h, hrs, hg⟩
  have HRS := Lib.hid (And.intro hrs hg)
  clear hrs hg
  rcases h with ⟨v, A1, rfl, rfl, hr⟩ | ⟨rfl, rfl⟩
  · have hby := hbyt.out v rfl
    by_cases h8 : v.length = 8
    · go_wp2_with fail
      go_loopw [7, 26] (fun n i wr => ∃ k : Nat, n = .int .u64 (numOf (v.take k)) ∧ i = .int .i64 k ∧ k ≤ 8 ∧ wr = w1) (fun _ i _ => 8 - (intOf i).toNat)
      case atStart => exact ⟨0, rfl, rfl, by omega, rfl⟩
      case round =>
        obtain ⟨k, rfl, rfl, hk, rfl⟩ := hrel
        by_cases hlt : k < 8
        · obtain ⟨b, off, rfl, hb, hc⟩ := hr (by omega)
          have ck := hc k (by omega)
          have hx := hby.at k
          have hn := numOf_lt hby k (by omega)
          have hn2 : numOf (v.take k) < 72057594037927936 := by
            have h7 : 256 ^ k ≤ 72057594037927936 := Nat.le_trans (Nat.pow_le_pow_right (show 0 < 256 by omega) (show k ≤ 7 by omega)) (by decide)
            have := hn.2
            omega
          have HS := Lib.hid (numOf_snoc (v := v) (k := k) (by omega))
          have hn0 := hn.1
          obtain ⟨hx0, hx1⟩ := hx
          have hor := shl_or (numOf (v.take k)) (v.getD k 0) hn0 hn2 hx0 hx1
          clear hc hn
          generalize numOf (v.take k) = N at *
          generalize v.getD k 0 = bk at *
          go_wp2_with fail
          exact ⟨⟨k + 1, by rw [HS.out], by go_num, by omega, trivial⟩, by simp [intOf]; omega⟩
        · have : k = 8 := by omega
          subst this
          have HT : Hid (v.take 8 = v) := Lib.hid (List.take_of_length_le (by omega))
          rw [HT.out]
          clear hr hby
          go_wp2_with fail
          go_ret
          exact ⟨_, f0, r0, rfl, HRS.out.1, HRS.out.2, .inl ⟨v, rfl, h8, rfl, rfl, rfl⟩⟩
    · have hf := Lib.hid (fail_any D g f0 r0 w1 HRS.out.1)
      have h8' : ((v.length : Int) == 8) = false := by simp; omega
      have H8 := Lib.hid h8
      clear hr hby h8
      go_wp2_with fail
      refine hf.out.mono ?_
      rintro e w2 ⟨⟨vv, rfl⟩, h1, h2⟩
      go_wp2_with fail
      go_ret
      exact ⟨0, true, r0, rfl, h1, grownBy_trans HRS.out.2 h2, .inr ⟨rfl, rfl, rfl, fun ⟨v', e1, e2⟩ => H8.out (by injection e1 with e1; rw [e1]; exact e2)⟩⟩
  · have hf0 := hno.out rfl
    subst hf0
    go_wp2_with fail
    refine wp_loop_rounds 1 ?_
    rw [rounds_succ]
    go_wp2_with fail
    go_ret
    exact ⟨0, true, r0, rfl, HRS.out.1, HRS.out.2, .inr ⟨rfl, rfl, rfl, fun ⟨v', e1, e2⟩ => by cases e1⟩⟩

theorem tk_bytS {f : Bool} {r v : List Int} {tag : Int} {q : Bool × List Int} (hb : Byt r) (h : tk f r tag = (some v, q)) : Byt v := by
  obtain ⟨q1, q2⟩ := q
  obtain ⟨_, _, _, h4, _⟩ := tk_some hb h
  exact fun x hx => hb x (by rw [h4]; simp [valB, hx])
theorem q1 (N M R : Int) (h : N = 256 * M + R) (h0 : 0 ≤ R) (h1 : R < 256) : N / 256 = M := by omega
theorem q2 (N M R : Int) (h : N = 65536 * M + R) (h0 : 0 ≤ R) (h1 : R < 65536) : N / 65536 = M := by omega
theorem q3 (N M R : Int) (h : N = 16777216 * M + R) (h0 : 0 ≤ R) (h1 : R < 16777216) : N / 16777216 = M := by omega
theorem q4 (N M R : Int) (h : N = 4294967296 * M + R) (h0 : 0 ≤ R) (h1 : R < 4294967296) : N / 4294967296 = M := by omega
theorem q5 (N M R : Int) (h : N = 1099511627776 * M + R) (h0 : 0 ≤ R) (h1 : R < 1099511627776) : N / 1099511627776 = M := by omega
theorem q6 (N M R : Int) (h : N = 281474976710656 * M + R) (h0 : 0 ≤ R) (h1 : R < 281474976710656) : N / 281474976710656 = M := by omega
theorem q7 (N M R : Int) (h : N = 72057594037927936 * M + R) (h0 : 0 ≤ R) (h1 : R < 72057594037927936) : N / 72057594037927936 = M := by omega
theorem qm (M x : Int) (h0 : 0 ≤ x) (h1 : x ≤ 255) : (256 * M + x) % 256 = x := by omega
theorem be8_numOf {v : List Int} (hb : Byt v) (h : v.length = 8) : be8 (numOf v) = v := by
  match v, h with
  | [a, b, c, d, e, f, g, i], _ =>
    obtain ⟨la, ua⟩ := hb a (by simp)
    obtain ⟨lb, ub⟩ := hb b (by simp)
    obtain ⟨lc, uc⟩ := hb c (by simp)
    obtain ⟨ld, ud⟩ := hb d (by simp)
    obtain ⟨le, ue⟩ := hb e (by simp)
    obtain ⟨lf, uf⟩ := hb f (by simp)
    obtain ⟨lg, ug⟩ := hb g (by simp)
    obtain ⟨li, ui⟩ := hb i (by simp)
    clear hb
    simp only [numOf, be8, List.foldl_cons, List.foldl_nil]
    have e1 := q7 (256 * (256 * (256 * (256 * (256 * (256 * (256 * (256 * 0 + a) + b) + c) + d) + e) + f) + g) + i) a (281474976710656 * b + 1099511627776 * c + 4294967296 * d + 16777216 * e + 65536 * f + 256 * g + i) (by omega) (by omega) (by omega)
    have e2 := q6 (256 * (256 * (256 * (256 * (256 * (256 * (256 * (256 * 0 + a) + b) + c) + d) + e) + f) + g) + i) (256 * a + b) (1099511627776 * c + 4294967296 * d + 16777216 * e + 65536 * f + 256 * g + i) (by omega) (by omega) (by omega)
    have e3 := q5 (256 * (256 * (256 * (256 * (256 * (256 * (256 * (256 * 0 + a) + b) + c) + d) + e) + f) + g) + i) (256 * (256 * a + b) + c) (4294967296 * d + 16777216 * e + 65536 * f + 256 * g + i) (by omega) (by omega) (by omega)
    have e4 := q4 (256 * (256 * (256 * (256 * (256 * (256 * (256 * (256 * 0 + a) + b) + c) + d) + e) + f) + g) + i) (256 * (256 * (256 * a + b) + c) + d) (16777216 * e + 65536 * f + 256 * g + i) (by omega) (by omega) (by omega)
    have e5 := q3 (256 * (256 * (256 * (256 * (256 * (256 * (256 * (256 * 0 + a) + b) + c) + d) + e) + f) + g) + i) (256 * (256 * (256 * (256 * a + b) + c) + d) + e) (65536 * f + 256 * g + i) (by omega) (by omega) (by omega)
    have e6 := q2 (256 * (256 * (256 * (256 * (256 * (256 * (256 * (256 * 0 + a) + b) + c) + d) + e) + f) + g) + i) (256 * (256 * (256 * (256 * (256 * a + b) + c) + d) + e) + f) (256 * g + i) (by omega) (by omega) (by omega)
    have e7 := q1 (256 * (256 * (256 * (256 * (256 * (256 * (256 * (256 * 0 + a) + b) + c) + d) + e) + f) + g) + i) (256 * (256 * (256 * (256 * (256 * (256 * a + b) + c) + d) + e) + f) + g) i (by omega) (by omega) (by omega)
    rw [e1, e2, e3, e4, e5, e6, e7, qm _ b lb ub, qm _ c lc uc, qm _ d ld ud, qm _ e le ue, qm _ f lf uf, qm _ g lg ug, qm _ i li ui]
end Go.Proofs.YtcjiofhjognklaaGreat.Tlv

namespace Go.Proofs.YtcjiofhjognklaaGreat
open Go.RowKit
set_option linter.unusedVariables false
set_option linter.unusedSimpArgs false
/-- A block that is known whole. -/
def Blk (w : World) (g : Nat) (t : TypeId) (cs : Array Value) : Prop := w.heap[g]? = some (.cells cs t (0, 0))
section
variable {w w' : World} {g : Nat} {t : TypeId} {cs : Array Value}
theorem Blk.lt (h : Blk w g t cs) : g < w.heap.size := (Array.getElem?_eq_some_iff.1 h).1
theorem Blk.cell (h : Blk w g t cs) (i : Nat) : w.cell? ⟨g, i, none⟩ = cs[i]? := cell_of_row w g i cs t (0, 0) h
theorem Blk.frozen (h : Blk w g t cs) (i : Nat) : w.frozen? ⟨g, i, none⟩ = false := by
  unfold Blk at h
  simp [World.frozen?, h]
theorem Blk.new (w : World) (t : TypeId) (cs : Array Value) : Blk (w.alloc (.cells cs t)) w.heap.size t cs := heap_alloc_new w _
theorem Blk.alloc (h : Blk w g t cs) (o : Obj) : Blk (w.alloc o) g t cs := (Below.heap_alloc w o g h.lt).trans h
theorem Blk.set_ (h : Blk w g t cs) (i : Nat) (u : Value) : Blk (w.setCell ⟨g, i, none⟩ u) g t (cs.setIfInBounds i u) := by
  unfold Blk at h ⊢
  simp [World.setCell, Array.getElem?_modify, h]
theorem Blk.far (h : Blk w g t cs) {p : Addr} (hp : g ≠ p.block) (u : Value) : Blk (w.setCell p u) g t cs := (Below.heap_setCell w p u g hp).trans h
theorem Blk.grown {row : Option Nat} (h : Blk w g t cs) (hb : w.grownBy w' row) (hg : some g ≠ row) : Blk w' g t cs := (hb.block g h.lt hg).trans h
theorem Blk.below {B : Nat} (h : Blk w g t cs) (hb : Below B w w') (hg : g < B) : Blk w' g t cs := (hb.block g hg).trans h
theorem Blk.on (h : Blk w g t cs) (hb : Below w.heap.size w w') : Blk w' g t cs := h.below hb h.lt
theorem Blk.drew (h : Blk w g t cs) : Blk w.drew g t cs := h
theorem Blk.drewN (h : Blk w g t cs) (n : Nat) : Blk (w.drewN n) g t cs := h
end
theorem below_drewN {B : Nat} {a w : World} (h : Below B a w) (n : Nat) : Below B a (w.drewN n) := ⟨h.os, h.tape, h.output, h.size, h.block⟩
theorem le_alloc {n : Nat} {w : World} {o : Obj} (h : n ≤ w.heap.size) : n ≤ (w.alloc o).heap.size := by simp; omega
/-- A kind of records: their type, their slices' type, their cells. -/
structure Kind (α : Type) where
  e : TypeId
  st : TypeId
  size : Nat
  bytes : Nat
  cs : α → List Value
  len : ∀ x, (cs x).length = size
  one : ∀ x, ∀ u ∈ cs x, u.oneCell' = true
  pos : 0 < size
  sl : Tryz.prog.underlying st = some (.slice e)
  zero : ∃ (i : TypeInfo) (z : Value), Tryz.prog.info? e = some i ∧ i.zero = some z ∧ i.size = size ∧ i.bytes = bytes ∧ z.cells.size = size
  small : bytes ≤ 100

section
variable {α : Type} (K : Kind α)
abbrev flatK (l : List α) : List Value := l.flatMap K.cs
theorem flat_length (l : List α) : (flatK K l).length = l.length * K.size := by
  induction l with
  | nil => simp [flatK]
  | cons x t ih => simp only [flatK, List.flatMap_cons, List.length_append, List.length_cons] at *; rw [ih, K.len, Nat.add_mul, Nat.one_mul, Nat.add_comm]
theorem flat_one (l : List α) : ∀ u ∈ flatK K l, u.oneCell' = true := fun u hu => by
  obtain ⟨x, _, hx⟩ := List.mem_flatMap.1 hu
  exact K.one x u hx

/-- A slice that the call owns, from block 'base' on. -/
def RowK (w : World) (base : Nat) (v : Value) (l : List α) : Prop := w.ownsRow base K.e K.size v l.length (flatK K l)
variable {K} {w w' : World} {l : List α} {B base : Nat} {v : Value}
theorem RowK.alloc (h : RowK K w base v l) (o : Obj) : RowK K (w.alloc o) base v l := World.ownsRow.alloc h o
theorem RowK.drew (h : RowK K w base v l) : RowK K w.drew base v l := h
theorem RowK.drewN (h : RowK K w base v l) (n : Nat) : RowK K (w.drewN n) base v l := h
theorem nil_row (K : Kind α) (w : World) (base : Nat) : RowK K w base (.slice none 0 0) [] := World.ownsRow_nil _ _ _ _
theorem row_below (h : RowK K w base v l) (hg : w.grownBy w' v.ownBlock) (hb : base ≤ w.heap.size) : Below base w w' :=
  (Below.refl base w).grown hg hb (fun k hk => (World.ownsRow.lt h k hk).1)
end
section
variable {α : Type} [Inhabited α] (K : Kind α)
theorem flat_at : ∀ (l : List α) (j i : Nat), j < l.length → i < K.size → (flatK K l)[j * K.size + i]? = (K.cs (l.getD j default))[i]? := by
  intro l
  induction l with
  | nil => intro j i hj; simp at hj
  | cons x t ih =>
    intro j i hj hi
    simp only [flatK, List.flatMap_cons]
    have h3 := K.len x
    cases j with
    | zero => rw [List.getElem?_append_left (by omega)]; simp
    | succ j =>
      have e : (j + 1) * K.size = j * K.size + K.size := by rw [Nat.add_mul, Nat.one_mul]
      rw [List.getElem?_append_right (by omega), h3, show (j + 1) * K.size + i - K.size = j * K.size + i from by omega]
      have := ih j i (by simpa using hj) hi
      simpa using this
theorem flat_get : ∀ (l : List α) (j : Nat) (u : Value), (flatK K l)[j]? = some u → ∃ i c, i < l.length ∧ j = i * K.size + c ∧ (K.cs (l.getD i default))[c]? = some u := by
  intro l j u h
  have hp := K.pos
  have hlt : j < l.length * K.size := by rw [← flat_length]; exact (List.getElem?_eq_some_iff.1 h).1
  have hi : j / K.size < l.length := (Nat.div_lt_iff_lt_mul hp).2 hlt
  have hj : j = j / K.size * K.size + j % K.size := by rw [Nat.mul_comm]; exact (Nat.div_add_mod j K.size).symm
  refine ⟨j / K.size, j % K.size, hi, hj, ?_⟩
  rw [← flat_at K l _ _ hi (Nat.mod_lt _ hp), ← hj]
  exact h
/-- The slice that begins at A reads as l, below block B. -/
def RdK (w : World) (B : Nat) (A : Option Addr) (l : List α) : Prop := 0 < l.length → ∃ b off, A = some ⟨b, off, none⟩ ∧ b < B ∧ ∀ j, j < l.length → ∀ (i : Nat) (u : Value), (K.cs (l.getD j default))[i]? = some u → w.cell? ⟨b, off + j * K.size + i, none⟩ = some u
variable {K} {w w' : World} {l : List α} {A : Option Addr} {B base : Nat} {v : Value}
theorem RdK.below (h : RdK K w B A l) (hb : Below B w w') : RdK K w' B A l := fun hp => by
  obtain ⟨b, off, e, hlt, hc⟩ := h hp
  exact ⟨b, off, e, hlt, fun j hj i v hv => (hb.cell (p := ⟨b, off + j * K.size + i, none⟩) hlt).trans (hc j hj i v hv)⟩
theorem RdK.more {B' : Nat} (h : RdK K w B A l) (hB : B ≤ B') : RdK K w B' A l := fun hp => by
  obtain ⟨b, off, e, hlt, hc⟩ := h hp
  exact ⟨b, off, e, by omega, hc⟩
theorem RdK.on (h : RdK K w w.heap.size A l) (hb : Below w.heap.size w w') : RdK K w' w'.heap.size A l := (h.below hb).more hb.size
theorem RdK.drew (h : RdK K w B A l) : RdK K w.drew B A l := h
theorem rd_none : RdK K w B none l → l = [] := fun h => by
  cases l with
  | nil => rfl
  | cons x t => obtain ⟨b, off, e, _⟩ := h (by simp); cases e
theorem rd_block {g : Nat} {cs : Array Value} (h : Blk w g K.e cs) (e : cs.toList = flatK K l) : RdK K w w.heap.size (some ⟨g, 0, none⟩) l := fun hp => by
  refine ⟨g, 0, rfl, h.lt, fun j hj i v hv => ?_⟩
  have hi : i < K.size := by
    have := (List.getElem?_eq_some_iff.1 hv).1
    rwa [K.len] at this
  rw [h.cell, ← Array.getElem?_toList, e, show 0 + j * K.size + i = j * K.size + i from by omega, flat_at K l j i hj hi]
  exact hv
theorem RowK.rd0 (h : RowK K w base v l) : ∃ A c, v = .slice A l.length c ∧ (A = none → c = 0) ∧ RdK K w w.heap.size A l := by
  have hl := flat_length K l
  rcases h.2 with ⟨rfl, h0⟩ | ⟨g, cap, cur, rfl, _, hh, _, _, hcs, htk⟩
  · obtain rfl : l = [] := List.eq_nil_of_length_eq_zero h0
    exact ⟨none, 0, rfl, fun _ => rfl, fun h => by simp at h⟩
  · refine ⟨_, cap, rfl, fun h => (by cases h), fun _ => ⟨g, 0, rfl, (Array.getElem?_eq_some_iff.1 hh).1, fun j hj i u hu => ?_⟩⟩
    have hi : i < K.size := by
      have := (List.getElem?_eq_some_iff.1 hu).1
      rwa [K.len] at this
    have hlt : j * K.size + i < l.length * K.size := by
      have : (j + 1) * K.size ≤ l.length * K.size := Nat.mul_le_mul_right _ hj
      rw [Nat.add_mul, Nat.one_mul] at this
      omega
    rw [cell_of_row w g _ cur K.e (0, 0) hh, ← Array.getElem?_toList, show 0 + j * K.size + i = j * K.size + i from by omega, ← hu, ← flat_at K l j i hj hi]
    have : (flatK K l)[j * K.size + i]? = (cur.toList.take (l.length * K.size))[j * K.size + i]? := by rw [htk]
    rw [this, List.getElem?_take_of_lt hlt]
theorem RowK.rdn (h : RowK K w base v l) : ∃ A c n, Hid (n = l.length) ∧ v = .slice A n c ∧ (A = none → c = 0) ∧ RdK K w w.heap.size A l := by
  obtain ⟨A, c, e, h1, h2⟩ := h.rd0
  exact ⟨A, c, _, Lib.hid rfl, e, h1, h2⟩
set_option maxRecDepth 100000 in
/-- append, of a slice that may be nil. -/
theorem run_app (ty : TypeId) {c : Nat} (m : List α) (hown : RowK K w base v l) (hr : RdK K w B A m) (hA : A = none → c = 0)
    (hn : l.length + m.length ≤ 1000000000) (hb : base ≤ w.heap.size) :
    ∃ v' w', (Builtin.append_ #[K.st, K.st] ty #[v, .slice A m.length c]).run Tryz.prog w = .ok v' w' ∧ RowK K w' base v' (l ++ m) ∧ w.grownBy w' v.ownBlock := by
  obtain ⟨i0, z, hi, hz0, hz1, hz2, hz3⟩ := K.zero
  cases A with
  | none =>
    have hm : m = [] := rd_none hr
    subst hm
    have hc := hA rfl
    subst hc
    exact ⟨v, w, run_append_owned_none (P := Tryz.prog) (w := w) base K.st ty K.e i0 K.size K.sl hi v l.length (flatK K l) hown, by simpa using hown, World.grownBy.refl _ _⟩
  | some ad =>
    have hby : (l.length + m.length) * K.bytes ≤ 140737488355328 := by
      have := Nat.mul_le_mul hn K.small
      omega
    obtain ⟨v', w', h1, h2, h3, _, _⟩ := run_append_own_at (P := Tryz.prog) w base K.st ty K.e i0 z K.size K.bytes K.sl hi hz0 hz1 hz2 hz3 K.pos v l.length (flatK K l) hown ad m.length c (flatK K m) (flat_length K m)
      (fun j u hu => by
        obtain ⟨i, q, hi', rfl, hq⟩ := flat_get K m j u hu
        obtain ⟨b, off, e, hlt, hc⟩ := hr (by omega)
        injection e with e
        subst e
        rw [Addr.add_mid, ← Nat.add_assoc]
        exact hc i hi' q u hq) (flat_one K m) (by unfold maxLen; omega) hby hb
    exact ⟨v', w', h1, by unfold RowK flatK; simpa using h2, h3⟩
end
section
variable {α : Type} [Inhabited α] (K : Kind α) {w : World} {ops : Array Oper} {rest : List Oper} {o : Oper} {a : Act} {Q : Exit → Act → World → Prop}
theorem wpList_app (hgd : o.guard = none) (s x : Operand)
    (ho : o.op = .call { callee := .builtin .append, args := #[s, x], argTypes := #[K.st, K.st] })
    {base B : Nat} {v : Value} {l : List α} {A : Option Addr} {c : Nat} (m : List α) (hs : a.eval s = v) (hown : RowK K w base v l) (hx : a.eval x = .slice A m.length c) (hr : RdK K w B A m) (hA : A = none → c = 0)
    (hn : l.length + m.length ≤ 1000000000) (hb : base ≤ w.heap.size)
    (h : ∀ v' w', RowK K w' base v' (l ++ m) → w.grownBy w' v.ownBlock → wpList Tryz.prog ops Q rest (a.put o.dst v') w') :
    wpList Tryz.prog ops Q (o :: rest) a w := by
  refine wpList_plain hgd fun K' hK => ?_
  obtain ⟨v', w', h1, h2, h3⟩ := run_app o.type m hown hr hA hn hb
  unfold Oper.wp
  simp [execOp, ho, resolve, invoke, builtin, hs, hx, h1, Result.andThen]
  exact hK _ _ (h v' w' h2 h3)
theorem step_app {K' : Act → World → Prop} {E : Prop} (hgd : o.guard = none) (s x : Operand)
    (ho : o.op = .call { callee := .builtin .append, args := #[s, x], argTypes := #[K.st, K.st] })
    {base B : Nat} {v : Value} {l : List α} {A : Option Addr} {c : Nat} (m : List α) (hs : a.eval s = v) (hown : RowK K w base v l) (hx : a.eval x = .slice A m.length c) (hr : RdK K w B A m) (hA : A = none → c = 0)
    (hn : l.length + m.length ≤ 1000000000) (hb : base ≤ w.heap.size)
    (h : ∀ v' w', RowK K w' base v' (l ++ m) → w.grownBy w' v.ownBlock → K' (a.put o.dst v') w') :
    if Region.wanted o (yielded ops a.tmps) = true then Oper.wp Tryz.prog o a w K' Q else E := by
  have hw : Region.wanted o (yielded ops a.tmps) = true := by simp [Region.wanted, hgd]
  rw [if_pos hw]
  obtain ⟨v', w', h1, h2, h3⟩ := run_app o.type m hown hr hA hn hb
  unfold Oper.wp
  simp only [execOp, ho, resolve, invoke, builtin, Sem.run_bind, Sem.run_pure, Result.andThen_ok, List.map_toArray, List.map_cons, List.map_nil, hs, hx, h1]
  exact h v' w' h2 h3
end
end Go.Proofs.YtcjiofhjognklaaGreat
