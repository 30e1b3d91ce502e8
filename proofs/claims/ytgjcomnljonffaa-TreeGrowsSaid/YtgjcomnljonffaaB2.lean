/- Keys as they lie; comparing two; finding a key among a node's items. -/
import Derived.Test.YtgjcomnljonffaaB1
import Derived.Test.YtgjcomnljonffaaTRow
import Derived.Lib.BytesEntry
import Derived.Deep.LoopGhost
namespace Go.Proofs.Ytgjcomnljonffaa.Tlv
open Go.RowKit
set_option maxRecDepth 100000
set_option linter.unusedVariables false
set_option linter.unusedSimpArgs false
theorem info69 : ∃ (i : TypeInfo) (z : Value), Try.prog.info? 69 = some i ∧ i.zero = some z ∧ i.size = 2 ∧ i.bytes = 32 ∧ z.cells.size = 2 := by
  obtain ⟨i0, hi, hz0, hz1, hz2⟩ := info_parts (show (Try.prog.info? 69).map (fun i => (i.zero, i.size, i.bytes)) = some (some (.agg #[.slice none 0 0, .int .i64 0]), 2, 32) from by kernel_rfl)
  exact ⟨i0, _, hi, hz0, hz1, hz2, by kernel_rfl⟩
theorem info55 : ∃ (i : TypeInfo) (z : Value), Try.prog.info? 55 = some i ∧ i.zero = some z ∧ i.size = 1 ∧ i.bytes = 8 ∧ z.cells.size = 1 := by
  obtain ⟨i0, hi, hz0, hz1, hz2⟩ := info_parts (show (Try.prog.info? 55).map (fun i => (i.zero, i.size, i.bytes)) = some (some (.pointer none), 1, 8) from by kernel_rfl)
  exact ⟨i0, _, hi, hz0, hz1, hz2, by kernel_rfl⟩
theorem info3 : ∃ (i : TypeInfo) (z : Value), Try.prog.info? 3 = some i ∧ i.zero = some z ∧ i.size = 1 ∧ i.bytes = 8 ∧ z.cells.size = 1 := by
  obtain ⟨i0, hi, hz0, hz1, hz2⟩ := info_parts (show (Try.prog.info? 3).map (fun i => (i.zero, i.size, i.bytes)) = some (some (.int .i64 0), 1, 8) from by kernel_rfl)
  exact ⟨i0, _, hi, hz0, hz1, hz2, by kernel_rfl⟩
theorem info70 : ∃ (i : TypeInfo) (z : Value), Try.prog.info? 70 = some i ∧ i.zero = some z ∧ i.size = 1 ∧ i.bytes = 24 ∧ z.cells.size = 1 := by
  obtain ⟨i0, hi, hz0, hz1, hz2⟩ := info_parts (show (Try.prog.info? 70).map (fun i => (i.zero, i.size, i.bytes)) = some (some (.slice none 0 0), 1, 24) from by kernel_rfl)
  exact ⟨i0, _, hi, hz0, hz1, hz2, by kernel_rfl⟩
def kI : Kind It where
  e := 69
  st := 56
  size := 2
  bytes := 32
  cs := fun x => [.slice x.A x.k.length x.c, .int .i64 x.v]
  len := fun _ => rfl
  one := fun x u hu => by simp at hu; rcases hu with rfl | rfl <;> rfl
  pos := by decide
  sl := Try.underlying56
  zero := info69
  small := by decide
def kP : Kind Nat where
  e := 55
  st := 57
  size := 1
  bytes := 8
  cs := fun x => [.pointer (some ⟨x, 0, none⟩)]
  len := fun _ => rfl
  one := fun x u hu => by simp at hu; subst hu; rfl
  pos := by decide
  sl := Try.underlying57
  zero := info55
  small := by decide
def kN : Kind Int where
  e := 3
  st := 70
  size := 1
  bytes := 8
  cs := fun x => [.int .i64 x]
  len := fun _ => rfl
  one := fun x u hu => by simp at hu; subst hu; rfl
  pos := by decide
  sl := Try.underlying70
  zero := info3
  small := by decide
/-- A slice of numbers. -/
structure Sl where
  A : Option Addr
  n : Nat
  c : Nat
instance : Inhabited Sl := ⟨⟨none, 0, 0⟩⟩
def kS : Kind Sl where
  e := 70
  st := 41
  size := 1
  bytes := 24
  cs := fun x => [.slice x.A x.n x.c]
  len := fun _ => rfl
  one := fun x u hu => by simp at hu; subst hu; rfl
  pos := by decide
  sl := Try.underlying41
  zero := info70
  small := by decide
/-- A key as it lies: in a block of bytes. -/
def KAt (w : World) (A : Option Addr) (k : Key) : Prop :=
  0 < k.length → ∃ b off cs, A = some ⟨b, off, none⟩ ∧ Blk w b 5 cs ∧ ∀ j, j < k.length → cs[off + j]? = some (.int .u8 ((k.getD j 0).toNat : Int))
theorem KAt.on {w w' : World} {A : Option Addr} {k : Key} (h : KAt w A k) (hb : Below w.heap.size w w') : KAt w' A k := fun hp => by
  obtain ⟨b, off, cs, h1, h2, h3⟩ := h hp
  exact ⟨b, off, cs, h1, h2.on hb, h3⟩
theorem KAt.nil {w : World} {A : Option Addr} : KAt w A [] := fun h => by simp at h
/-- All blocks of bytes stand as they were. -/
def Kept5 (w w' : World) : Prop := ∀ b cs, Blk w b 5 cs → Blk w' b 5 cs
theorem KAt.kept {w w' : World} {A : Option Addr} {k : Key} (h : KAt w A k) (hk : Kept5 w w') : KAt w' A k := fun hp => by
  obtain ⟨b, off, cs, h1, h2, h3⟩ := h hp
  exact ⟨b, off, cs, h1, hk b cs h2, h3⟩
def ints (k : Key) : List Int := k.map fun u => (u.toNat : Int)
theorem bytesOf_ints (k : Key) : Lib.bytesOf (ints k) = k := by
  simp [Lib.bytesOf, ints, Function.comp_def]
theorem load_key (w : World) (A : Option Addr) (c : Nat) (k : Key) (h : KAt w A k) : (Extern.Bytes.bytesOf (.slice A k.length c)).run Try.prog w = .ok ⟨k.toArray⟩ w := by
  cases A with
  | none =>
    have : k = [] := by
      cases k with
      | nil => rfl
      | cons x r => obtain ⟨b, off, cs, e, _⟩ := h (by simp); cases e
    subst this
    rfl
  | some a =>
    have hl := Lib.run_loadBytesX (P := Try.prog) w (ints k) a .empty (fun j x hj => by
      have hj' : j < k.length := by have := (List.getElem?_eq_some_iff.1 hj).1; simpa [ints] using this
      obtain ⟨b, off, cs, e, h2, h3⟩ := h (by omega)
      cases e
      have ea : (⟨b, off, none⟩ : Addr).add j = ⟨b, off + j, none⟩ := by unfold Addr.add; split <;> simp_all
      rw [ea, h2.cell, h3 j hj']
      simp [ints, List.getElem?_eq_getElem hj'] at hj
      rw [← hj]
      simp [List.getD_eq_getElem?_getD, List.getElem?_eq_getElem hj'])
    rw [bytesOf_ints] at hl
    have he : (⟨ByteArray.empty.data ++ k.toArray⟩ : ByteArray) = ⟨k.toArray⟩ := by
      apply ByteArray.ext
      simp
    rw [he, show (ints k).length = k.length by simp [ints]] at hl
    exact hl
theorem run_cmp (w : World) (A A' : Option Addr) (c c' : Nat) (k k' : Key) (h : KAt w A k) (h' : KAt w A' k') :
    (Extern.BytealgCompare.compare #[.slice A k.length c, .slice A' k'.length c']).run Try.prog w = .ok (.int .i64 (kcmp k k')) w := by
  change Sem.run Try.prog (do pure (goInt (Extern.BytealgCompare.cmp (← Extern.Bytes.bytesOf (.slice A k.length c)) (← Extern.Bytes.bytesOf (.slice A' k'.length c'))))) w = _
  simp only [Sem.run_bind, Sem.run_pure, Result.andThen, load_key w A c k h, load_key w A' c' k' h']
  rw [Lib.cmp_eq]
  rfl
theorem compare_any (A A' : Option Addr) (n c n' c' : Nat) (k k' : Key) (w : World) (h : KAt w A k) (h' : KAt w A' k') (hn : Hid (n = k.length)) (hn' : Hid (n' = k'.length)) :
    Calls Try.prog 47 #[.slice A n c, .slice A' n' c'] w fun e w' => e = .returned (.int .i64 (kcmp k k')) ∧ w = w' := by
  have hc := run_cmp w A A' c c' k k' h h'
  rw [← hn.out, ← hn'.out] at hc
  generalize kcmp k k' = r at *
  clear h h' hn hn'
  go_enter Try.func47, Try.ntmps47
  go_wp2
  rw [run_callFunc_extern Try.func55 (by kernel_rfl) (by kernel_rfl) (by kernel_rfl) (e := Extern.BytealgCompare.compare) (by kernel_rfl), hc]
  simp only [Result.andThen]
  rw [Oper.upon_value]
  go_wp2
  go_ret
  exact ⟨rfl, rfl⟩
theorem at_any (A A' : Option Addr) (n c n' c' : Nat) (v : Int) (k k' : Key) (w : World) (h : KAt w A k) (h' : KAt w A' k') (hn : Hid (n = k.length)) (hn' : Hid (n' = k'.length)) :
    Calls Try.prog 46 #[.agg #[.slice A n c, .int .i64 v], .slice A' n' c'] w fun e w' => e = .returned (.int .i64 (kcmp k k')) ∧ Below w.heap.size w w' := by
  have hb : Below w.heap.size w (w.alloc (.cells #[.slice A n c, .int .i64 v] 69)) := (Below.refl _ _).alloc (Nat.le_refl _) _
  have HC := Lib.hid (compare_any A A' n c n' c' k k' (w.alloc (.cells #[.slice A n c, .int .i64 v] 69)) (h.on hb) (h'.on hb) hn hn')
  generalize kcmp k k' = r at *
  clear h h' hn hn'
  go_enter Try.func46, Try.ntmps46
  go_wp2_with (with_reducible refine HC.out.mono ?_; rintro e w1 ⟨rfl, rfl⟩; dsimp only)
  go_ret
  exact ⟨rfl, hb⟩
/-- A key's place among rising items. -/
structure Fnd (its : List It) (key : Key) (i : Nat) (is : Bool) : Prop where
  le : i ≤ its.length
  lo : ∀ x ∈ its.take i, klt x.k key
  yes : is = true → i < its.length ∧ (its.getD i default).k = key
  no : is = false → ∀ x ∈ its.drop i, klt key x.k
def Rise (its : List It) : Prop := its.Pairwise fun a b => klt a.k b.k
theorem Rise.lt {its : List It} (h : Rise its) {i j : Nat} (hij : i < j) (hj : j < its.length) : klt (its.getD i default).k (its.getD j default).k := by
  have := List.pairwise_iff_getElem.1 h i j (by omega) hj hij
  simpa [List.getD_eq_getElem?_getD, List.getElem?_eq_getElem hj, List.getElem?_eq_getElem (show i < its.length by omega)] using this
theorem mem_take_getD {l : List It} {i : Nat} {x : It} (h : x ∈ l.take i) : ∃ j, j < i ∧ j < l.length ∧ x = l.getD j default := by
  obtain ⟨j, hj, e⟩ := List.getElem_of_mem h
  simp at hj e
  exact ⟨j, by omega, by omega, by rw [← e]; simp [List.getD_eq_getElem?_getD, List.getElem?_eq_getElem (show j < l.length by omega)]⟩
theorem mem_drop_getD {l : List It} {i : Nat} {x : It} (h : x ∈ l.drop i) : ∃ j, i ≤ j ∧ j < l.length ∧ x = l.getD j default := by
  obtain ⟨j, hj, e⟩ := List.getElem_of_mem h
  simp at hj e
  exact ⟨i + j, by omega, by omega, by rw [← e]; simp [List.getD_eq_getElem?_getD, List.getElem?_eq_getElem (show i + j < l.length by omega)]⟩
theorem item_cells {w : World} {A : Option Addr} {its : List It} {j : Nat} (h : RdK kI w w.heap.size A its) (hj : j < its.length) :
    ∃ b off, A = some ⟨b, off, none⟩ ∧ b < w.heap.size ∧ w.cell? ⟨b, off + j * 2, none⟩ = some (.slice (its.getD j default).A (its.getD j default).k.length (its.getD j default).c) ∧ w.cell? ⟨b, off + j * 2 + 1, none⟩ = some (.int .i64 (its.getD j default).v) := by
  obtain ⟨b, off, e, hlt, hc⟩ := h (by omega)
  refine ⟨b, off, e, hlt, ?_, ?_⟩
  · have := hc j hj 0 _ rfl
    exact this
  · exact hc j hj 1 _ rfl
end Go.Proofs.Ytgjcomnljonffaa.Tlv
