/- Keys of one byte, items, nodes; comparing keys. -/
import Derived.Test.YtpldeobobfbkiaaTRow
import Derived.Lib.BytesEntry
import Derived.Lib.Bytealg
namespace Go.Proofs.Ytpldeobobfbkiaa.Tlv
open Go.RowKit
set_option maxRecDepth 100000
set_option linter.unusedVariables false
set_option linter.unusedSimpArgs false

theorem RowK.on {α : Type} {K : Kind α} {w w' : World} {base : Nat} {v : Value} {l : List α} (h : RowK K w base v l) (hb : Below w.heap.size w w') : RowK K w' base v l := by
  refine ⟨h.1, ?_⟩
  rcases h.2 with h0 | ⟨g, cap, cur, hv, hg, hh, rest⟩
  · exact .inl h0
  · exact .inr ⟨g, cap, cur, hv, hg, (hb.block g (Array.getElem?_eq_some_iff.1 hh).1).trans hh, rest⟩
theorem RowK.low {α : Type} {K : Kind α} {w : World} {base base' : Nat} {v : Value} {l : List α} (h : RowK K w base v l) (hb : base' ≤ base) : RowK K w base' v l := by
  refine ⟨h.1, ?_⟩
  rcases h.2 with h0 | ⟨g, cap, cur, hv, hg, rest⟩
  · exact .inl h0
  · exact .inr ⟨g, cap, cur, hv, Nat.le_trans hb hg, rest⟩
/-- An item: where its key lies, and its number. -/
structure It where
  b : Nat
  c : Nat
  v : Int
instance : Inhabited It := ⟨⟨0, 0, 0⟩⟩
abbrev keyV (b c : Nat) : Value := .slice (some ⟨b, 0, none⟩) 1 c
theorem info48 : ∃ (i : TypeInfo) (z : Value), Try.prog.info? 48 = some i ∧ i.zero = some z ∧ i.size = 2 ∧ i.bytes = 32 ∧ z.cells.size = 2 := by
  obtain ⟨i0, hi, hz0, hz1, hz2⟩ := info_parts (show (Try.prog.info? 48).map (fun i => (i.zero, i.size, i.bytes)) = some (some (.agg #[.slice none 0 0, .int .i64 0]), 2, 32) from by kernel_rfl)
  exact ⟨i0, _, hi, hz0, hz1, hz2, by kernel_rfl⟩
theorem info22 : ∃ (i : TypeInfo) (z : Value), Try.prog.info? 22 = some i ∧ i.zero = some z ∧ i.size = 1 ∧ i.bytes = 8 ∧ z.cells.size = 1 := by
  obtain ⟨i0, hi, hz0, hz1, hz2⟩ := info_parts (show (Try.prog.info? 22).map (fun i => (i.zero, i.size, i.bytes)) = some (some (.pointer none), 1, 8) from by kernel_rfl)
  exact ⟨i0, _, hi, hz0, hz1, hz2, by kernel_rfl⟩
theorem info3 : ∃ (i : TypeInfo) (z : Value), Try.prog.info? 3 = some i ∧ i.zero = some z ∧ i.size = 1 ∧ i.bytes = 8 ∧ z.cells.size = 1 := by
  obtain ⟨i0, hi, hz0, hz1, hz2⟩ := info_parts (show (Try.prog.info? 3).map (fun i => (i.zero, i.size, i.bytes)) = some (some (.int .i64 0), 1, 8) from by kernel_rfl)
  exact ⟨i0, _, hi, hz0, hz1, hz2, by kernel_rfl⟩
theorem info53 : ∃ (i : TypeInfo) (z : Value), Try.prog.info? 53 = some i ∧ i.zero = some z ∧ i.size = 1 ∧ i.bytes = 24 ∧ z.cells.size = 1 := by
  obtain ⟨i0, hi, hz0, hz1, hz2⟩ := info_parts (show (Try.prog.info? 53).map (fun i => (i.zero, i.size, i.bytes)) = some (some (.slice none 0 0), 1, 24) from by kernel_rfl)
  exact ⟨i0, _, hi, hz0, hz1, hz2, by kernel_rfl⟩
def kI : Kind It where
  e := 48
  st := 42
  size := 2
  bytes := 32
  cs := fun x => [keyV x.b x.c, .int .i64 x.v]
  len := fun _ => rfl
  one := fun x u hu => by simp at hu; rcases hu with rfl | rfl <;> rfl
  pos := by decide
  sl := Try.underlying42
  zero := info48
  small := by decide
def kP : Kind Nat where
  e := 22
  st := 41
  size := 1
  bytes := 8
  cs := fun x => [.pointer (some ⟨x, 0, none⟩)]
  len := fun _ => rfl
  one := fun x u hu => by simp at hu; subst hu; rfl
  pos := by decide
  sl := Try.underlying41
  zero := info22
  small := by decide
def kN : Kind Int where
  e := 3
  st := 53
  size := 1
  bytes := 8
  cs := fun x => [.int .i64 x]
  len := fun _ => rfl
  one := fun x u hu => by simp at hu; subst hu; rfl
  pos := by decide
  sl := Try.underlying53
  zero := info3
  small := by decide
/-- A slice of numbers. -/
structure Sl where
  b : Nat
  n : Nat
  c : Nat
instance : Inhabited Sl := ⟨⟨0, 0, 0⟩⟩
def kS : Kind Sl where
  e := 53
  st := 36
  size := 1
  bytes := 24
  cs := fun x => [.slice (some ⟨x.b, 0, none⟩) x.n x.c]
  len := fun _ => rfl
  one := fun x u hu => by simp at hu; subst hu; rfl
  pos := by decide
  sl := Try.underlying36
  zero := info53
  small := by decide
/-- A key of one byte. -/
def Key (w : World) (b : Nat) (i : Int) : Prop := ∃ cs, Blk w b 5 cs ∧ cs[0]? = some (.int .u8 i)
theorem Key.on {w w' : World} {b : Nat} {i : Int} (h : Key w b i) (hb : Below w.heap.size w w') : Key w' b i := by
  obtain ⟨cs, h1, h2⟩ := h
  exact ⟨cs, h1.on hb, h2⟩
theorem Key.kept {w w' : World} {b : Nat} {i : Int} (h : Key w b i) (hb : w'.heap[b]? = w.heap[b]?) : Key w' b i := by
  obtain ⟨cs, h1, h2⟩ := h
  exact ⟨cs, hb.trans h1, h2⟩
theorem Key.ne {w : World} {b g : Nat} {i : Int} {t : TypeId} {cs : Array Value} (h : Key w b i) (hg : Blk w g t cs) (ht : t ≠ 5) : b ≠ g := fun e => by
  subst e
  obtain ⟨cs', h1, _⟩ := h
  unfold Blk at h1 hg
  rw [h1] at hg
  injection hg with hg
  injection hg with _ h3
  exact ht h3.symm
theorem Key.lt {w : World} {b : Nat} {i : Int} (h : Key w b i) : b < w.heap.size := by obtain ⟨cs, h1, _⟩ := h; exact h1.lt
theorem Key.cell {w : World} {b : Nat} {i : Int} (h : Key w b i) : w.cell? ⟨b, 0, none⟩ = some (.int .u8 i) := by
  obtain ⟨cs, h1, h2⟩ := h
  rw [h1.cell, h2]
theorem Key.rd {w : World} {b : Nat} {i : Int} (h : Key w b i) : Rd w w.heap.size (some ⟨b, 0, none⟩) [i] := fun _ => ⟨b, 0, rfl, h.lt, fun j hj => by
  have : j = 0 := by simpa using hj
  subst this
  exact h.cell⟩
theorem key_of_row {w : World} {base : Nat} {v : Value} {i : Int} (h : Row w base v [i]) : ∃ b c, v = keyV b c ∧ Key w b i := by
  rcases h.2 with ⟨_, h0⟩ | ⟨g, cap, cur, rfl, _, hh, _, _, hcs, htk⟩
  · simp at h0
  · refine ⟨g, cap, rfl, cur, hh, ?_⟩
    have h0 := congrArg (fun l => l[0]?) htk
    simp [List.getElem?_take] at h0
    rw [← Array.getElem?_toList]
    simp [← h0]
theorem cmp1 (i j : Int) : (∃ r, Extern.BytealgCompare.cmp ⟨#[i.toNat.toUInt8]⟩ ⟨#[j.toNat.toUInt8]⟩ = r) := ⟨_, rfl⟩
abbrev cmpI (i j : Int) : Int := Extern.BytealgCompare.cmp ⟨#[i.toNat.toUInt8]⟩ ⟨#[j.toNat.toUInt8]⟩
theorem load1 (w : World) (b : Nat) (i : Int) (h : w.cell? ⟨b, 0, none⟩ = some (.int .u8 i)) : (Extern.Bytes.loadBytes ⟨b, 0, none⟩ 1 .empty).run Try.prog w = .ok ⟨#[i.toNat.toUInt8]⟩ w := by
  have hl := Lib.run_loadBytesX (P := Try.prog) w [i] ⟨b, 0, none⟩ .empty (fun j x hj => by
    match j with
    | 0 => simp at hj; subst hj; simpa [Addr.add] using h
    | j + 1 => simp at hj)
  have he : (⟨ByteArray.empty.data ++ (Lib.bytesOf [i]).toArray⟩ : ByteArray) = ⟨#[i.toNat.toUInt8]⟩ := by
    apply ByteArray.ext
    simp [Lib.bytesOf]
  rw [he] at hl
  exact hl
theorem run_cmp (w : World) (b b' c c' : Nat) (i j : Int) (h : w.cell? ⟨b, 0, none⟩ = some (.int .u8 i)) (h' : w.cell? ⟨b', 0, none⟩ = some (.int .u8 j)) :
    (Extern.BytealgCompare.compare #[keyV b c, keyV b' c']).run Try.prog w = .ok (.int .i64 (cmpI i j)) w := by
  change Sem.run Try.prog (do pure (goInt (Extern.BytealgCompare.cmp (← Extern.Bytes.bytesOf (keyV b c)) (← Extern.Bytes.bytesOf (keyV b' c'))))) w = _
  simp only [Extern.Bytes.bytesOf, Sem.run_bind, Sem.run_pure, Result.andThen, load1 w b i h, load1 w b' j h']
  rfl
theorem compare_any (b b' c c' : Nat) (i j : Int) (w : World) (h : Key w b i) (h' : Key w b' j) : Calls Try.prog 31 #[keyV b c, keyV b' c'] w fun e w' => e = .returned (.int .i64 (cmpI i j)) ∧ w = w' := by
  have hc := run_cmp w b b' c c' i j h.cell h'.cell
  generalize cmpI i j = r at *
  clear h h'
  go_enter Try.func31, Try.ntmps31
  go_wp2
  rw [run_callFunc_extern Try.func43 (by kernel_rfl) (by kernel_rfl) (by kernel_rfl) (e := Extern.BytealgCompare.compare) (by kernel_rfl), hc]
  simp only [Result.andThen]
  rw [Oper.upon_value]
  go_wp2
  go_ret
  exact ⟨rfl, rfl⟩
theorem at_any (b b' c c' : Nat) (i j v : Int) (w : World) (h : Key w b i) (h' : Key w b' j) : Calls Try.prog 30 #[.agg #[keyV b c, .int .i64 v], keyV b' c'] w fun e w' => e = .returned (.int .i64 (cmpI i j)) ∧ Below w.heap.size w w' := by
  have hb : Below w.heap.size w (w.alloc (.cells #[keyV b c, .int .i64 v] 48)) := (Below.refl _ _).alloc (Nat.le_refl _) _
  have HC := Lib.hid (compare_any b b' c c' i j (w.alloc (.cells #[keyV b c, .int .i64 v] 48)) (h.on hb) (h'.on hb))
  generalize cmpI i j = r at *
  clear h h'
  go_enter Try.func30, Try.ntmps30
  go_wp2_with (with_reducible refine HC.out.mono ?_; rintro e w1 ⟨rfl, rfl⟩; dsimp only)
  go_ret
  exact ⟨rfl, hb⟩
end Go.Proofs.Ytpldeobobfbkiaa.Tlv
