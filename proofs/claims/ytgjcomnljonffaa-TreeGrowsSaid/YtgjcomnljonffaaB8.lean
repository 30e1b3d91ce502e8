/- slices.Clone, at bytes, items and pointers. -/
import Derived.Test.YtgjcomnljonffaaB5
namespace Go.Proofs.Ytgjcomnljonffaa.Tlv
open Go.RowKit
set_option maxRecDepth 100000
set_option linter.unusedVariables false
set_option linter.unusedSimpArgs false
theorem info5' : ∃ (i : TypeInfo) (z : Value), Try.prog.info? 5 = some i ∧ i.zero = some z ∧ i.size = 1 ∧ i.bytes = 1 ∧ z.cells.size = 1 := by
  obtain ⟨i0, hi, hz0, hz1, hz2⟩ := info_parts info5
  exact ⟨i0, _, hi, hz0, hz1, hz2, by kernel_rfl⟩
def kB : Kind UInt8 where
  e := 5
  st := 39
  size := 1
  bytes := 1
  cs := fun u => [.int .u8 (u.toNat : Int)]
  len := fun _ => rfl
  one := fun x u hu => by simp at hu; subst hu; rfl
  pos := by decide
  sl := Try.underlying39
  zero := info5'
  small := by decide
theorem KAt.rd {w : World} {A : Option Addr} {k : Key} (h : KAt w A k) : RdK kB w w.heap.size A k := fun hp => by
  obtain ⟨b, off, cs, e, h2, h3⟩ := h hp
  refine ⟨b, off, e, h2.lt, fun j hj i u hu => ?_⟩
  have hi : i = 0 := by
    have := (List.getElem?_eq_some_iff.1 hu).1
    have e : (kB.cs (k.getD j default)).length = 1 := rfl
    omega
  subst hi
  have : some (Value.int .u8 ((k.getD j default).toNat : Int)) = some u := by simpa [kB] using hu
  rw [← this, h2.cell, show off + j * kB.size + 0 = off + j from by simp [kB], h3 j hj]
  rfl
theorem KAt.of_row {w : World} {base n c : Nat} {A : Option Addr} {k : Key} (h : RowK kB w base (.slice A n c) k) : KAt w A k ∧ n = k.length := by
  obtain ⟨hn, h0 | ⟨g, cur, rfl, hb, hg, h1, h2, h3, h4⟩⟩ := h.cases
  · refine ⟨fun hp => by omega, hn⟩
  · refine ⟨fun hp => ⟨g, 0, _, rfl, hg, fun j hj => ?_⟩, hn⟩
    have hj' : (cur.take (n * kB.size))[j]? = (flatK kB k)[j]? := by rw [h4]
    have e := flat_at kB k j 0 hj (by decide)
    rw [show j * kB.size + 0 = j from by simp [kB]] at e
    rw [List.getElem?_take_of_lt (by rw [show n * kB.size = n from by simp [kB]]; omega), e] at hj'
    simp only [List.getElem?_toArray, Nat.zero_add, hj']
    rfl
def CloneOut {α : Type} (K : Kind α) (l : List α) (w : World) (e : Ending) (w' : World) : Prop := ∃ v', e = .returned v' ∧ RowK K w' w.heap.size v' l ∧ Below w.heap.size w w'
theorem clone_B (A : Option Addr) (n c : Nat) (l : List UInt8) (w : World) (hr : RdK kB w w.heap.size A l) (hn : n = l.length) (h0 : A = none → n = 0 ∧ c = 0) (hmax : n ≤ 1000000) :
    Calls Try.prog 28 #[.slice A n c] w (CloneOut kB l w) := by
  cases A with
  | none =>
    obtain ⟨rfl, rfl⟩ := h0 rfl
    obtain rfl : l = [] := List.eq_nil_of_length_eq_zero hn.symm
    have h1 : ∀ W, (binOp BinOp.eql 39 (Value.slice none 0 0) (Value.slice none 0 0)).run Try.prog W = .ok (.bool true) W := fun _ => rfl
    clear hr hn h0 hmax
    go_enter Try.func28, Try.ntmps28
    go_wp2
    go_ret
    exact ⟨_, rfl, nil_row _ _ _, Below.refl _ _⟩
  | some a =>
    have h1 : ∀ W, (binOp BinOp.eql 39 (Value.slice (some a) n c) (Value.slice none 0 0)).run Try.prog W = .ok (.bool false) W := fun _ => rfl
    have hb1 : Below w.heap.size w (w.alloc (.cells #[] 5)) := (Below.refl _ _).alloc (Nat.le_refl _) _
    have hR : RowK kB (w.alloc (.cells #[] 5)) w.heap.size (.slice (some ⟨w.heap.size, 0, none⟩) 0 0) [] := World.ownsRow_made w #[] 0 (Nat.le_refl _) (by simp [maxLen]) rfl
    obtain ⟨v', w', k1, k2, k3, k4⟩ := run_app5 (K := kB) 39 (c := c) l hR (hr.below hb1) (fun h => by cases h) (by simp; omega) (by simp)
    rw [← hn] at k1
    simp only [show kB.st = 39 from rfl] at k1
    have HK := Lib.hid k1
    have HZ := Lib.hid (And.intro k2 (hb1.trans (row_below hR k3 (by simp))))
    clear hr hn h0 k1 k2 k3 k4 hR hb1
    go_enter Try.func28, Try.ntmps28
    go_wp2_with (at_builtin; refine wpList_ap rfl (.tmp 5) (.tmp 6) 39 39 rfl _ _ rfl rfl HK.out ?_)
    go_ret
    exact ⟨_, rfl, by simpa using HZ.out.1, HZ.out.2⟩
theorem clone_I (A : Option Addr) (n c : Nat) (l : List It) (w : World) (hr : RdK kI w w.heap.size A l) (hn : n = l.length) (h0 : A = none → n = 0 ∧ c = 0) (hmax : n ≤ 1000000) :
    Calls Try.prog 44 #[.slice A n c] w (CloneOut kI l w) := by
  cases A with
  | none =>
    obtain ⟨rfl, rfl⟩ := h0 rfl
    obtain rfl : l = [] := List.eq_nil_of_length_eq_zero hn.symm
    have h1 : ∀ W, (binOp BinOp.eql 56 (Value.slice none 0 0) (Value.slice none 0 0)).run Try.prog W = .ok (.bool true) W := fun _ => rfl
    clear hr hn h0 hmax
    go_enter Try.func44, Try.ntmps44
    go_wp2
    go_ret
    exact ⟨_, rfl, nil_row _ _ _, Below.refl _ _⟩
  | some a =>
    have h1 : ∀ W, (binOp BinOp.eql 56 (Value.slice (some a) n c) (Value.slice none 0 0)).run Try.prog W = .ok (.bool false) W := fun _ => rfl
    have hb1 : Below w.heap.size w (w.alloc (.cells #[] 69)) := (Below.refl _ _).alloc (Nat.le_refl _) _
    have hR : RowK kI (w.alloc (.cells #[] 69)) w.heap.size (.slice (some ⟨w.heap.size, 0, none⟩) 0 0) [] := World.ownsRow_made w #[] 0 (Nat.le_refl _) (by simp [maxLen]) rfl
    obtain ⟨v', w', k1, k2, k3, k4⟩ := run_app5 (K := kI) 56 (c := c) l hR (hr.below hb1) (fun h => by cases h) (by simp; omega) (by simp)
    rw [← hn] at k1
    simp only [show kI.st = 56 from rfl] at k1
    have HK := Lib.hid k1
    have HZ := Lib.hid (And.intro k2 (hb1.trans (row_below hR k3 (by simp))))
    clear hr hn h0 k1 k2 k3 k4 hR hb1
    go_enter Try.func44, Try.ntmps44
    go_wp2_with (at_builtin; refine wpList_ap rfl (.tmp 5) (.tmp 6) 56 56 rfl _ _ rfl rfl HK.out ?_)
    go_ret
    exact ⟨_, rfl, by simpa using HZ.out.1, HZ.out.2⟩
theorem clone_P (A : Option Addr) (n c : Nat) (l : List Nat) (w : World) (hr : RdK kP w w.heap.size A l) (hn : n = l.length) (h0 : A = none → n = 0 ∧ c = 0) (hmax : n ≤ 1000000) :
    Calls Try.prog 50 #[.slice A n c] w (CloneOut kP l w) := by
  cases A with
  | none =>
    obtain ⟨rfl, rfl⟩ := h0 rfl
    obtain rfl : l = [] := List.eq_nil_of_length_eq_zero hn.symm
    have h1 : ∀ W, (binOp BinOp.eql 57 (Value.slice none 0 0) (Value.slice none 0 0)).run Try.prog W = .ok (.bool true) W := fun _ => rfl
    clear hr hn h0 hmax
    go_enter Try.func50, Try.ntmps50
    go_wp2
    go_ret
    exact ⟨_, rfl, nil_row _ _ _, Below.refl _ _⟩
  | some a =>
    have h1 : ∀ W, (binOp BinOp.eql 57 (Value.slice (some a) n c) (Value.slice none 0 0)).run Try.prog W = .ok (.bool false) W := fun _ => rfl
    have hb1 : Below w.heap.size w (w.alloc (.cells #[] 55)) := (Below.refl _ _).alloc (Nat.le_refl _) _
    have hR : RowK kP (w.alloc (.cells #[] 55)) w.heap.size (.slice (some ⟨w.heap.size, 0, none⟩) 0 0) [] := World.ownsRow_made w #[] 0 (Nat.le_refl _) (by simp [maxLen]) rfl
    obtain ⟨v', w', k1, k2, k3, k4⟩ := run_app5 (K := kP) 57 (c := c) l hR (hr.below hb1) (fun h => by cases h) (by simp; omega) (by simp)
    rw [← hn] at k1
    simp only [show kP.st = 57 from rfl] at k1
    have HK := Lib.hid k1
    have HZ := Lib.hid (And.intro k2 (hb1.trans (row_below hR k3 (by simp))))
    clear hr hn h0 k1 k2 k3 k4 hR hb1
    go_enter Try.func50, Try.ntmps50
    go_wp2_with (at_builtin; refine wpList_ap rfl (.tmp 5) (.tmp 6) 57 57 rfl _ _ rfl rfl HK.out ?_)
    go_ret
    exact ⟨_, rfl, by simpa using HZ.out.1, HZ.out.2⟩
end Go.Proofs.Ytgjcomnljonffaa.Tlv
