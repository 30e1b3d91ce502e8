/- A writer's Bytes, where the writer lies below what must be kept, and its bytes above. -/
import Derived.Test.YtiakfdfpikheaaaAllF
namespace Go.Proofs.Ytiakfdfpikheaaa
open Go.RowKit
set_option linter.unusedVariables false
set_option linter.unusedSimpArgs false

/-- All below base but the writer's block is kept; so is all that is no cells. -/
structure GK (base g : Nat) (w w' : World) : Prop where
  os : w'.os = w.os
  tape : w'.tape = w.tape
  output : w'.output = w.output
  oth : KeepsOthers w w'
  same : ∀ k, k < base → k ≠ g → w'.heap[k]? = w.heap[k]?
  le : base ≤ w'.heap.size
theorem GK.refl (base g : Nat) (w : World) (hb : base ≤ w.heap.size) : GK base g w w := ⟨rfl, rfl, rfl, KeepsOthers.refl _, fun _ _ _ => rfl, hb⟩
theorem GK.trans {base g : Nat} {a b c : World} (h : GK base g a b) (k : GK base g b c) : GK base g a c := ⟨k.os.trans h.os, k.tape.trans h.tape, k.output.trans h.output, h.oth.trans k.oth, fun i hi hg => (k.same i hi hg).trans (h.same i hi hg), k.le⟩
theorem GK.of {base g : Nat} {a b : World} (h : Below base a b) (ho : KeepsOthers a b) (hb : base ≤ a.heap.size) : GK base g a b := ⟨h.os, h.tape, h.output, ho, fun k hk _ => h.block k hk, Nat.le_trans hb h.size⟩
theorem GK.alloc {base g : Nat} {a w : World} (h : GK base g a w) (o : Obj) : GK base g a (w.alloc o) :=
  h.trans (GK.of ((Below.refl _ _).alloc h.le o) (KeepsOthers.alloc _ _) h.le)
theorem keeps_rowK {W W' : World} {base : Nat} {v : Value} {l : List Int} (h : RowK kB W base v l) (hg : W.grownBy W' v.ownBlock) : KeepsOthers W W' :=
  ⟨hg.size, fun k o hk ho => (hg.block k (Array.getElem?_eq_some_iff.1 hk).1 (fun e => by rw [own_cells h e.symm hk] at ho; cases ho)).trans hk⟩
theorem GK.grown {base g : Nat} {a w w' : World} {v : Value} {l : List Int} (h : GK base g a w) (hr : RowK kB w base v l) (hg : w.grownBy w' v.ownBlock) : GK base g a w' :=
  h.trans (GK.of ((Below.refl _ _).grown hg h.le (fun k hk => (World.ownsRow.lt hr k hk).1)) (keeps_rowK hr hg) h.le)
theorem GK.set_ {base g : Nat} {a w : World} (h : GK base g a w) (u : Value) (i : Nat) : GK base g a (w.setCell ⟨g, i, none⟩ u) :=
  h.trans ⟨rfl, rfl, rfl, KeepsOthers.setCell _ _ _, fun k _ hk => Below.heap_setCell w ⟨g, i, none⟩ u k hk, by simpa using h.le⟩
theorem rd_writer {W : World} {base g m n : Nat} {l r : List Int} {A : Option Addr} (hs : WS W base g (some l) m) (h : Rd W n A r) : 0 < r.length → ∀ off, A ≠ some ⟨g, off, none⟩ := fun hp off e => by
  obtain ⟨v, hblk, hrow⟩ := hs
  obtain ⟨b, off', e', hlt, hc⟩ := h hp
  rw [e] at e'
  injection e' with e'
  injection e' with e1 e2
  subst e1 e2
  have h0 := hc 0 hp
  rw [Nat.add_zero] at h0
  match off, h0 with
  | 0, h0 =>
    rw [hblk.cell 0] at h0
    obtain ⟨A, c, rfl, _⟩ := hrow.rd
    injection h0 with h0
    cases h0
  | 1, h0 => rw [hblk.cell 1] at h0; injection h0 with h0; cases h0
  | 2, h0 => rw [hblk.cell 2] at h0; injection h0 with h0; cases h0
  | k + 3, h0 =>
    rw [hblk.cell (k + 3)] at h0
    simp at h0
theorem GK.rd {base g m n : Nat} {l r : List Int} {A : Option Addr} {W W' : World} (h : GK base g W W') (hs : WS W base g (some l) m) (hn : n ≤ base) (hr : Rd W n A r) : Rd W' n A r := fun hp => by
  have hne := rd_writer hs hr hp
  obtain ⟨b, off, e, hlt, hc⟩ := hr hp
  exact ⟨b, off, e, hlt, fun j hj => (World.cell?_of_block (w := W) (a := ⟨b, off + j, none⟩) (h.same b (by omega) (fun e2 => hne off (by rw [e, e2])))).trans (hc j hj)⟩

set_option maxHeartbeats 2000000 in
/-- A value put into a writer whose row lies above what is kept, itself below. -/
theorem bytes_low (g : Nat) (m : Nat) (l xs : List Int) (tag : Int) (A : Option Addr) (c base : Nat) (w : World) (hs : WS w base g (some l) m) (hb : base ≤ w.heap.size)
    (hA : Src w g A xs) (hAc : A = none → c = 0) (ht : 0 < tag) (ht2 : tag ≤ 255) (hx : xs.length ≤ 4194304) (hl : l.length ≤ 100000000) (hm : m ≤ 1000000) :
    Calls Try.prog 19 #[.pointer (some ⟨g, 0, none⟩), .int .u8 tag, .slice A xs.length c] w fun e w' => e = .returned (.pointer (some ⟨g, 0, none⟩)) ∧
      WS w' base g (some (l ++ (tag :: be4 xs.length) ++ xs)) (m + 1) ∧ GK base g w w' := by
  obtain ⟨v, hblk, hrow⟩ := hs
  have c0 : w.cell? ⟨g, 0, none⟩ = some v := hblk.cell 0
  have c1 : w.cell? ⟨g, 1, none⟩ = some (.int .i64 m) := hblk.cell 1
  have c2 : w.cell? ⟨g, 2, none⟩ = some (.int .i64 0) := hblk.cell 2
  have ht0 : (tag == 0) = false := by simp; omega
  have hlt := hblk.lt
  obtain ⟨hrd, hap⟩ := hA
  have hap' : 0 < xs.length → ∀ ad, A = some ad → ad.block ≠ g ∧ v.ownBlock ≠ some ad.block := fun hp ad e => hap hp ad v e c0
  have hgv := own_ne hrow hblk (by decide)
  have hrd1 : RdK kB (w.alloc (.cells #[.int .u8 tag, .int .u8 ((xs.length : Int) / 16777216), .int .u8 ((xs.length : Int) / 65536), .int .u8 ((xs.length : Int) / 256 % 256), .int .u8 ((xs.length : Int) % 256)] 5))
      (w.alloc (.cells #[.int .u8 tag, .int .u8 ((xs.length : Int) / 16777216), .int .u8 ((xs.length : Int) / 65536), .int .u8 ((xs.length : Int) / 256 % 256), .int .u8 ((xs.length : Int) % 256)] 5)).heap.size
      (some ⟨w.heap.size, 0, none⟩) (tag :: be4 xs.length) := rd_block (K := kB) (Blk.new _ _ _) rfl
  have hbX : ∀ X, base ≤ (w.alloc X).heap.size := fun X => by simp; omega
  have hln : l.length + (tag :: be4 xs.length).length ≤ 1000000000 := by show l.length + 5 ≤ _; omega
  have hln2 : (l ++ (tag :: be4 xs.length)).length + xs.length ≤ 1000000000 := by rw [List.length_append]; show l.length + 5 + xs.length ≤ _; omega
  clear hap
  go_enter Try.func19, Try.ntmps19
  go_wp2_with (first
    | (at_builtin
       refine wpList_appK kB rfl _ _ rfl (tag :: be4 xs.length) rfl ((row_k.2 hrow).alloc _) rfl hrd1 (fun e => by cases e) hln (hbX _) ?_
       intro v1 w1 hrow1 hg1
       obtain ⟨A1, k1, n1, hn1, rfl, _, _⟩ := hrow1.rdn
       have hb1 := (hblk.alloc _).grown hg1 (fun e => hgv e.symm)
       have d0 : w1.cell? ⟨g, 0, none⟩ = some v := hb1.cell 0
       have d1 : w1.cell? ⟨g, 1, none⟩ = some (.int .i64 m) := hb1.cell 1
       have e0 : w1.frozen? ⟨g, 0, none⟩ = false := hb1.frozen 0
       have e1 : w1.frozen? ⟨g, 1, none⟩ = false := hb1.frozen 1
       have hgv1 := own_ne (row_k.1 hrow1) hb1 (by decide)
       have hb1s := hb1.set_ 0 (Value.slice A1 n1 k1)
       have hrow1s := row_k.2 (Row.set_ (i := 0) (row_k.1 hrow1) hgv1 (Value.slice A1 n1 k1))
       have hs1 := hg1.size
       have hbs : base ≤ (w1.setCell ⟨g, 0, none⟩ (Value.slice A1 n1 k1)).heap.size := by simp [World.setCell] at hs1 ⊢; omega
       have hrd2 := rd_k (rd_after' (u := Value.slice A1 n1 k1) hrd hap' hg1))
    | (at_builtin
       refine wpList_appK kB rfl _ _ rfl xs rfl hrow1s rfl hrd2 hAc hln2 hbs ?_
       intro v2 w2 hrow2 hg2
       obtain ⟨A2, k2, n2, hn2, rfl, _, _⟩ := hrow2.rdn
       have hb2 := hb1s.grown hg2 (fun e => hgv1 e.symm)
       have p0 : w2.cell? ⟨g, 0, none⟩ = some _ := hb2.cell 0
       have p1 : w2.cell? ⟨g, 1, none⟩ = some (.int .i64 m) := hb2.cell 1
       have q0 : w2.frozen? ⟨g, 0, none⟩ = false := hb2.frozen 0
       have q1 : w2.frozen? ⟨g, 1, none⟩ = false := hb2.frozen 1
       have hgv2 := own_ne (row_k.1 hrow2) hb2 (by decide)))
  go_ret
  refine ⟨rfl, ⟨Value.slice A2 n2 k2, by simpa using (hb2.set_ 0 (Value.slice A2 n2 k2)).set_ 1 (Value.int .i64 ((m : Int) + 1)), Row.set_ (Row.set_ (row_k.1 hrow2) hgv2 _) hgv2 _⟩, ?_⟩
  have z1 := ((GK.refl base g w hb).alloc (.cells #[.int .u8 tag, .int .u8 ((xs.length : Int) / 16777216), .int .u8 ((xs.length : Int) / 65536), .int .u8 ((xs.length : Int) / 256 % 256), .int .u8 ((xs.length : Int) % 256)] 5)).grown ((row_k.2 hrow).alloc _) hg1
  have z2 := (z1.set_ (Value.slice A1 n1 k1) 0).grown hrow1s hg2
  exact (z2.set_ _ 0).set_ _ 1
end Go.Proofs.Ytiakfdfpikheaaa
