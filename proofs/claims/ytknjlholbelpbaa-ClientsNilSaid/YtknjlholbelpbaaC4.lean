/- A table of one client. -/
import Derived.Test.YtknjlholbelpbaaC3
namespace Go.Proofs.Ytknjlholbelpbaa.Tlv
open Go.RowKit
set_option maxRecDepth 100000
set_option linter.unusedVariables false
set_option linter.unusedSimpArgs false

theorem findAt (g m : Nat) (ob : Obj) (a b : Int) (is : Bool) (w : World) (hg : w.cell? ⟨g, 0, none⟩ = some (.map (some m))) (ho : w.heap[m]? = some ob)
    (hL : ∀ W : World, W.heap[m]? = some ob → (Instr.lookup 22 (.map (some m)) (.int .u64 7) true).run Try.prog W = .ok (.tuple #[.agg #[.int .u64 a, .int .i64 b, .bool false, .slice none 0 0, .slice none 0 0], .bool is]) W) :
    Calls Try.prog 14 #[.pointer (some ⟨g, 0, none⟩), .int .u64 7] w fun e w' => e = .returned (.tuple #[.agg #[.int .u64 a, .int .i64 b, .bool false, .slice none 0 0, .slice none 0 0], .bool is]) ∧ Below w.heap.size w w' := by
  have hb : Below w.heap.size w (w.alloc (.cells #[.int .u64 0, .int .i64 0, .bool false, .slice none 0 0, .slice none 0 0] 48)) := (Below.refl _ _).alloc (Nat.le_refl _) _
  have k := Blk.new w 48 #[.int .u64 0, .int .i64 0, .bool false, .slice none 0 0, .slice none 0 0]
  have hmlt : m < w.heap.size := (Array.getElem?_eq_some_iff.1 ho).1
  have hl := hL (w.alloc (.cells #[.int .u64 0, .int .i64 0, .bool false, .slice none 0 0, .slice none 0 0] 48)) ((hb.block m hmlt).trans ho)
  have hc : (w.alloc (.cells #[.int .u64 0, .int .i64 0, .bool false, .slice none 0 0, .slice none 0 0] 48)).cell? ⟨g, 0, none⟩ = some (.map (some m)) := (hb.cell (p := ⟨g, 0, none⟩) (block_lt_of_cell hg)).trans hg
  have HN := Lib.hid (none_there g m (w.alloc (.cells #[.int .u64 0, .int .i64 0, .bool false, .slice none 0 0, .slice none 0 0] 48)) hc)
  have HB := Lib.hid (And.intro hb k)
  clear hb k hL hg ho hmlt
  go_enter Try.func14, Try.ntmps14
  obtain ⟨W, hW⟩ : ∃ W, W = w.alloc (.cells #[.int .u64 0, .int .i64 0, .bool false, .slice none 0 0, .slice none 0 0] 48) := ⟨_, rfl⟩
  rw [← hW] at HB HN hl hc
  have HW := Lib.hid hW
  clear hW
  go_upto_region 1 with fail
  rw [← HW.out]
  go_upto_region 4 with (first
    | (with_reducible refine HN.out.mono ?_; rintro e w1 ⟨rfl, rfl⟩; dsimp only)
    | (refine wpList_store_rowTo rfl 48 _ _ rfl rfl W.heap.size #[.int .u64 a, .int .i64 b, .bool false, .slice none 0 0, .slice none 0 0] rfl rfl 48 #[.int .u64 0, .int .i64 0, .bool false, .slice none 0 0, .slice none 0 0] (Blk.new W 48 #[.int .u64 0, .int .i64 0, .bool false, .slice none 0 0, .slice none 0 0]) (by kernel_rfl) rfl (by kernel_rfl) ?_))
  have hb2 : Below w.heap.size w ((W.alloc (.cells #[.int .u64 0, .int .i64 0, .bool false, .slice none 0 0, .slice none 0 0] 48)).setRow W.heap.size #[.int .u64 a, .int .i64 b, .bool false, .slice none 0 0, .slice none 0 0]) := below_setRow (HB.out.1.alloc HB.out.1.size (.cells #[.int .u64 0, .int .i64 0, .bool false, .slice none 0 0, .slice none 0 0] 48)) HB.out.1.size #[.int .u64 a, .int .i64 b, .bool false, .slice none 0 0, .slice none 0 0]
  have k2 : Blk ((W.alloc (.cells #[.int .u64 0, .int .i64 0, .bool false, .slice none 0 0, .slice none 0 0] 48)).setRow W.heap.size #[.int .u64 a, .int .i64 b, .bool false, .slice none 0 0, .slice none 0 0]) w.heap.size 48 #[.int .u64 0, .int .i64 0, .bool false, .slice none 0 0, .slice none 0 0] := (HB.out.2.alloc (.cells #[.int .u64 0, .int .i64 0, .bool false, .slice none 0 0, .slice none 0 0] 48)).rowFar (by have := HB.out.2.lt; omega) #[.int .u64 a, .int .i64 b, .bool false, .slice none 0 0, .slice none 0 0]
  have k3 : Blk ((W.alloc (.cells #[.int .u64 0, .int .i64 0, .bool false, .slice none 0 0, .slice none 0 0] 48)).setRow W.heap.size #[.int .u64 a, .int .i64 b, .bool false, .slice none 0 0, .slice none 0 0]) W.heap.size 48 #[.int .u64 a, .int .i64 b, .bool false, .slice none 0 0, .slice none 0 0] := (Blk.new W 48 #[.int .u64 0, .int .i64 0, .bool false, .slice none 0 0, .slice none 0 0]).row #[.int .u64 a, .int .i64 b, .bool false, .slice none 0 0, .slice none 0 0]
  obtain ⟨b2, hb2'⟩ : ∃ b, b = W.heap.size := ⟨_, rfl⟩
  rw [← hb2'] at hb2 k2 k3 ⊢
  generalize (W.alloc (.cells #[.int .u64 0, .int .i64 0, .bool false, .slice none 0 0, .slice none 0 0] 48)).setRow b2 #[.int .u64 a, .int .i64 b, .bool false, .slice none 0 0, .slice none 0 0] = W2 at hb2 k2 k3 ⊢
  have HB2 := Lib.hid (And.intro hb2 (And.intro k2 k3))
  clear hb2 k2 k3 HB HN HW hl hc hb2'
  go_wp2_with (first
    | (refine wpList_load_row rfl 48 _ rfl b2 rfl 48 #[.int .u64 a, .int .i64 b, .bool false, .slice none 0 0, .slice none 0 0] (0, 0) _ HB2.out.2.2 rfl rfl (by kernel_rfl) ?_)
    | (refine wpList_store_rowTo rfl 48 _ _ rfl rfl w.heap.size #[.int .u64 a, .int .i64 b, .bool false, .slice none 0 0, .slice none 0 0] rfl rfl 48 #[.int .u64 0, .int .i64 0, .bool false, .slice none 0 0, .slice none 0 0] HB2.out.2.1 (by kernel_rfl) rfl (by kernel_rfl) ?_))
  refine bodyPost_ret (v := .tuple #[.agg #[.int .u64 a, .int .i64 b, .bool false, .slice none 0 0, .slice none 0 0], .bool is]) ?_ rfl ⟨rfl, below_setRow HB2.out.1 (Nat.le_refl _) _⟩
  have k := HB2.out.2.1.row #[.int .u64 a, .int .i64 b, .bool false, .slice none 0 0, .slice none 0 0]
  generalize W2.setRow w.heap.size #[.int .u64 a, .int .i64 b, .bool false, .slice none 0 0, .slice none 0 0] = W3 at k ⊢
  have c0 := k.cell 0
  have c1 := k.cell 1
  have c2 := k.cell 2
  have c3 := k.cell 3
  have c4 := k.cell 4
  simp only [List.getElem?_toArray, List.getElem?_cons_zero, List.getElem?_cons_succ] at c0 c1 c2 c3 c4
  clear HB2 k
  simp [results, Try.f14, go_sem, c0, c1, c2, c3, c4]
/-- A table of one client: 7, number 3, result 8. -/
def Tab (w : World) (g m : Nat) : Prop := Blk w g 24 #[.map (some m)] ∧ w.heap[m]? = some mapP
theorem Tab.on {w w' : World} {g m : Nat} (h : Tab w g m) (hb : Below w.heap.size w w') : Tab w' g m := ⟨h.1.on hb, (hb.block m (Array.getElem?_eq_some_iff.1 h.2).1).trans h.2⟩
theorem find_t (g m : Nat) (w : World) (h : Tab w g m) : Calls Try.prog 14 #[.pointer (some ⟨g, 0, none⟩), .int .u64 7] w fun e w' => e = .returned (.tuple #[row3, .bool true]) ∧ Below w.heap.size w w' :=
  findAt g m mapP 3 8 true w (h.1.cell 0) h.2 fun W hW => look_p hW
set_option maxHeartbeats 4000000 in
theorem ask3 (g m : Nat) (w : World) (h : Tab w g m) : Calls Try.prog 4 #[.pointer (some ⟨g, 0, none⟩), .int .u64 7, .int .u64 3] w fun e w' => e = .returned (.tuple #[.int .i64 2, .agg #[.int .i64 8, .bool false, .slice none 0 0, .slice none 0 0]]) ∧ Below w.heap.size w w' := by
  have hb : Below w.heap.size w (w.alloc (.cells #[.int .i64 0, .bool false, .slice none 0 0, .slice none 0 0] 32)) := (Below.refl _ _).alloc (Nat.le_refl _) _
  have k := Blk.new w 32 #[.int .i64 0, .bool false, .slice none 0 0, .slice none 0 0]
  have HN := Lib.hid (find_t g m (w.alloc (.cells #[.int .i64 0, .bool false, .slice none 0 0, .slice none 0 0] 32)) (h.on hb))
  clear h
  have HB := Lib.hid (And.intro hb k)
  clear hb k
  go_enter Try.func4, Try.ntmps4
  go_upto_region 2 with (first
    | (with_reducible refine HN.out.mono ?_; rintro e w1 ⟨rfl, hb1⟩; dsimp only; have HB1 := Lib.hid (And.intro (HB.out.1.trans (hb1.mono HB.out.1.size)) (HB.out.2.on hb1)); clear hb1)
    | (refine wpList_store_rowTo rfl 48 _ _ rfl rfl w1.heap.size #[.int .u64 3, .int .i64 8, .bool false, .slice none 0 0, .slice none 0 0] rfl rfl 48 #[.int .u64 0, .int .i64 0, .bool false, .slice none 0 0, .slice none 0 0] (Blk.new w1 48 #[.int .u64 0, .int .i64 0, .bool false, .slice none 0 0, .slice none 0 0]) (by kernel_rfl) rfl (by kernel_rfl) ?_))
  have hb2 : Below w.heap.size w ((w1.alloc (.cells #[.int .u64 0, .int .i64 0, .bool false, .slice none 0 0, .slice none 0 0] 48)).setRow w1.heap.size #[.int .u64 3, .int .i64 8, .bool false, .slice none 0 0, .slice none 0 0]) := below_setRow (HB1.out.1.alloc HB1.out.1.size (.cells #[.int .u64 0, .int .i64 0, .bool false, .slice none 0 0, .slice none 0 0] 48)) HB1.out.1.size #[.int .u64 3, .int .i64 8, .bool false, .slice none 0 0, .slice none 0 0]
  have k2 : Blk ((w1.alloc (.cells #[.int .u64 0, .int .i64 0, .bool false, .slice none 0 0, .slice none 0 0] 48)).setRow w1.heap.size #[.int .u64 3, .int .i64 8, .bool false, .slice none 0 0, .slice none 0 0]) w.heap.size 32 #[.int .i64 0, .bool false, .slice none 0 0, .slice none 0 0] := (HB1.out.2.alloc (.cells #[.int .u64 0, .int .i64 0, .bool false, .slice none 0 0, .slice none 0 0] 48)).rowFar (by have := HB1.out.2.lt; omega) #[.int .u64 3, .int .i64 8, .bool false, .slice none 0 0, .slice none 0 0]
  have k3 : Blk ((w1.alloc (.cells #[.int .u64 0, .int .i64 0, .bool false, .slice none 0 0, .slice none 0 0] 48)).setRow w1.heap.size #[.int .u64 3, .int .i64 8, .bool false, .slice none 0 0, .slice none 0 0]) w1.heap.size 48 #[.int .u64 3, .int .i64 8, .bool false, .slice none 0 0, .slice none 0 0] := (Blk.new w1 48 #[.int .u64 0, .int .i64 0, .bool false, .slice none 0 0, .slice none 0 0]).row #[.int .u64 3, .int .i64 8, .bool false, .slice none 0 0, .slice none 0 0]
  have hne := HB1.out.2.lt
  obtain ⟨b2, hb2'⟩ : ∃ b, b = w1.heap.size := ⟨_, rfl⟩
  rw [← hb2'] at hb2 k2 k3 hne ⊢
  generalize (w1.alloc (.cells #[.int .u64 0, .int .i64 0, .bool false, .slice none 0 0, .slice none 0 0] 48)).setRow b2 #[.int .u64 3, .int .i64 8, .bool false, .slice none 0 0, .slice none 0 0] = W at hb2 k2 k3 ⊢
  have HB2 := Lib.hid (And.intro hb2 (And.intro k2 (And.intro k3 hne)))
  have c0 := k3.cell 0
  simp only [List.getElem?_toArray, List.getElem?_cons_zero, List.getElem?_cons_succ] at c0
  clear hb2 k2 k3 hne hb2' HB1 HB HN
  have a0 := HB2.out.2.2.1.cell 1
  have a1 := HB2.out.2.2.1.cell 2
  have a2 := HB2.out.2.2.1.cell 3
  have a3 := HB2.out.2.2.1.cell 4
  simp only [List.getElem?_toArray, List.getElem?_cons_zero, List.getElem?_cons_succ] at a0 a1 a2 a3
  go_wp2_with (first
    | (go_at_call 15; (with_reducible refine (copy8 _).mono ?_); rintro e w5 ⟨rfl, hb5⟩; dsimp only; have HB5 := Lib.hid (And.intro (HB2.out.1.trans (hb5.mono HB2.out.1.size)) (HB2.out.2.1.on hb5)); clear hb5)
    | (refine wpList_store_rowTo rfl 32 _ _ rfl rfl w.heap.size #[.int .i64 8, .bool false, .slice none 0 0, .slice none 0 0] rfl rfl 32 _ HB5.out.2 (by kernel_rfl) rfl (by kernel_rfl) ?_))
  refine bodyPost_ret (v := .tuple #[.int .i64 2, r8]) ?_ rfl ⟨rfl, below_setRow HB5.out.1 (Nat.le_refl _) _⟩
  have k := HB5.out.2.row #[.int .i64 8, .bool false, .slice none 0 0, .slice none 0 0]
  generalize w5.setRow w.heap.size #[.int .i64 8, .bool false, .slice none 0 0, .slice none 0 0] = W3 at k ⊢
  clear c0 a0 a1 a2 a3
  have c0 := k.cell 0
  have c1 := k.cell 1
  have c2 := k.cell 2
  have c3 := k.cell 3
  simp only [List.getElem?_toArray, List.getElem?_cons_zero, List.getElem?_cons_succ] at c0 c1 c2 c3
  clear HB2 HB5 k
  simp [results, Try.f4, go_sem, c0, c1, c2, c3]
set_option maxHeartbeats 4000000 in
theorem ask2 (g m : Nat) (w : World) (h : Tab w g m) : Calls Try.prog 4 #[.pointer (some ⟨g, 0, none⟩), .int .u64 7, .int .u64 2] w fun e w' => e = .returned (.tuple #[.int .i64 3, .agg #[.int .i64 0, .bool false, .slice none 0 0, .slice none 0 0]]) ∧ Below w.heap.size w w' := by
  have hb : Below w.heap.size w (w.alloc (.cells #[.int .i64 0, .bool false, .slice none 0 0, .slice none 0 0] 32)) := (Below.refl _ _).alloc (Nat.le_refl _) _
  have k := Blk.new w 32 #[.int .i64 0, .bool false, .slice none 0 0, .slice none 0 0]
  have HN := Lib.hid (find_t g m (w.alloc (.cells #[.int .i64 0, .bool false, .slice none 0 0, .slice none 0 0] 32)) (h.on hb))
  clear h
  have HB := Lib.hid (And.intro hb k)
  clear hb k
  go_enter Try.func4, Try.ntmps4
  go_upto_region 2 with (first
    | (with_reducible refine HN.out.mono ?_; rintro e w1 ⟨rfl, hb1⟩; dsimp only; have HB1 := Lib.hid (And.intro (HB.out.1.trans (hb1.mono HB.out.1.size)) (HB.out.2.on hb1)); clear hb1)
    | (refine wpList_store_rowTo rfl 48 _ _ rfl rfl w1.heap.size #[.int .u64 3, .int .i64 8, .bool false, .slice none 0 0, .slice none 0 0] rfl rfl 48 #[.int .u64 0, .int .i64 0, .bool false, .slice none 0 0, .slice none 0 0] (Blk.new w1 48 #[.int .u64 0, .int .i64 0, .bool false, .slice none 0 0, .slice none 0 0]) (by kernel_rfl) rfl (by kernel_rfl) ?_))
  have hb2 : Below w.heap.size w ((w1.alloc (.cells #[.int .u64 0, .int .i64 0, .bool false, .slice none 0 0, .slice none 0 0] 48)).setRow w1.heap.size #[.int .u64 3, .int .i64 8, .bool false, .slice none 0 0, .slice none 0 0]) := below_setRow (HB1.out.1.alloc HB1.out.1.size (.cells #[.int .u64 0, .int .i64 0, .bool false, .slice none 0 0, .slice none 0 0] 48)) HB1.out.1.size #[.int .u64 3, .int .i64 8, .bool false, .slice none 0 0, .slice none 0 0]
  have k2 : Blk ((w1.alloc (.cells #[.int .u64 0, .int .i64 0, .bool false, .slice none 0 0, .slice none 0 0] 48)).setRow w1.heap.size #[.int .u64 3, .int .i64 8, .bool false, .slice none 0 0, .slice none 0 0]) w.heap.size 32 #[.int .i64 0, .bool false, .slice none 0 0, .slice none 0 0] := (HB1.out.2.alloc (.cells #[.int .u64 0, .int .i64 0, .bool false, .slice none 0 0, .slice none 0 0] 48)).rowFar (by have := HB1.out.2.lt; omega) #[.int .u64 3, .int .i64 8, .bool false, .slice none 0 0, .slice none 0 0]
  have k3 : Blk ((w1.alloc (.cells #[.int .u64 0, .int .i64 0, .bool false, .slice none 0 0, .slice none 0 0] 48)).setRow w1.heap.size #[.int .u64 3, .int .i64 8, .bool false, .slice none 0 0, .slice none 0 0]) w1.heap.size 48 #[.int .u64 3, .int .i64 8, .bool false, .slice none 0 0, .slice none 0 0] := (Blk.new w1 48 #[.int .u64 0, .int .i64 0, .bool false, .slice none 0 0, .slice none 0 0]).row #[.int .u64 3, .int .i64 8, .bool false, .slice none 0 0, .slice none 0 0]
  have hne := HB1.out.2.lt
  obtain ⟨b2, hb2'⟩ : ∃ b, b = w1.heap.size := ⟨_, rfl⟩
  rw [← hb2'] at hb2 k2 k3 hne ⊢
  generalize (w1.alloc (.cells #[.int .u64 0, .int .i64 0, .bool false, .slice none 0 0, .slice none 0 0] 48)).setRow b2 #[.int .u64 3, .int .i64 8, .bool false, .slice none 0 0, .slice none 0 0] = W at hb2 k2 k3 ⊢
  have HB2 := Lib.hid (And.intro hb2 (And.intro k2 (And.intro k3 hne)))
  have c0 := k3.cell 0
  simp only [List.getElem?_toArray, List.getElem?_cons_zero, List.getElem?_cons_succ] at c0
  clear hb2 k2 k3 hne hb2' HB1 HB HN
  go_wp2_with (refine wpList_store_rowTo rfl 32 _ _ rfl rfl w.heap.size #[.int .i64 0, .bool false, .slice none 0 0, .slice none 0 0] rfl rfl 32 _ HB2.out.2.1 (by kernel_rfl) rfl (by kernel_rfl) ?_)
  refine bodyPost_ret (v := .tuple #[.int .i64 3, resZ]) ?_ rfl ⟨rfl, below_setRow HB2.out.1 (Nat.le_refl _) _⟩
  have k := HB2.out.2.1.row #[.int .i64 0, .bool false, .slice none 0 0, .slice none 0 0]
  generalize W.setRow w.heap.size #[.int .i64 0, .bool false, .slice none 0 0, .slice none 0 0] = W3 at k ⊢
  clear c0
  have c0 := k.cell 0
  have c1 := k.cell 1
  have c2 := k.cell 2
  have c3 := k.cell 3
  simp only [List.getElem?_toArray, List.getElem?_cons_zero, List.getElem?_cons_succ] at c0 c1 c2 c3
  clear HB2 k
  simp [results, Try.f4, go_sem, c0, c1, c2, c3]
set_option maxHeartbeats 4000000 in
theorem ask4 (g m : Nat) (w : World) (h : Tab w g m) : Calls Try.prog 4 #[.pointer (some ⟨g, 0, none⟩), .int .u64 7, .int .u64 4] w fun e w' => e = .returned (.tuple #[.int .i64 1, .agg #[.int .i64 0, .bool false, .slice none 0 0, .slice none 0 0]]) ∧ Below w.heap.size w w' := by
  have hb : Below w.heap.size w (w.alloc (.cells #[.int .i64 0, .bool false, .slice none 0 0, .slice none 0 0] 32)) := (Below.refl _ _).alloc (Nat.le_refl _) _
  have k := Blk.new w 32 #[.int .i64 0, .bool false, .slice none 0 0, .slice none 0 0]
  have HN := Lib.hid (find_t g m (w.alloc (.cells #[.int .i64 0, .bool false, .slice none 0 0, .slice none 0 0] 32)) (h.on hb))
  clear h
  have HB := Lib.hid (And.intro hb k)
  clear hb k
  go_enter Try.func4, Try.ntmps4
  go_upto_region 2 with (first
    | (with_reducible refine HN.out.mono ?_; rintro e w1 ⟨rfl, hb1⟩; dsimp only; have HB1 := Lib.hid (And.intro (HB.out.1.trans (hb1.mono HB.out.1.size)) (HB.out.2.on hb1)); clear hb1)
    | (refine wpList_store_rowTo rfl 48 _ _ rfl rfl w1.heap.size #[.int .u64 3, .int .i64 8, .bool false, .slice none 0 0, .slice none 0 0] rfl rfl 48 #[.int .u64 0, .int .i64 0, .bool false, .slice none 0 0, .slice none 0 0] (Blk.new w1 48 #[.int .u64 0, .int .i64 0, .bool false, .slice none 0 0, .slice none 0 0]) (by kernel_rfl) rfl (by kernel_rfl) ?_))
  have hb2 : Below w.heap.size w ((w1.alloc (.cells #[.int .u64 0, .int .i64 0, .bool false, .slice none 0 0, .slice none 0 0] 48)).setRow w1.heap.size #[.int .u64 3, .int .i64 8, .bool false, .slice none 0 0, .slice none 0 0]) := below_setRow (HB1.out.1.alloc HB1.out.1.size (.cells #[.int .u64 0, .int .i64 0, .bool false, .slice none 0 0, .slice none 0 0] 48)) HB1.out.1.size #[.int .u64 3, .int .i64 8, .bool false, .slice none 0 0, .slice none 0 0]
  have k2 : Blk ((w1.alloc (.cells #[.int .u64 0, .int .i64 0, .bool false, .slice none 0 0, .slice none 0 0] 48)).setRow w1.heap.size #[.int .u64 3, .int .i64 8, .bool false, .slice none 0 0, .slice none 0 0]) w.heap.size 32 #[.int .i64 0, .bool false, .slice none 0 0, .slice none 0 0] := (HB1.out.2.alloc (.cells #[.int .u64 0, .int .i64 0, .bool false, .slice none 0 0, .slice none 0 0] 48)).rowFar (by have := HB1.out.2.lt; omega) #[.int .u64 3, .int .i64 8, .bool false, .slice none 0 0, .slice none 0 0]
  have k3 : Blk ((w1.alloc (.cells #[.int .u64 0, .int .i64 0, .bool false, .slice none 0 0, .slice none 0 0] 48)).setRow w1.heap.size #[.int .u64 3, .int .i64 8, .bool false, .slice none 0 0, .slice none 0 0]) w1.heap.size 48 #[.int .u64 3, .int .i64 8, .bool false, .slice none 0 0, .slice none 0 0] := (Blk.new w1 48 #[.int .u64 0, .int .i64 0, .bool false, .slice none 0 0, .slice none 0 0]).row #[.int .u64 3, .int .i64 8, .bool false, .slice none 0 0, .slice none 0 0]
  have hne := HB1.out.2.lt
  obtain ⟨b2, hb2'⟩ : ∃ b, b = w1.heap.size := ⟨_, rfl⟩
  rw [← hb2'] at hb2 k2 k3 hne ⊢
  generalize (w1.alloc (.cells #[.int .u64 0, .int .i64 0, .bool false, .slice none 0 0, .slice none 0 0] 48)).setRow b2 #[.int .u64 3, .int .i64 8, .bool false, .slice none 0 0, .slice none 0 0] = W at hb2 k2 k3 ⊢
  have HB2 := Lib.hid (And.intro hb2 (And.intro k2 (And.intro k3 hne)))
  have c0 := k3.cell 0
  simp only [List.getElem?_toArray, List.getElem?_cons_zero, List.getElem?_cons_succ] at c0
  clear hb2 k2 k3 hne hb2' HB1 HB HN
  go_wp2_with (refine wpList_store_rowTo rfl 32 _ _ rfl rfl w.heap.size #[.int .i64 0, .bool false, .slice none 0 0, .slice none 0 0] rfl rfl 32 _ HB2.out.2.1 (by kernel_rfl) rfl (by kernel_rfl) ?_)
  refine bodyPost_ret (v := .tuple #[.int .i64 1, resZ]) ?_ rfl ⟨rfl, below_setRow HB2.out.1 (Nat.le_refl _) _⟩
  have k := HB2.out.2.1.row #[.int .i64 0, .bool false, .slice none 0 0, .slice none 0 0]
  generalize W.setRow w.heap.size #[.int .i64 0, .bool false, .slice none 0 0, .slice none 0 0] = W3 at k ⊢
  clear c0
  have c0 := k.cell 0
  have c1 := k.cell 1
  have c2 := k.cell 2
  have c3 := k.cell 3
  simp only [List.getElem?_toArray, List.getElem?_cons_zero, List.getElem?_cons_succ] at c0 c1 c2 c3
  clear HB2 k
  simp [results, Try.f4, go_sem, c0, c1, c2, c3]
end Go.Proofs.Ytknjlholbelpbaa.Tlv
