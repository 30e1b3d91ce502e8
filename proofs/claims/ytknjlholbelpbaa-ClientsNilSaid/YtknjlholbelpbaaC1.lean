/- No table: what it answers. -/
import Derived.Test.YtknjlholbelpbaaS3a
namespace Go.Proofs.Ytknjlholbelpbaa.Tlv
open Go.RowKit
set_option maxRecDepth 100000
set_option linter.unusedVariables false
set_option linter.unusedSimpArgs false

/-- No table. -/
def NoT (w : World) (q : Option Addr) : Prop := q = none ∨ ∃ g, q = some ⟨g, 0, none⟩ ∧ w.cell? ⟨g, 0, none⟩ = some (.map none)
theorem NoT.on {w w' : World} {q : Option Addr} (h : NoT w q) (hb : Below w.heap.size w w') : NoT w' q := by
  rcases h with h | ⟨g, h1, h2⟩
  · exact .inl h
  · exact .inr ⟨g, h1, (hb.cell (p := ⟨g, 0, none⟩) (block_lt_of_cell h2)).trans h2⟩
theorem mapnil (W : World) : (binOp .eql 22 (.map none) (.map none)).run Try.prog W = .ok (.bool true) W := run_eql_map_nil W 22 35 48 none Try.underlying22
theorem none_any (q : Option Addr) (w : World) (h : NoT w q) : Calls Try.prog 18 #[.pointer q] w fun e w' => e = .returned (.bool true) ∧ w = w' := by
  have hm := mapnil w
  rcases h with rfl | ⟨g, rfl, hc⟩
  · go_enter Try.func18, Try.ntmps18
    go_wp2
    go_ret
    exact ⟨rfl, rfl⟩
  · go_enter Try.func18, Try.ntmps18
    go_wp2
    go_ret
    exact ⟨rfl, rfl⟩
abbrev rowZ : Value := .agg #[.int .u64 0, .int .i64 0, .bool false, .slice none 0 0, .slice none 0 0]
abbrev resZ : Value := .agg #[.int .i64 0, .bool false, .slice none 0 0, .slice none 0 0]
theorem find_no (q : Option Addr) (c : Int) (w : World) (h : NoT w q) : Calls Try.prog 14 #[.pointer q, .int .u64 c] w fun e w' => e = .returned (.tuple #[rowZ, .bool false]) ∧ Below w.heap.size w w' := by
  have hb : Below w.heap.size w (w.alloc (.cells #[.int .u64 0, .int .i64 0, .bool false, .slice none 0 0, .slice none 0 0] 48)) := (Below.refl _ _).alloc (Nat.le_refl _) _
  have k := Blk.new w 48 #[.int .u64 0, .int .i64 0, .bool false, .slice none 0 0, .slice none 0 0]
  have HN := Lib.hid (none_any q (w.alloc (.cells #[.int .u64 0, .int .i64 0, .bool false, .slice none 0 0, .slice none 0 0] 48)) (h.on hb))
  clear h
  have HB := Lib.hid (And.intro hb k)
  clear hb k
  go_enter Try.func14, Try.ntmps14
  go_upto_region 2 with (first
    | (with_reducible refine HN.out.mono ?_; rintro e w1 ⟨rfl, rfl⟩; dsimp only))
  obtain ⟨W, hW⟩ : ∃ W, W = w.alloc (.cells #[.int .u64 0, .int .i64 0, .bool false, .slice none 0 0, .slice none 0 0] 48) := ⟨_, rfl⟩
  rw [← hW] at HB ⊢
  clear hW HN
  go_wp2_with (refine wpList_store_rowTo rfl 48 _ _ rfl rfl w.heap.size #[.int .u64 0, .int .i64 0, .bool false, .slice none 0 0, .slice none 0 0] rfl rfl 48 _ HB.out.2 (by kernel_rfl) rfl (by kernel_rfl) ?_)
  refine bodyPost_ret (v := .tuple #[rowZ, .bool false]) ?_ rfl ⟨rfl, below_setRow HB.out.1 (Nat.le_refl _) _⟩
  have k := HB.out.2.row #[.int .u64 0, .int .i64 0, .bool false, .slice none 0 0, .slice none 0 0]
  generalize W.setRow w.heap.size #[.int .u64 0, .int .i64 0, .bool false, .slice none 0 0, .slice none 0 0] = W2 at k ⊢
  have c0 := k.cell 0
  have c1 := k.cell 1
  have c2 := k.cell 2
  have c3 := k.cell 3
  have c4 := k.cell 4
  simp only [List.getElem?_toArray, List.getElem?_cons_zero, List.getElem?_cons_succ] at c0 c1 c2 c3 c4
  clear HB k
  simp [results, Try.f14, go_sem, c0, c1, c2, c3, c4]
theorem ask_no (q : Option Addr) (c n : Int) (w : World) (h : NoT w q) : Calls Try.prog 4 #[.pointer q, .int .u64 c, .int .u64 n] w fun e w' => e = .returned (.tuple #[.int .i64 1, resZ]) ∧ Below w.heap.size w w' := by
  have hb : Below w.heap.size w (w.alloc (.cells #[.int .i64 0, .bool false, .slice none 0 0, .slice none 0 0] 32)) := (Below.refl _ _).alloc (Nat.le_refl _) _
  have k := Blk.new w 32 #[.int .i64 0, .bool false, .slice none 0 0, .slice none 0 0]
  have HN := Lib.hid (find_no q c (w.alloc (.cells #[.int .i64 0, .bool false, .slice none 0 0, .slice none 0 0] 32)) (h.on hb))
  clear h
  have HB := Lib.hid (And.intro hb k)
  clear hb k
  go_enter Try.func4, Try.ntmps4
  go_upto_region 2 with (first
    | (with_reducible refine HN.out.mono ?_; rintro e w1 ⟨rfl, hb1⟩; dsimp only; have HB1 := Lib.hid (And.intro (HB.out.1.trans (hb1.mono HB.out.1.size)) (HB.out.2.on hb1)); clear hb1)
    | (refine wpList_store_rowTo rfl 48 _ _ rfl rfl w1.heap.size #[.int .u64 0, .int .i64 0, .bool false, .slice none 0 0, .slice none 0 0] rfl rfl 48 #[.int .u64 0, .int .i64 0, .bool false, .slice none 0 0, .slice none 0 0] (Blk.new w1 48 #[.int .u64 0, .int .i64 0, .bool false, .slice none 0 0, .slice none 0 0]) (by kernel_rfl) rfl (by kernel_rfl) ?_))
  have hb2 : Below w.heap.size w ((w1.alloc (.cells #[.int .u64 0, .int .i64 0, .bool false, .slice none 0 0, .slice none 0 0] 48)).setRow w1.heap.size #[.int .u64 0, .int .i64 0, .bool false, .slice none 0 0, .slice none 0 0]) := below_setRow (HB1.out.1.alloc HB1.out.1.size (.cells #[.int .u64 0, .int .i64 0, .bool false, .slice none 0 0, .slice none 0 0] 48)) HB1.out.1.size #[.int .u64 0, .int .i64 0, .bool false, .slice none 0 0, .slice none 0 0]
  have k2 : Blk ((w1.alloc (.cells #[.int .u64 0, .int .i64 0, .bool false, .slice none 0 0, .slice none 0 0] 48)).setRow w1.heap.size #[.int .u64 0, .int .i64 0, .bool false, .slice none 0 0, .slice none 0 0]) w.heap.size 32 #[.int .i64 0, .bool false, .slice none 0 0, .slice none 0 0] := (HB1.out.2.alloc (.cells #[.int .u64 0, .int .i64 0, .bool false, .slice none 0 0, .slice none 0 0] 48)).rowFar (by have := HB1.out.2.lt; omega) #[.int .u64 0, .int .i64 0, .bool false, .slice none 0 0, .slice none 0 0]
  generalize (w1.alloc (.cells #[.int .u64 0, .int .i64 0, .bool false, .slice none 0 0, .slice none 0 0] 48)).setRow w1.heap.size #[.int .u64 0, .int .i64 0, .bool false, .slice none 0 0, .slice none 0 0] = W at hb2 k2 ⊢
  have HB2 := Lib.hid (And.intro hb2 k2)
  clear hb2 k2 HB1 HB HN
  go_wp2_with (refine wpList_store_rowTo rfl 32 _ _ rfl rfl w.heap.size #[.int .i64 0, .bool false, .slice none 0 0, .slice none 0 0] rfl rfl 32 _ HB2.out.2 (by kernel_rfl) rfl (by kernel_rfl) ?_)
  refine bodyPost_ret (v := .tuple #[.int .i64 1, resZ]) ?_ rfl ⟨rfl, below_setRow HB2.out.1 (Nat.le_refl _) _⟩
  have k := HB2.out.2.row #[.int .i64 0, .bool false, .slice none 0 0, .slice none 0 0]
  generalize W.setRow w.heap.size #[.int .i64 0, .bool false, .slice none 0 0, .slice none 0 0] = W2 at k ⊢
  have c0 := k.cell 0
  have c1 := k.cell 1
  have c2 := k.cell 2
  have c3 := k.cell 3
  simp only [List.getElem?_toArray, List.getElem?_cons_zero, List.getElem?_cons_succ] at c0 c1 c2 c3
  clear HB2 k
  simp [results, Try.f4, go_sem, c0, c1, c2, c3]
theorem latest_no (q : Option Addr) (c : Int) (w : World) (h : NoT w q) : Calls Try.prog 5 #[.pointer q, .int .u64 c] w fun e w' => e = .returned (.tuple #[.int .u64 0, .bool false]) ∧ Below w.heap.size w w' := by
  have HN := Lib.hid (find_no q c w h)
  clear h
  go_enter Try.func5, Try.ntmps5
  go_upto_region 2 with (first
    | (with_reducible refine HN.out.mono ?_; rintro e w1 ⟨rfl, hb1⟩; dsimp only; have HB1 := Lib.hid hb1; clear hb1)
    | (refine wpList_store_rowTo rfl 48 _ _ rfl rfl w1.heap.size #[.int .u64 0, .int .i64 0, .bool false, .slice none 0 0, .slice none 0 0] rfl rfl 48 #[.int .u64 0, .int .i64 0, .bool false, .slice none 0 0, .slice none 0 0] (Blk.new w1 48 #[.int .u64 0, .int .i64 0, .bool false, .slice none 0 0, .slice none 0 0]) (by kernel_rfl) rfl (by kernel_rfl) ?_))
  have hb2 : Below w.heap.size w ((w1.alloc (.cells #[.int .u64 0, .int .i64 0, .bool false, .slice none 0 0, .slice none 0 0] 48)).setRow w1.heap.size #[.int .u64 0, .int .i64 0, .bool false, .slice none 0 0, .slice none 0 0]) := below_setRow (HB1.out.alloc HB1.out.size (.cells #[.int .u64 0, .int .i64 0, .bool false, .slice none 0 0, .slice none 0 0] 48)) HB1.out.size #[.int .u64 0, .int .i64 0, .bool false, .slice none 0 0, .slice none 0 0]
  have c0 := ((Blk.new w1 48 #[.int .u64 0, .int .i64 0, .bool false, .slice none 0 0, .slice none 0 0]).row #[.int .u64 0, .int .i64 0, .bool false, .slice none 0 0, .slice none 0 0]).cell 0
  simp only [List.getElem?_toArray, List.getElem?_cons_zero, List.getElem?_cons_succ] at c0
  generalize (w1.alloc (.cells #[.int .u64 0, .int .i64 0, .bool false, .slice none 0 0, .slice none 0 0] 48)).setRow w1.heap.size #[.int .u64 0, .int .i64 0, .bool false, .slice none 0 0, .slice none 0 0] = W at hb2 c0 ⊢
  have HB2 := Lib.hid hb2
  clear hb2 HB1 HN
  go_wp2
  go_ret2
  exact ⟨rfl, HB2.out⟩
theorem sorted_no (q : Option Addr) (w : World) (h : NoT w q) : Calls Try.prog 16 #[.pointer q] w fun e w' => e = .returned (.slice none 0 0) ∧ w = w' := by
  have HN := Lib.hid (none_any q w h)
  clear h
  go_enter Try.func16, Try.ntmps16
  go_wp2_with (with_reducible refine HN.out.mono ?_; rintro e w1 ⟨rfl, rfl⟩; dsimp only)
  go_ret
  exact ⟨rfl, rfl⟩
theorem len_no (q : Option Addr) (w : World) (h : NoT w q) : Calls Try.prog 8 #[.pointer q] w fun e w' => e = .returned (.int .i64 0) ∧ w = w' := by
  have HN := Lib.hid (sorted_no q w h)
  clear h
  go_enter Try.func8, Try.ntmps8
  go_wp2_with (with_reducible refine HN.out.mono ?_; rintro e w1 ⟨rfl, rfl⟩; dsimp only)
  go_ret
  exact ⟨rfl, rfl⟩
theorem bytes_no (q : Option Addr) (w : World) (h : NoT w q) : Calls Try.prog 9 #[.pointer q] w fun e w' => e = .returned (.slice none 0 0) ∧ Below w.heap.size w w' := by
  have hb : Below w.heap.size w (w.alloc (.cells #[.pointer q] 25)) := (Below.refl _ _).alloc (Nat.le_refl _) _
  have HN := Lib.hid (none_any q (w.alloc (.cells #[.pointer q] 25)) (h.on hb))
  clear h
  go_enter Try.func9, Try.ntmps9
  go_wp2_with (with_reducible refine HN.out.mono ?_; rintro e w1 ⟨rfl, rfl⟩; dsimp only)
  go_ret
  exact ⟨rfl, hb⟩
theorem copy_no (q : Option Addr) (w : World) (h : NoT w q) : Calls Try.prog 10 #[.pointer q] w fun e w' => e = .returned (.pointer none) ∧ w = w' := by
  have HN := Lib.hid (none_any q w h)
  clear h
  go_enter Try.func10, Try.ntmps10
  go_wp2_with (with_reducible refine HN.out.mono ?_; rintro e w1 ⟨rfl, rfl⟩; dsimp only)
  go_ret
  exact ⟨rfl, rfl⟩
theorem same_no (q : Option Addr) (w : World) (h : NoT w q) : Calls Try.prog 11 #[.pointer q, .pointer none] w fun e w' => e = .returned (.bool true) ∧ w = w' := by
  have HN := Lib.hid (none_any q w h)
  have HZ := Lib.hid (none_any none w (.inl rfl))
  clear h
  go_enter Try.func11, Try.ntmps11
  go_wp2_with (first
    | (with_reducible refine HN.out.mono ?_; rintro e w1 ⟨rfl, rfl⟩; dsimp only)
    | (with_reducible refine HZ.out.mono ?_; rintro e w1 ⟨rfl, rfl⟩; dsimp only))
  go_ret
  exact ⟨rfl, rfl⟩
/-- A table that is there. -/
theorem none_there (g m : Nat) (w : World) (h : w.cell? ⟨g, 0, none⟩ = some (.map (some m))) : Calls Try.prog 18 #[.pointer (some ⟨g, 0, none⟩)] w fun e w' => e = .returned (.bool false) ∧ w = w' := by
  have hm : ∀ W, (binOp .eql 22 (.map (some m)) (.map none)).run Try.prog W = .ok (.bool false) W := fun W => run_eql_map_nil W 22 35 48 (some m) Try.underlying22
  go_enter Try.func18, Try.ntmps18
  go_wp2
  go_ret
  exact ⟨rfl, rfl⟩
theorem same_there (q : Option Addr) (g m : Nat) (w : World) (h : NoT w q) (hc : w.cell? ⟨g, 0, none⟩ = some (.map (some m))) : Calls Try.prog 11 #[.pointer q, .pointer (some ⟨g, 0, none⟩)] w fun e w' => e = .returned (.bool false) ∧ w = w' := by
  have HN := Lib.hid (none_any q w h)
  have HZ := Lib.hid (none_there g m w hc)
  clear h hc
  go_enter Try.func11, Try.ntmps11
  go_wp2_with (first
    | (with_reducible refine HN.out.mono ?_; rintro e w1 ⟨rfl, rfl⟩; dsimp only)
    | (with_reducible refine HZ.out.mono ?_; rintro e w1 ⟨rfl, rfl⟩; dsimp only))
  go_ret
  exact ⟨rfl, rfl⟩
/-- New: a table without clients. -/
theorem new_any (w : World) : Calls Try.prog 12 #[] w fun e w' => e = .returned (.pointer (some ⟨w.heap.size + 1, 0, none⟩)) ∧ Blk w' (w.heap.size + 1) 24 #[.map (some w.heap.size)] ∧ w'.heap[w.heap.size]? = some (.map #[] 0) ∧ w'.heap.size = w.heap.size + 2 ∧ Below w.heap.size w w' := by
  have hmm := @run_makeMap Try.prog
  have HB := Lib.hid (And.intro (show (w.alloc (.map #[] 0)).heap[w.heap.size]? = some (.map #[] 0) from heap_alloc_new w _) ((Below.refl w.heap.size w).alloc (Nat.le_refl _) (.map #[] 0)))
  go_enter Try.func12, Try.ntmps12
  go_wp2
  go_ret
  have hk := Blk.new (w.alloc (.map #[] 0)) 24 #[.map (some w.heap.size)]
  have hz : (w.alloc (.map #[] 0)).heap.size = w.heap.size + 1 := by simp
  have hlt : w.heap.size < (w.alloc (.map #[] 0)).heap.size := by omega
  rw [hz] at hk
  refine ⟨by simp, hk, (Below.heap_alloc _ _ _ hlt).trans HB.out.1, by simp, HB.out.2.alloc HB.out.2.size _⟩
end Go.Proofs.Ytknjlholbelpbaa.Tlv
