/- No session: what it answers; New. -/
import Derived.Test.YtnokghnjbonmiaaGreatDoorS6
namespace Go.Proofs.YtnokghnjbonmiaaGreatDoor.Tlv
open Go.RowKit
set_option maxRecDepth 100000
set_option linter.unusedVariables false
set_option linter.unusedSimpArgs false

theorem none_nil (w : World) : Calls Tryz.prog 15 #[.pointer none] w fun e w' => e = .returned (.bool true) ∧ w = w' := by
  go_enter Tryz.func15, Tryz.ntmps15
  go_wp2
  go_ret
  exact ⟨rfl, rfl⟩
theorem view_nil (w : World) : Calls Tryz.prog 9 #[.pointer none] w fun e w' => e = .returned (.int .u64 0) ∧ w = w' := by
  have HN := Lib.hid (none_nil w)
  go_enter Tryz.func9, Tryz.ntmps9
  go_wp2_with (with_reducible refine HN.out.mono ?_; rintro e w1 ⟨rfl, rfl⟩; dsimp only)
  go_ret
  exact ⟨rfl, rfl⟩
theorem client_nil (w : World) : Calls Tryz.prog 10 #[.pointer none] w fun e w' => e = .returned (.int .u64 0) ∧ w = w' := by
  have HN := Lib.hid (none_nil w)
  go_enter Tryz.func10, Tryz.ntmps10
  go_wp2_with (with_reducible refine HN.out.mono ?_; rintro e w1 ⟨rfl, rfl⟩; dsimp only)
  go_ret
  exact ⟨rfl, rfl⟩
theorem num_nil (w : World) : Calls Tryz.prog 11 #[.pointer none] w fun e w' => e = .returned (.int .u64 0) ∧ w = w' := by
  have HN := Lib.hid (none_nil w)
  go_enter Tryz.func11, Tryz.ntmps11
  go_wp2_with (with_reducible refine HN.out.mono ?_; rintro e w1 ⟨rfl, rfl⟩; dsimp only)
  go_ret
  exact ⟨rfl, rfl⟩
theorem dropped_nil (w : World) : Calls Tryz.prog 12 #[.pointer none] w fun e w' => e = .returned (.int .i64 0) ∧ w = w' := by
  have HN := Lib.hid (none_nil w)
  go_enter Tryz.func12, Tryz.ntmps12
  go_wp2_with (with_reducible refine HN.out.mono ?_; rintro e w1 ⟨rfl, rfl⟩; dsimp only)
  go_ret
  exact ⟨rfl, rfl⟩
theorem copy_nil (w : World) : Calls Tryz.prog 13 #[.pointer none] w fun e w' => e = .returned (.pointer none) ∧ w = w' := by
  have HN := Lib.hid (none_nil w)
  go_enter Tryz.func13, Tryz.ntmps13
  go_wp2_with (with_reducible refine HN.out.mono ?_; rintro e w1 ⟨rfl, rfl⟩; dsimp only)
  go_ret
  exact ⟨rfl, rfl⟩
theorem tick_nil (w : World) : Calls Tryz.prog 8 #[.pointer none] w fun e w' => e = .returned (.slice none 0 0) ∧ w = w' := by
  have HN := Lib.hid (none_nil w)
  go_enter Tryz.func8, Tryz.ntmps8
  go_wp2_with (with_reducible refine HN.out.mono ?_; rintro e w1 ⟨rfl, rfl⟩; dsimp only)
  go_ret
  exact ⟨rfl, rfl⟩
theorem take_nil (w : World) : Calls Tryz.prog 5 #[.pointer none, .slice none 0 0] w fun e w' => e = .returned (.tuple #[.agg #[.int .i64 0, .bool false, .slice none 0 0, .slice none 0 0], .bool false]) ∧ Below w.heap.size w w' := by
  have hb : Below w.heap.size w (w.alloc (.cells #[.int .i64 0, .bool false, .slice none 0 0, .slice none 0 0] 34)) := (Below.refl _ _).alloc (Nat.le_refl _) _
  have k := Blk.new w 34 #[.int .i64 0, .bool false, .slice none 0 0, .slice none 0 0]
  have HN := Lib.hid (none_nil (w.alloc (.cells #[.int .i64 0, .bool false, .slice none 0 0, .slice none 0 0] 34)))
  have HB := Lib.hid (And.intro hb k)
  clear hb k
  go_enter Tryz.func5, Tryz.ntmps5
  go_upto_region 2 with (first
    | (with_reducible refine HN.out.mono ?_; rintro e w1 ⟨rfl, rfl⟩; dsimp only))
  obtain ⟨W, hW⟩ : ∃ W, W = w.alloc (.cells #[.int .i64 0, .bool false, .slice none 0 0, .slice none 0 0] 34) := ⟨_, rfl⟩
  rw [← hW] at HB ⊢
  clear hW HN
  go_wp2_with (refine wpList_store_rowTo rfl 34 _ _ rfl rfl w.heap.size #[.int .i64 0, .bool false, .slice none 0 0, .slice none 0 0] rfl rfl 34 _ HB.out.2 (by kernel_rfl) rfl (by kernel_rfl) ?_)
  refine bodyPost_ret (v := .tuple #[.agg #[.int .i64 0, .bool false, .slice none 0 0, .slice none 0 0], .bool false]) ?_ rfl ⟨rfl, below_setRow HB.out.1 (Nat.le_refl _) _⟩
  have k := HB.out.2.row #[.int .i64 0, .bool false, .slice none 0 0, .slice none 0 0]
  generalize W.setRow w.heap.size #[.int .i64 0, .bool false, .slice none 0 0, .slice none 0 0] = W2 at k ⊢
  have c0 := k.cell 0
  have c1 := k.cell 1
  have c2 := k.cell 2
  have c3 := k.cell 3
  simp only [List.getElem?_toArray, List.getElem?_cons_zero, List.getElem?_cons_succ] at c0 c1 c2 c3
  clear HB k
  simp [results, Tryz.f5, go_sem, c0, c1, c2, c3]
theorem under_nil (w : World) : Calls Tryz.prog 6 #[.pointer none] w fun e w' => e = .returned (.tuple #[.agg #[.int .u64 0, .int .u64 0, .int .i64 0, .string ⟨#[]⟩, .string ⟨#[]⟩, .slice none 0 0, .slice none 0 0, .slice none 0 0, .int .i64 0], .bool false]) ∧ Below w.heap.size w w' := by
  have hb : Below w.heap.size w (w.alloc (.cells #[.int .u64 0, .int .u64 0, .int .i64 0, .string ⟨#[]⟩, .string ⟨#[]⟩, .slice none 0 0, .slice none 0 0, .slice none 0 0, .int .i64 0] 30)) := (Below.refl _ _).alloc (Nat.le_refl _) _
  have k := Blk.new w 30 #[.int .u64 0, .int .u64 0, .int .i64 0, .string ⟨#[]⟩, .string ⟨#[]⟩, .slice none 0 0, .slice none 0 0, .slice none 0 0, .int .i64 0]
  have HN := Lib.hid (none_nil (w.alloc (.cells #[.int .u64 0, .int .u64 0, .int .i64 0, .string ⟨#[]⟩, .string ⟨#[]⟩, .slice none 0 0, .slice none 0 0, .slice none 0 0, .int .i64 0] 30)))
  have HB := Lib.hid (And.intro hb k)
  clear hb k
  go_enter Tryz.func6, Tryz.ntmps6
  go_upto_region 2 with (first
    | (with_reducible refine HN.out.mono ?_; rintro e w1 ⟨rfl, rfl⟩; dsimp only))
  obtain ⟨W, hW⟩ : ∃ W, W = w.alloc (.cells #[.int .u64 0, .int .u64 0, .int .i64 0, .string ⟨#[]⟩, .string ⟨#[]⟩, .slice none 0 0, .slice none 0 0, .slice none 0 0, .int .i64 0] 30) := ⟨_, rfl⟩
  rw [← hW] at HB ⊢
  clear hW HN
  go_wp2_with (refine wpList_store_rowTo rfl 30 _ _ rfl rfl w.heap.size #[.int .u64 0, .int .u64 0, .int .i64 0, .string ⟨#[]⟩, .string ⟨#[]⟩, .slice none 0 0, .slice none 0 0, .slice none 0 0, .int .i64 0] rfl rfl 30 _ HB.out.2 (by kernel_rfl) rfl (by kernel_rfl) ?_)
  refine bodyPost_ret (v := .tuple #[.agg #[.int .u64 0, .int .u64 0, .int .i64 0, .string ⟨#[]⟩, .string ⟨#[]⟩, .slice none 0 0, .slice none 0 0, .slice none 0 0, .int .i64 0], .bool false]) ?_ rfl ⟨rfl, below_setRow HB.out.1 (Nat.le_refl _) _⟩
  have k := HB.out.2.row #[.int .u64 0, .int .u64 0, .int .i64 0, .string ⟨#[]⟩, .string ⟨#[]⟩, .slice none 0 0, .slice none 0 0, .slice none 0 0, .int .i64 0]
  generalize W.setRow w.heap.size #[.int .u64 0, .int .u64 0, .int .i64 0, .string ⟨#[]⟩, .string ⟨#[]⟩, .slice none 0 0, .slice none 0 0, .slice none 0 0, .int .i64 0] = W2 at k ⊢
  have c0 := k.cell 0
  have c1 := k.cell 1
  have c2 := k.cell 2
  have c3 := k.cell 3
  have c4 := k.cell 4
  have c5 := k.cell 5
  have c6 := k.cell 6
  have c7 := k.cell 7
  have c8 := k.cell 8
  simp only [List.getElem?_toArray, List.getElem?_cons_zero, List.getElem?_cons_succ] at c0 c1 c2 c3 c4 c5 c6 c7 c8
  clear HB k
  simp [results, Tryz.f6, go_sem, c0, c1, c2, c3, c4, c5, c6, c7, c8]
theorem last_nil (w : World) : Calls Tryz.prog 7 #[.pointer none] w fun e w' => e = .returned (.tuple #[.int .u64 0, .agg #[.int .i64 0, .bool false, .slice none 0 0, .slice none 0 0], .bool false]) ∧ Below w.heap.size w w' := by
  have hb : Below w.heap.size w (w.alloc (.cells #[.int .i64 0, .bool false, .slice none 0 0, .slice none 0 0] 34)) := (Below.refl _ _).alloc (Nat.le_refl _) _
  have k := Blk.new w 34 #[.int .i64 0, .bool false, .slice none 0 0, .slice none 0 0]
  have HN := Lib.hid (none_nil (w.alloc (.cells #[.int .i64 0, .bool false, .slice none 0 0, .slice none 0 0] 34)))
  have HB := Lib.hid (And.intro hb k)
  clear hb k
  go_enter Tryz.func7, Tryz.ntmps7
  go_upto_region 2 with (first
    | (with_reducible refine HN.out.mono ?_; rintro e w1 ⟨rfl, rfl⟩; dsimp only))
  obtain ⟨W, hW⟩ : ∃ W, W = w.alloc (.cells #[.int .i64 0, .bool false, .slice none 0 0, .slice none 0 0] 34) := ⟨_, rfl⟩
  rw [← hW] at HB ⊢
  clear hW HN
  go_wp2_with (refine wpList_store_rowTo rfl 34 _ _ rfl rfl w.heap.size #[.int .i64 0, .bool false, .slice none 0 0, .slice none 0 0] rfl rfl 34 _ HB.out.2 (by kernel_rfl) rfl (by kernel_rfl) ?_)
  refine bodyPost_ret (v := .tuple #[.int .u64 0, .agg #[.int .i64 0, .bool false, .slice none 0 0, .slice none 0 0], .bool false]) ?_ rfl ⟨rfl, below_setRow HB.out.1 (Nat.le_refl _) _⟩
  have k := HB.out.2.row #[.int .i64 0, .bool false, .slice none 0 0, .slice none 0 0]
  generalize W.setRow w.heap.size #[.int .i64 0, .bool false, .slice none 0 0, .slice none 0 0] = W2 at k ⊢
  have c0 := k.cell 0
  have c1 := k.cell 1
  have c2 := k.cell 2
  have c3 := k.cell 3
  simp only [List.getElem?_toArray, List.getElem?_cons_zero, List.getElem?_cons_succ] at c0 c1 c2 c3
  clear HB k
  simp [results, Tryz.f7, go_sem, c0, c1, c2, c3]
theorem none_zero (g : Nat) (w : World) (h : w.cell? ⟨g, 1, none⟩ = some (.int .i64 0)) : Calls Tryz.prog 15 #[.pointer (some ⟨g, 0, none⟩)] w fun e w' => e = .returned (.bool true) ∧ w = w' := by
  go_enter Tryz.func15, Tryz.ntmps15
  go_wp2
  go_ret
  exact ⟨rfl, rfl⟩
theorem view_zero (g : Nat) (w : World) (h : w.cell? ⟨g, 1, none⟩ = some (.int .i64 0)) : Calls Tryz.prog 9 #[.pointer (some ⟨g, 0, none⟩)] w fun e w' => e = .returned (.int .u64 0) ∧ w = w' := by
  have HN := Lib.hid (none_zero g w h)
  go_enter Tryz.func9, Tryz.ntmps9
  go_wp2_with (with_reducible refine HN.out.mono ?_; rintro e w1 ⟨rfl, rfl⟩; dsimp only)
  go_ret
  exact ⟨rfl, rfl⟩
theorem client_zero (g : Nat) (w : World) (h : w.cell? ⟨g, 1, none⟩ = some (.int .i64 0)) : Calls Tryz.prog 10 #[.pointer (some ⟨g, 0, none⟩)] w fun e w' => e = .returned (.int .u64 0) ∧ w = w' := by
  have HN := Lib.hid (none_zero g w h)
  go_enter Tryz.func10, Tryz.ntmps10
  go_wp2_with (with_reducible refine HN.out.mono ?_; rintro e w1 ⟨rfl, rfl⟩; dsimp only)
  go_ret
  exact ⟨rfl, rfl⟩
theorem num_zero (g : Nat) (w : World) (h : w.cell? ⟨g, 1, none⟩ = some (.int .i64 0)) : Calls Tryz.prog 11 #[.pointer (some ⟨g, 0, none⟩)] w fun e w' => e = .returned (.int .u64 0) ∧ w = w' := by
  have HN := Lib.hid (none_zero g w h)
  go_enter Tryz.func11, Tryz.ntmps11
  go_wp2_with (with_reducible refine HN.out.mono ?_; rintro e w1 ⟨rfl, rfl⟩; dsimp only)
  go_ret
  exact ⟨rfl, rfl⟩
theorem dropped_zero (g : Nat) (w : World) (h : w.cell? ⟨g, 1, none⟩ = some (.int .i64 0)) : Calls Tryz.prog 12 #[.pointer (some ⟨g, 0, none⟩)] w fun e w' => e = .returned (.int .i64 0) ∧ w = w' := by
  have HN := Lib.hid (none_zero g w h)
  go_enter Tryz.func12, Tryz.ntmps12
  go_wp2_with (with_reducible refine HN.out.mono ?_; rintro e w1 ⟨rfl, rfl⟩; dsimp only)
  go_ret
  exact ⟨rfl, rfl⟩
theorem copy_zero (g : Nat) (w : World) (h : w.cell? ⟨g, 1, none⟩ = some (.int .i64 0)) : Calls Tryz.prog 13 #[.pointer (some ⟨g, 0, none⟩)] w fun e w' => e = .returned (.pointer none) ∧ w = w' := by
  have HN := Lib.hid (none_zero g w h)
  go_enter Tryz.func13, Tryz.ntmps13
  go_wp2_with (with_reducible refine HN.out.mono ?_; rintro e w1 ⟨rfl, rfl⟩; dsimp only)
  go_ret
  exact ⟨rfl, rfl⟩
theorem tick_zero (g : Nat) (w : World) (h : w.cell? ⟨g, 1, none⟩ = some (.int .i64 0)) : Calls Tryz.prog 8 #[.pointer (some ⟨g, 0, none⟩)] w fun e w' => e = .returned (.slice none 0 0) ∧ w = w' := by
  have HN := Lib.hid (none_zero g w h)
  go_enter Tryz.func8, Tryz.ntmps8
  go_wp2_with (with_reducible refine HN.out.mono ?_; rintro e w1 ⟨rfl, rfl⟩; dsimp only)
  go_ret
  exact ⟨rfl, rfl⟩
theorem take_zero (g : Nat) (w : World) (h : w.cell? ⟨g, 1, none⟩ = some (.int .i64 0)) : Calls Tryz.prog 5 #[.pointer (some ⟨g, 0, none⟩), .slice none 0 0] w fun e w' => e = .returned (.tuple #[.agg #[.int .i64 0, .bool false, .slice none 0 0, .slice none 0 0], .bool false]) ∧ Below w.heap.size w w' := by
  have hb : Below w.heap.size w (w.alloc (.cells #[.int .i64 0, .bool false, .slice none 0 0, .slice none 0 0] 34)) := (Below.refl _ _).alloc (Nat.le_refl _) _
  have k := Blk.new w 34 #[.int .i64 0, .bool false, .slice none 0 0, .slice none 0 0]
  have HN := Lib.hid (none_zero g (w.alloc (.cells #[.int .i64 0, .bool false, .slice none 0 0, .slice none 0 0] 34)) ((hb.cell (p := ⟨g, 1, none⟩) (block_lt_of_cell h)).trans h))
  clear h
  have HB := Lib.hid (And.intro hb k)
  clear hb k
  go_enter Tryz.func5, Tryz.ntmps5
  go_upto_region 2 with (first
    | (with_reducible refine HN.out.mono ?_; rintro e w1 ⟨rfl, rfl⟩; dsimp only))
  obtain ⟨W, hW⟩ : ∃ W, W = w.alloc (.cells #[.int .i64 0, .bool false, .slice none 0 0, .slice none 0 0] 34) := ⟨_, rfl⟩
  rw [← hW] at HB ⊢
  clear hW HN
  go_wp2_with (refine wpList_store_rowTo rfl 34 _ _ rfl rfl w.heap.size #[.int .i64 0, .bool false, .slice none 0 0, .slice none 0 0] rfl rfl 34 _ HB.out.2 (by kernel_rfl) rfl (by kernel_rfl) ?_)
  refine bodyPost_ret (v := .tuple #[.agg #[.int .i64 0, .bool false, .slice none 0 0, .slice none 0 0], .bool false]) ?_ rfl ⟨rfl, below_setRow HB.out.1 (Nat.le_refl _) _⟩
  have k := HB.out.2.row #[.int .i64 0, .bool false, .slice none 0 0, .slice none 0 0]
  generalize W.setRow w.heap.size #[.int .i64 0, .bool false, .slice none 0 0, .slice none 0 0] = W2 at k ⊢
  have c0 := k.cell 0
  have c1 := k.cell 1
  have c2 := k.cell 2
  have c3 := k.cell 3
  simp only [List.getElem?_toArray, List.getElem?_cons_zero, List.getElem?_cons_succ] at c0 c1 c2 c3
  clear HB k
  simp [results, Tryz.f5, go_sem, c0, c1, c2, c3]
theorem under_zero (g : Nat) (w : World) (h : w.cell? ⟨g, 1, none⟩ = some (.int .i64 0)) : Calls Tryz.prog 6 #[.pointer (some ⟨g, 0, none⟩)] w fun e w' => e = .returned (.tuple #[.agg #[.int .u64 0, .int .u64 0, .int .i64 0, .string ⟨#[]⟩, .string ⟨#[]⟩, .slice none 0 0, .slice none 0 0, .slice none 0 0, .int .i64 0], .bool false]) ∧ Below w.heap.size w w' := by
  have hb : Below w.heap.size w (w.alloc (.cells #[.int .u64 0, .int .u64 0, .int .i64 0, .string ⟨#[]⟩, .string ⟨#[]⟩, .slice none 0 0, .slice none 0 0, .slice none 0 0, .int .i64 0] 30)) := (Below.refl _ _).alloc (Nat.le_refl _) _
  have k := Blk.new w 30 #[.int .u64 0, .int .u64 0, .int .i64 0, .string ⟨#[]⟩, .string ⟨#[]⟩, .slice none 0 0, .slice none 0 0, .slice none 0 0, .int .i64 0]
  have HN := Lib.hid (none_zero g (w.alloc (.cells #[.int .u64 0, .int .u64 0, .int .i64 0, .string ⟨#[]⟩, .string ⟨#[]⟩, .slice none 0 0, .slice none 0 0, .slice none 0 0, .int .i64 0] 30)) ((hb.cell (p := ⟨g, 1, none⟩) (block_lt_of_cell h)).trans h))
  clear h
  have HB := Lib.hid (And.intro hb k)
  clear hb k
  go_enter Tryz.func6, Tryz.ntmps6
  go_upto_region 2 with (first
    | (with_reducible refine HN.out.mono ?_; rintro e w1 ⟨rfl, rfl⟩; dsimp only))
  obtain ⟨W, hW⟩ : ∃ W, W = w.alloc (.cells #[.int .u64 0, .int .u64 0, .int .i64 0, .string ⟨#[]⟩, .string ⟨#[]⟩, .slice none 0 0, .slice none 0 0, .slice none 0 0, .int .i64 0] 30) := ⟨_, rfl⟩
  rw [← hW] at HB ⊢
  clear hW HN
  go_wp2_with (refine wpList_store_rowTo rfl 30 _ _ rfl rfl w.heap.size #[.int .u64 0, .int .u64 0, .int .i64 0, .string ⟨#[]⟩, .string ⟨#[]⟩, .slice none 0 0, .slice none 0 0, .slice none 0 0, .int .i64 0] rfl rfl 30 _ HB.out.2 (by kernel_rfl) rfl (by kernel_rfl) ?_)
  refine bodyPost_ret (v := .tuple #[.agg #[.int .u64 0, .int .u64 0, .int .i64 0, .string ⟨#[]⟩, .string ⟨#[]⟩, .slice none 0 0, .slice none 0 0, .slice none 0 0, .int .i64 0], .bool false]) ?_ rfl ⟨rfl, below_setRow HB.out.1 (Nat.le_refl _) _⟩
  have k := HB.out.2.row #[.int .u64 0, .int .u64 0, .int .i64 0, .string ⟨#[]⟩, .string ⟨#[]⟩, .slice none 0 0, .slice none 0 0, .slice none 0 0, .int .i64 0]
  generalize W.setRow w.heap.size #[.int .u64 0, .int .u64 0, .int .i64 0, .string ⟨#[]⟩, .string ⟨#[]⟩, .slice none 0 0, .slice none 0 0, .slice none 0 0, .int .i64 0] = W2 at k ⊢
  have c0 := k.cell 0
  have c1 := k.cell 1
  have c2 := k.cell 2
  have c3 := k.cell 3
  have c4 := k.cell 4
  have c5 := k.cell 5
  have c6 := k.cell 6
  have c7 := k.cell 7
  have c8 := k.cell 8
  simp only [List.getElem?_toArray, List.getElem?_cons_zero, List.getElem?_cons_succ] at c0 c1 c2 c3 c4 c5 c6 c7 c8
  clear HB k
  simp [results, Tryz.f6, go_sem, c0, c1, c2, c3, c4, c5, c6, c7, c8]
theorem last_zero (g : Nat) (w : World) (h : w.cell? ⟨g, 1, none⟩ = some (.int .i64 0)) : Calls Tryz.prog 7 #[.pointer (some ⟨g, 0, none⟩)] w fun e w' => e = .returned (.tuple #[.int .u64 0, .agg #[.int .i64 0, .bool false, .slice none 0 0, .slice none 0 0], .bool false]) ∧ Below w.heap.size w w' := by
  have hb : Below w.heap.size w (w.alloc (.cells #[.int .i64 0, .bool false, .slice none 0 0, .slice none 0 0] 34)) := (Below.refl _ _).alloc (Nat.le_refl _) _
  have k := Blk.new w 34 #[.int .i64 0, .bool false, .slice none 0 0, .slice none 0 0]
  have HN := Lib.hid (none_zero g (w.alloc (.cells #[.int .i64 0, .bool false, .slice none 0 0, .slice none 0 0] 34)) ((hb.cell (p := ⟨g, 1, none⟩) (block_lt_of_cell h)).trans h))
  clear h
  have HB := Lib.hid (And.intro hb k)
  clear hb k
  go_enter Tryz.func7, Tryz.ntmps7
  go_upto_region 2 with (first
    | (with_reducible refine HN.out.mono ?_; rintro e w1 ⟨rfl, rfl⟩; dsimp only))
  obtain ⟨W, hW⟩ : ∃ W, W = w.alloc (.cells #[.int .i64 0, .bool false, .slice none 0 0, .slice none 0 0] 34) := ⟨_, rfl⟩
  rw [← hW] at HB ⊢
  clear hW HN
  go_wp2_with (refine wpList_store_rowTo rfl 34 _ _ rfl rfl w.heap.size #[.int .i64 0, .bool false, .slice none 0 0, .slice none 0 0] rfl rfl 34 _ HB.out.2 (by kernel_rfl) rfl (by kernel_rfl) ?_)
  refine bodyPost_ret (v := .tuple #[.int .u64 0, .agg #[.int .i64 0, .bool false, .slice none 0 0, .slice none 0 0], .bool false]) ?_ rfl ⟨rfl, below_setRow HB.out.1 (Nat.le_refl _) _⟩
  have k := HB.out.2.row #[.int .i64 0, .bool false, .slice none 0 0, .slice none 0 0]
  generalize W.setRow w.heap.size #[.int .i64 0, .bool false, .slice none 0 0, .slice none 0 0] = W2 at k ⊢
  have c0 := k.cell 0
  have c1 := k.cell 1
  have c2 := k.cell 2
  have c3 := k.cell 3
  simp only [List.getElem?_toArray, List.getElem?_cons_zero, List.getElem?_cons_succ] at c0 c1 c2 c3
  clear HB k
  simp [results, Tryz.f7, go_sem, c0, c1, c2, c3]
theorem new1 (w : World) : Calls Tryz.prog 21 #[.int .u64 1, .int .i64 3] w fun e w' => e = .returned (.tuple #[.pointer (some ⟨w.heap.size, 0, none⟩), .int .i64 0]) ∧ Blk w' w.heap.size 36 #[.int .u64 1, .int .i64 3, .int .u64 0, .bool false, .int .u64 0, .int .u64 0, .int .i64 0, .string ⟨#[]⟩, .string ⟨#[]⟩, .slice none 0 0, .slice none 0 0, .slice none 0 0, .int .i64 0, .int .u64 0, .int .u64 0, .int .i64 0, .bool false, .slice none 0 0, .slice none 0 0, .int .i64 0] ∧ Below w.heap.size w w' := by
  have HB := Lib.hid (And.intro (Blk.new w 36 #[.int .u64 1, .int .i64 3, .int .u64 0, .bool false, .int .u64 0, .int .u64 0, .int .i64 0, .string ⟨#[]⟩, .string ⟨#[]⟩, .slice none 0 0, .slice none 0 0, .slice none 0 0, .int .i64 0, .int .u64 0, .int .u64 0, .int .i64 0, .bool false, .slice none 0 0, .slice none 0 0, .int .i64 0]) ((Below.refl w.heap.size w).alloc (Nat.le_refl _) (.cells #[.int .u64 1, .int .i64 3, .int .u64 0, .bool false, .int .u64 0, .int .u64 0, .int .i64 0, .string ⟨#[]⟩, .string ⟨#[]⟩, .slice none 0 0, .slice none 0 0, .slice none 0 0, .int .i64 0, .int .u64 0, .int .u64 0, .int .i64 0, .bool false, .slice none 0 0, .slice none 0 0, .int .i64 0] 36)))
  go_enter Tryz.func21, Tryz.ntmps21
  go_wp2_with (refine wpList_buildTo rfl 36 _ rfl (some 13) rfl #[.int .u64 1, .int .i64 3, .int .u64 0, .bool false, .int .u64 0, .int .u64 0, .int .i64 0, .string ⟨#[]⟩, .string ⟨#[]⟩, .slice none 0 0, .slice none 0 0, .slice none 0 0, .int .i64 0, .int .u64 0, .int .u64 0, .int .i64 0, .bool false, .slice none 0 0, .slice none 0 0, .int .i64 0] (by kernel_rfl) ?_)
  go_ret2
  exact ⟨rfl, HB.out⟩
end Go.Proofs.YtnokghnjbonmiaaGreatDoor.Tlv
