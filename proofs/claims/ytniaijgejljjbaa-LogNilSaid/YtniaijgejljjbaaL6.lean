/- The chapter's requests: items. -/
import Derived.Test.YtniaijgejljjbaaL5
namespace Go.Proofs.Ytniaijgejljjbaa.Tlv
open Go.RowKit
set_option maxRecDepth 100000
set_option linter.unusedVariables false
set_option linter.unusedSimpArgs false

/-- Such a request's item. -/
abbrev itV (n : Int) : Value := .agg #[.int .u64 1, .int .u64 n, .int .i64 6, .string ⟨#[97]⟩, .string ⟨#[]⟩, .slice none 0 0, .slice none 0 0, .slice none 0 0, .int .i64 0, .int .i64 50]
set_option maxHeartbeats 8000000 in
theorem itemOf_any (n : Int) (w : World) (hn : 0 ≤ n) (hn2 : n < 18446744073709551616) : Calls Try.prog 26 #[rqV n] w fun e w' => e = .returned (.tuple #[itV n, .int .i64 0]) ∧ Below w.heap.size w w' := by
  have hb1 := ((Below.refl w.heap.size w).alloc (Nat.le_refl _) (.cells #[.int .u64 1, .int .u64 n, .int .i64 6, .string ⟨#[97]⟩, .string ⟨#[]⟩, .slice none 0 0, .slice none 0 0, .slice none 0 0, .int .i64 0] 42)).alloc (by simp) (.cells #[.int .u64 0, .int .u64 0, .int .i64 0, .string ⟨#[]⟩, .string ⟨#[]⟩, .slice none 0 0, .slice none 0 0, .slice none 0 0, .int .i64 0, .int .i64 0] 66)
  have k1 := (Blk.new w 42 #[.int .u64 1, .int .u64 n, .int .i64 6, .string ⟨#[97]⟩, .string ⟨#[]⟩, .slice none 0 0, .slice none 0 0, .slice none 0 0, .int .i64 0]).alloc (.cells #[.int .u64 0, .int .u64 0, .int .i64 0, .string ⟨#[]⟩, .string ⟨#[]⟩, .slice none 0 0, .slice none 0 0, .slice none 0 0, .int .i64 0, .int .i64 0] 66)
  have k2 := Blk.new (w.alloc (.cells #[.int .u64 1, .int .u64 n, .int .i64 6, .string ⟨#[97]⟩, .string ⟨#[]⟩, .slice none 0 0, .slice none 0 0, .slice none 0 0, .int .i64 0] 42)) 66 #[.int .u64 0, .int .u64 0, .int .i64 0, .string ⟨#[]⟩, .string ⟨#[]⟩, .slice none 0 0, .slice none 0 0, .slice none 0 0, .int .i64 0, .int .i64 0]
  rw [World.size_alloc] at k2
  have HB := Lib.hid (And.intro hb1 (And.intro k1 k2))
  have HNN := Lib.hid (And.intro hn hn2)
  have a0 := k1.cell 0
  have a1 := k1.cell 1
  have a2 := k1.cell 2
  have a3 := k1.cell 3
  have a4 := k1.cell 4
  have a5 := k1.cell 5
  have a6 := k1.cell 6
  have a7 := k1.cell 7
  have a8 := k1.cell 8
  simp only [List.getElem?_toArray, List.getElem?_cons_zero, List.getElem?_cons_succ] at a0 a1 a2 a3 a4 a5 a6 a7 a8
  clear hb1 k1 k2 hn hn2
  go_enter Try.func26, Try.ntmps26
  go_wp2_with fail
  refine (reqBytes n _ HNN.out.1 HNN.out.2).mono ?_
  clear a0 a1 a2 a3 a4 a5 a6 a7 a8
  rintro e w2 ⟨A, c, rfl, hb2⟩
  have HB2 := Lib.hid hb2
  have k1 := HB.out.2.1.on hb2
  have a0 := k1.cell 0
  have a1 := k1.cell 1
  have a2 := k1.cell 2
  have a3 := k1.cell 3
  have a4 := k1.cell 4
  have a5 := k1.cell 5
  have a6 := k1.cell 6
  have a7 := k1.cell 7
  have a8 := k1.cell 8
  simp only [List.getElem?_toArray, List.getElem?_cons_zero, List.getElem?_cons_succ] at a0 a1 a2 a3 a4 a5 a6 a7 a8
  clear hb2 k1
  go_wp2_with fail
  refine (copyReq n _).mono ?_
  clear a0 a1 a2 a3 a4 a5 a6 a7 a8
  rintro e w3 ⟨rfl, hb3⟩
  have hb3' := HB2.out.trans (hb3.mono HB2.out.size)
  have k2 := HB.out.2.2.on hb3'
  have c0 := k2.cell 0
  have fc0 := k2.frozen 0
  have c1 := k2.cell 1
  have fc1 := k2.frozen 1
  have c2 := k2.cell 2
  have fc2 := k2.frozen 2
  have c3 := k2.cell 3
  have fc3 := k2.frozen 3
  have c4 := k2.cell 4
  have fc4 := k2.frozen 4
  have c5 := k2.cell 5
  have fc5 := k2.frozen 5
  have c6 := k2.cell 6
  have fc6 := k2.frozen 6
  have c7 := k2.cell 7
  have fc7 := k2.frozen 7
  have c8 := k2.cell 8
  have fc8 := k2.frozen 8
  have c9 := k2.cell 9
  have fc9 := k2.frozen 9
  simp only [List.getElem?_toArray, List.getElem?_cons_zero, List.getElem?_cons_succ] at c0 c1 c2 c3 c4 c5 c6 c7 c8 c9
  have kS := Lib.hid (Blk.set_ (Blk.set_ (Blk.set_ (Blk.set_ (Blk.set_ (Blk.set_ (Blk.set_ (Blk.set_ (Blk.set_ (Blk.set_ k2 0 (.int .u64 1)) 1 (.int .u64 n)) 2 (.int .i64 6)) 3 (.string ⟨#[97]⟩)) 4 (.string ⟨#[]⟩)) 5 (.slice none 0 0)) 6 (.slice none 0 0)) 7 (.slice none 0 0)) 8 (.int .i64 0)) 9 (.int .i64 50))
  have bS := Lib.hid (Below.setCell (p := ⟨w.heap.size + 1, 9, none⟩) (Below.setCell (p := ⟨w.heap.size + 1, 8, none⟩) (Below.setCell (p := ⟨w.heap.size + 1, 7, none⟩) (Below.setCell (p := ⟨w.heap.size + 1, 6, none⟩) (Below.setCell (p := ⟨w.heap.size + 1, 5, none⟩) (Below.setCell (p := ⟨w.heap.size + 1, 4, none⟩) (Below.setCell (p := ⟨w.heap.size + 1, 3, none⟩) (Below.setCell (p := ⟨w.heap.size + 1, 2, none⟩) (Below.setCell (p := ⟨w.heap.size + 1, 1, none⟩) (Below.setCell (p := ⟨w.heap.size + 1, 0, none⟩) (HB.out.1.trans (hb3'.mono (by simp; omega))) (Nat.le_succ _) (.int .u64 1)) (Nat.le_succ _) (.int .u64 n)) (Nat.le_succ _) (.int .i64 6)) (Nat.le_succ _) (.string ⟨#[97]⟩)) (Nat.le_succ _) (.string ⟨#[]⟩)) (Nat.le_succ _) (.slice none 0 0)) (Nat.le_succ _) (.slice none 0 0)) (Nat.le_succ _) (.slice none 0 0)) (Nat.le_succ _) (.int .i64 0)) (Nat.le_succ _) (.int .i64 50))
  clear k2 hb3 hb3'
  go_wp2_with fail
  generalize hW : (World.setCell (World.setCell (World.setCell (World.setCell (World.setCell (World.setCell (World.setCell (World.setCell (World.setCell (World.setCell w3 ⟨w.heap.size + 1, 0, none⟩ (.int .u64 1)) ⟨w.heap.size + 1, 1, none⟩ (.int .u64 n)) ⟨w.heap.size + 1, 2, none⟩ (.int .i64 6)) ⟨w.heap.size + 1, 3, none⟩ (.string ⟨#[97]⟩)) ⟨w.heap.size + 1, 4, none⟩ (.string ⟨#[]⟩)) ⟨w.heap.size + 1, 5, none⟩ (.slice none 0 0)) ⟨w.heap.size + 1, 6, none⟩ (.slice none 0 0)) ⟨w.heap.size + 1, 7, none⟩ (.slice none 0 0)) ⟨w.heap.size + 1, 8, none⟩ (.int .i64 0)) ⟨w.heap.size + 1, 9, none⟩ (.int .i64 50)) = W at kS bS ⊢
  have t0 := kS.out.cell 0
  have t1 := kS.out.cell 1
  have t2 := kS.out.cell 2
  have t3 := kS.out.cell 3
  have t4 := kS.out.cell 4
  have t5 := kS.out.cell 5
  have t6 := kS.out.cell 6
  have t7 := kS.out.cell 7
  have t8 := kS.out.cell 8
  have t9 := kS.out.cell 9
  simp at t0 t1 t2 t3 t4 t5 t6 t7 t8 t9
  exact bodyPost_ret (v := .tuple #[itV n, .int .i64 0]) (by simp [results, Try.f26, go_sem, t0, t1, t2, t3, t4, t5, t6, t7, t8, t9]) rfl ⟨rfl, bS.out⟩
end Go.Proofs.Ytniaijgejljjbaa.Tlv
