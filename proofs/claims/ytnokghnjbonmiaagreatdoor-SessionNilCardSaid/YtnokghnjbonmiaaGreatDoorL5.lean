/- The chapter's requests: copies, items. -/
import Derived.Test.YtnokghnjbonmiaaGreatDoorL4
namespace Go.Proofs.YtnokghnjbonmiaaGreatDoor.Tlv
open Go.RowKit
set_option maxRecDepth 100000
set_option linter.unusedVariables false
set_option linter.unusedSimpArgs false

set_option maxHeartbeats 8000000 in
theorem copyReq (n : Int) (w : World) : Calls Tryz.prog 17 #[rqV n] w fun e w' => e = .returned (rqV n) ∧ Below w.heap.size w w' := by
  have hb1 := ((Below.refl w.heap.size w).alloc (Nat.le_refl _) (.cells #[.int .u64 1, .int .u64 n, .int .i64 6, .string ⟨#[97]⟩, .string ⟨#[]⟩, .slice none 0 0, .slice none 0 0, .slice none 0 0, .int .i64 0] 30)).alloc (by simp) (.cells #[.int .u64 0, .int .u64 0, .int .i64 0, .string ⟨#[]⟩, .string ⟨#[]⟩, .slice none 0 0, .slice none 0 0, .slice none 0 0, .int .i64 0] 30)
  have k1 := (Blk.new w 30 #[.int .u64 1, .int .u64 n, .int .i64 6, .string ⟨#[97]⟩, .string ⟨#[]⟩, .slice none 0 0, .slice none 0 0, .slice none 0 0, .int .i64 0]).alloc (.cells #[.int .u64 0, .int .u64 0, .int .i64 0, .string ⟨#[]⟩, .string ⟨#[]⟩, .slice none 0 0, .slice none 0 0, .slice none 0 0, .int .i64 0] 30)
  have k2 := Blk.new (w.alloc (.cells #[.int .u64 1, .int .u64 n, .int .i64 6, .string ⟨#[97]⟩, .string ⟨#[]⟩, .slice none 0 0, .slice none 0 0, .slice none 0 0, .int .i64 0] 30)) 30 #[.int .u64 0, .int .u64 0, .int .i64 0, .string ⟨#[]⟩, .string ⟨#[]⟩, .slice none 0 0, .slice none 0 0, .slice none 0 0, .int .i64 0]
  have HB := Lib.hid (And.intro hb1 (And.intro k1 k2))
  clear hb1 k1 k2
  go_enter Tryz.func17, Tryz.ntmps17
  go_wp2_with fail
  refine (copyOp6 _).mono ?_
  rintro e w2 ⟨rfl, hb2⟩
  have k1 := HB.out.2.1.on hb2
  have k2 := HB.out.2.2.on hb2
  rw [World.size_alloc] at k2
  have a0 := k1.cell 0
  have a1 := k1.cell 1
  have a2 := k1.cell 2
  have a3 := k1.cell 3
  have a4 := k1.cell 4
  have a5 := k1.cell 5
  have a6 := k1.cell 6
  have a7 := k1.cell 7
  have a8 := k1.cell 8
  have fa2 := k1.frozen 2
  have fa3 := k1.frozen 3
  have fa4 := k1.frozen 4
  have fa5 := k1.frozen 5
  have fa6 := k1.frozen 6
  have fa7 := k1.frozen 7
  have fa8 := k1.frozen 8
  have c0 := k2.cell 0
  have c1 := k2.cell 1
  have c2 := k2.cell 2
  have c3 := k2.cell 3
  have c4 := k2.cell 4
  have c5 := k2.cell 5
  have c6 := k2.cell 6
  have c7 := k2.cell 7
  have c8 := k2.cell 8
  have fc0 := k2.frozen 0
  have fc1 := k2.frozen 1
  have fc2 := k2.frozen 2
  have fc3 := k2.frozen 3
  have fc4 := k2.frozen 4
  have fc5 := k2.frozen 5
  have fc6 := k2.frozen 6
  have fc7 := k2.frozen 7
  have fc8 := k2.frozen 8
  simp only [List.getElem?_toArray, List.getElem?_cons_zero, List.getElem?_cons_succ] at a0 a1 a2 a3 a4 a5 a6 a7 a8 c0 c1 c2 c3 c4 c5 c6 c7 c8
  have kS := Lib.hid (Blk.set_ (Blk.set_ (Blk.set_ (Blk.set_ (Blk.set_ (Blk.set_ (Blk.set_ (Blk.set_ (Blk.set_ (Blk.far (p := ⟨w.heap.size, 8, none⟩) (Blk.far (p := ⟨w.heap.size, 7, none⟩) (Blk.far (p := ⟨w.heap.size, 6, none⟩) (Blk.far (p := ⟨w.heap.size, 5, none⟩) (Blk.far (p := ⟨w.heap.size, 4, none⟩) (Blk.far (p := ⟨w.heap.size, 3, none⟩) (Blk.far (p := ⟨w.heap.size, 2, none⟩) k2 (by show w.heap.size + 1 ≠ w.heap.size; omega) (.int .i64 6)) (by show w.heap.size + 1 ≠ w.heap.size; omega) (.string ⟨#[97]⟩)) (by show w.heap.size + 1 ≠ w.heap.size; omega) (.string ⟨#[]⟩)) (by show w.heap.size + 1 ≠ w.heap.size; omega) (.slice none 0 0)) (by show w.heap.size + 1 ≠ w.heap.size; omega) (.slice none 0 0)) (by show w.heap.size + 1 ≠ w.heap.size; omega) (.slice none 0 0)) (by show w.heap.size + 1 ≠ w.heap.size; omega) (.int .i64 0)) 0 (.int .u64 1)) 1 (.int .u64 n)) 2 (.int .i64 6)) 3 (.string ⟨#[97]⟩)) 4 (.string ⟨#[]⟩)) 5 (.slice none 0 0)) 6 (.slice none 0 0)) 7 (.slice none 0 0)) 8 (.int .i64 0))
  have bS := Lib.hid (Below.setCell (p := ⟨w.heap.size + 1, 8, none⟩) (Below.setCell (p := ⟨w.heap.size + 1, 7, none⟩) (Below.setCell (p := ⟨w.heap.size + 1, 6, none⟩) (Below.setCell (p := ⟨w.heap.size + 1, 5, none⟩) (Below.setCell (p := ⟨w.heap.size + 1, 4, none⟩) (Below.setCell (p := ⟨w.heap.size + 1, 3, none⟩) (Below.setCell (p := ⟨w.heap.size + 1, 2, none⟩) (Below.setCell (p := ⟨w.heap.size + 1, 1, none⟩) (Below.setCell (p := ⟨w.heap.size + 1, 0, none⟩) (Below.setCell (p := ⟨w.heap.size, 8, none⟩) (Below.setCell (p := ⟨w.heap.size, 7, none⟩) (Below.setCell (p := ⟨w.heap.size, 6, none⟩) (Below.setCell (p := ⟨w.heap.size, 5, none⟩) (Below.setCell (p := ⟨w.heap.size, 4, none⟩) (Below.setCell (p := ⟨w.heap.size, 3, none⟩) (Below.setCell (p := ⟨w.heap.size, 2, none⟩) (HB.out.1.trans (hb2.mono (by simp; omega))) (Nat.le_refl _) (.int .i64 6)) (Nat.le_refl _) (.string ⟨#[97]⟩)) (Nat.le_refl _) (.string ⟨#[]⟩)) (Nat.le_refl _) (.slice none 0 0)) (Nat.le_refl _) (.slice none 0 0)) (Nat.le_refl _) (.slice none 0 0)) (Nat.le_refl _) (.int .i64 0)) (Nat.le_succ _) (.int .u64 1)) (Nat.le_succ _) (.int .u64 n)) (Nat.le_succ _) (.int .i64 6)) (Nat.le_succ _) (.string ⟨#[97]⟩)) (Nat.le_succ _) (.string ⟨#[]⟩)) (Nat.le_succ _) (.slice none 0 0)) (Nat.le_succ _) (.slice none 0 0)) (Nat.le_succ _) (.slice none 0 0)) (Nat.le_succ _) (.int .i64 0))
  clear k1 k2 hb2
  go_wp2_with fail
  generalize hW : (World.setCell (World.setCell (World.setCell (World.setCell (World.setCell (World.setCell (World.setCell (World.setCell (World.setCell (World.setCell (World.setCell (World.setCell (World.setCell (World.setCell (World.setCell (World.setCell w2 ⟨w.heap.size, 2, none⟩ (.int .i64 6)) ⟨w.heap.size, 3, none⟩ (.string ⟨#[97]⟩)) ⟨w.heap.size, 4, none⟩ (.string ⟨#[]⟩)) ⟨w.heap.size, 5, none⟩ (.slice none 0 0)) ⟨w.heap.size, 6, none⟩ (.slice none 0 0)) ⟨w.heap.size, 7, none⟩ (.slice none 0 0)) ⟨w.heap.size, 8, none⟩ (.int .i64 0)) ⟨w.heap.size + 1, 0, none⟩ (.int .u64 1)) ⟨w.heap.size + 1, 1, none⟩ (.int .u64 n)) ⟨w.heap.size + 1, 2, none⟩ (.int .i64 6)) ⟨w.heap.size + 1, 3, none⟩ (.string ⟨#[97]⟩)) ⟨w.heap.size + 1, 4, none⟩ (.string ⟨#[]⟩)) ⟨w.heap.size + 1, 5, none⟩ (.slice none 0 0)) ⟨w.heap.size + 1, 6, none⟩ (.slice none 0 0)) ⟨w.heap.size + 1, 7, none⟩ (.slice none 0 0)) ⟨w.heap.size + 1, 8, none⟩ (.int .i64 0)) = W at kS bS ⊢
  have t0 := kS.out.cell 0
  have t1 := kS.out.cell 1
  have t2 := kS.out.cell 2
  have t3 := kS.out.cell 3
  have t4 := kS.out.cell 4
  have t5 := kS.out.cell 5
  have t6 := kS.out.cell 6
  have t7 := kS.out.cell 7
  have t8 := kS.out.cell 8
  simp at t0 t1 t2 t3 t4 t5 t6 t7 t8
  exact bodyPost_ret (v := rqV n) (by simp [results, Tryz.f17, go_sem, t0, t1, t2, t3, t4, t5, t6, t7, t8]) rfl ⟨rfl, bS.out⟩
end Go.Proofs.YtnokghnjbonmiaaGreatDoor.Tlv
