/- A log of a base and the chapter's requests. -/
import Derived.Test.YtniaijgejljjbaaL9
namespace Go.Proofs.Ytniaijgejljjbaa.Tlv
open Go.RowKit
set_option maxRecDepth 100000
set_option linter.unusedVariables false
set_option linter.unusedSimpArgs false

theorem mk0 (W : World) : (Instr.makeSlice 52 (.int .i64 0) (.int .i64 0)).run Try.prog W = .ok (.slice (some ⟨W.heap.size, 0, none⟩) 0 0) (W.alloc (.cells #[] 66)) := by kernel_rfl
theorem mk2 (W : World) : (Instr.makeSlice 52 (.int .i64 2) (.int .i64 2)).run Try.prog W = .ok (.slice (some ⟨W.heap.size, 0, none⟩) 2 2) (W.alloc (.cells #[.int .u64 0, .int .u64 0, .int .i64 0, .string ⟨#[]⟩, .string ⟨#[]⟩, .slice none 0 0, .slice none 0 0, .slice none 0 0, .int .i64 0, .int .i64 0, .int .u64 0, .int .u64 0, .int .i64 0, .string ⟨#[]⟩, .string ⟨#[]⟩, .slice none 0 0, .slice none 0 0, .slice none 0 0, .int .i64 0, .int .i64 0] 66)) := by kernel_rfl
theorem of_far (w : World) : Calls Try.prog 8 #[.int .u64 4611686018427387905, .slice none 0 0] w fun e w' => e = .returned (.tuple #[.pointer none, .int .i64 2]) ∧ Below w.heap.size w w' := by
  have hmk := mk0
  go_enter Try.func8, Try.ntmps8
  go_wp2_with fail
  refine wp_loop_rounds 1 ?_
  rw [rounds_succ]
  go_wp2_with fail
  go_ret2
  exact ⟨rfl, (Below.refl _ _).alloc (Nat.le_refl _) _⟩
set_option maxHeartbeats 8000000 in
theorem of_two (w : World) (R : Nat) (hR : Blk w R 42 #[.int .u64 1, .int .u64 1, .int .i64 6, .string ⟨#[97]⟩, .string ⟨#[]⟩, .slice none 0 0, .slice none 0 0, .slice none 0 0, .int .i64 0, .int .u64 1, .int .u64 2, .int .i64 6, .string ⟨#[97]⟩, .string ⟨#[]⟩, .slice none 0 0, .slice none 0 0, .slice none 0 0, .int .i64 0]) : Calls Try.prog 8 #[.int .u64 5, .slice (some ⟨R, 0, none⟩) 2 2] w fun e w' => ∃ g v, e = .returned (.tuple #[.pointer (some ⟨g, 0, none⟩), .int .i64 0]) ∧ LogS w' g g 5 v [1, 2] ∧ w.heap.size ≤ g ∧ Below w.heap.size w w' := by
  have hmk := mk2
  have hb1 := (Below.refl w.heap.size w).alloc (Nat.le_refl _) (.cells #[.int .u64 0, .int .u64 0, .int .i64 0, .string ⟨#[]⟩, .string ⟨#[]⟩, .slice none 0 0, .slice none 0 0, .slice none 0 0, .int .i64 0, .int .i64 0, .int .u64 0, .int .u64 0, .int .i64 0, .string ⟨#[]⟩, .string ⟨#[]⟩, .slice none 0 0, .slice none 0 0, .slice none 0 0, .int .i64 0, .int .i64 0] 66)
  have kI := Blk.new w 66 #[.int .u64 0, .int .u64 0, .int .i64 0, .string ⟨#[]⟩, .string ⟨#[]⟩, .slice none 0 0, .slice none 0 0, .slice none 0 0, .int .i64 0, .int .i64 0, .int .u64 0, .int .u64 0, .int .i64 0, .string ⟨#[]⟩, .string ⟨#[]⟩, .slice none 0 0, .slice none 0 0, .slice none 0 0, .int .i64 0, .int .i64 0]
  have hR1 := hR.alloc (.cells #[.int .u64 0, .int .u64 0, .int .i64 0, .string ⟨#[]⟩, .string ⟨#[]⟩, .slice none 0 0, .slice none 0 0, .slice none 0 0, .int .i64 0, .int .i64 0, .int .u64 0, .int .u64 0, .int .i64 0, .string ⟨#[]⟩, .string ⟨#[]⟩, .slice none 0 0, .slice none 0 0, .slice none 0 0, .int .i64 0, .int .i64 0] 66)
  have HX := Lib.hid (And.intro hb1 (And.intro kI hR1))
  have hRne : R ≠ w.heap.size := by have := hR.lt; omega
  clear hb1 kI hR1 hR
  go_enter Try.func8, Try.ntmps8
  go_wp2_with fail
  generalize hWc : w.alloc (.cells #[.int .u64 0, .int .u64 0, .int .i64 0, .string ⟨#[]⟩, .string ⟨#[]⟩, .slice none 0 0, .slice none 0 0, .slice none 0 0, .int .i64 0, .int .i64 0, .int .u64 0, .int .u64 0, .int .i64 0, .string ⟨#[]⟩, .string ⟨#[]⟩, .slice none 0 0, .slice none 0 0, .slice none 0 0, .int .i64 0, .int .i64 0] 66) = Wc0 at HX ⊢
  clear hWc
  refine wp_loop_rounds 3 ?_
  -- round 1
  rw [rounds_succ]
  have r0 := HX.out.2.2.cell 0
  have r1 := HX.out.2.2.cell 1
  have r2 := HX.out.2.2.cell 2
  have r3 := HX.out.2.2.cell 3
  have r4 := HX.out.2.2.cell 4
  have r5 := HX.out.2.2.cell 5
  have r6 := HX.out.2.2.cell 6
  have r7 := HX.out.2.2.cell 7
  have r8 := HX.out.2.2.cell 8
  simp only [List.getElem?_toArray, List.getElem?_cons_zero, List.getElem?_cons_succ] at r0 r1 r2 r3 r4 r5 r6 r7 r8
  go_wp2_with fail
  refine (itemOf_any 1 _ (by decide) (by decide)).mono ?_
  clear r0 r1 r2 r3 r4 r5 r6 r7 r8
  rintro e w2 ⟨rfl, hb2⟩
  have hbA := ((Below.refl Wc0.heap.size Wc0).alloc (Nat.le_refl _) (.cells #[.int .u64 1, .int .u64 1, .int .i64 6, .string ⟨#[97]⟩, .string ⟨#[]⟩, .slice none 0 0, .slice none 0 0, .slice none 0 0, .int .i64 0] 42)).trans (hb2.mono (by simp))
  have hbB := hbA.alloc hbA.size (.cells #[.int .u64 1, .int .u64 1, .int .i64 6, .string ⟨#[97]⟩, .string ⟨#[]⟩, .slice none 0 0, .slice none 0 0, .slice none 0 0, .int .i64 0, .int .i64 50] 66)
  have kT := Blk.new w2 66 #[.int .u64 1, .int .u64 1, .int .i64 6, .string ⟨#[97]⟩, .string ⟨#[]⟩, .slice none 0 0, .slice none 0 0, .slice none 0 0, .int .i64 0, .int .i64 50]
  have kI := HX.out.2.1.on hbB
  have kR := HX.out.2.2.on hbB
  have hbC := HX.out.1.trans (hbB.mono HX.out.1.size)
  have i0 := kT.cell 0
  have i1 := kT.cell 1
  have i2 := kT.cell 2
  have i3 := kT.cell 3
  have i4 := kT.cell 4
  have i5 := kT.cell 5
  have i6 := kT.cell 6
  have i7 := kT.cell 7
  have i8 := kT.cell 8
  have i9 := kT.cell 9
  simp only [List.getElem?_toArray, List.getElem?_cons_zero, List.getElem?_cons_succ] at i0 i1 i2 i3 i4 i5 i6 i7 i8 i9
  have c0 := kI.cell 0
  have c1 := kI.cell 1
  have c2 := kI.cell 2
  have c3 := kI.cell 3
  have c4 := kI.cell 4
  have c5 := kI.cell 5
  have c6 := kI.cell 6
  have c7 := kI.cell 7
  have c8 := kI.cell 8
  have c9 := kI.cell 9
  simp only [List.getElem?_toArray, List.getElem?_cons_zero, List.getElem?_cons_succ] at c0 c1 c2 c3 c4 c5 c6 c7 c8 c9
  have f0 := kI.frozen 0
  have f1 := kI.frozen 1
  have f2 := kI.frozen 2
  have f3 := kI.frozen 3
  have f4 := kI.frozen 4
  have f5 := kI.frozen 5
  have f6 := kI.frozen 6
  have f7 := kI.frozen 7
  have f8 := kI.frozen 8
  have f9 := kI.frozen 9
  have HX' := Lib.hid (And.intro (Below.setCell (p := ⟨w.heap.size, 9, none⟩) (Below.setCell (p := ⟨w.heap.size, 8, none⟩) (Below.setCell (p := ⟨w.heap.size, 7, none⟩) (Below.setCell (p := ⟨w.heap.size, 6, none⟩) (Below.setCell (p := ⟨w.heap.size, 5, none⟩) (Below.setCell (p := ⟨w.heap.size, 4, none⟩) (Below.setCell (p := ⟨w.heap.size, 3, none⟩) (Below.setCell (p := ⟨w.heap.size, 2, none⟩) (Below.setCell (p := ⟨w.heap.size, 1, none⟩) (Below.setCell (p := ⟨w.heap.size, 0, none⟩) hbC (Nat.le_refl _) (.int .u64 1)) (Nat.le_refl _) (.int .u64 1)) (Nat.le_refl _) (.int .i64 6)) (Nat.le_refl _) (.string ⟨#[97]⟩)) (Nat.le_refl _) (.string ⟨#[]⟩)) (Nat.le_refl _) (.slice none 0 0)) (Nat.le_refl _) (.slice none 0 0)) (Nat.le_refl _) (.slice none 0 0)) (Nat.le_refl _) (.int .i64 0)) (Nat.le_refl _) (.int .i64 50)) (And.intro (show Blk _ w.heap.size 66 #[.int .u64 1, .int .u64 1, .int .i64 6, .string ⟨#[97]⟩, .string ⟨#[]⟩, .slice none 0 0, .slice none 0 0, .slice none 0 0, .int .i64 0, .int .i64 50, .int .u64 0, .int .u64 0, .int .i64 0, .string ⟨#[]⟩, .string ⟨#[]⟩, .slice none 0 0, .slice none 0 0, .slice none 0 0, .int .i64 0, .int .i64 0] from (Blk.set_ (Blk.set_ (Blk.set_ (Blk.set_ (Blk.set_ (Blk.set_ (Blk.set_ (Blk.set_ (Blk.set_ (Blk.set_ kI 0 (.int .u64 1)) 1 (.int .u64 1)) 2 (.int .i64 6)) 3 (.string ⟨#[97]⟩)) 4 (.string ⟨#[]⟩)) 5 (.slice none 0 0)) 6 (.slice none 0 0)) 7 (.slice none 0 0)) 8 (.int .i64 0)) 9 (.int .i64 50))) (Blk.far (p := ⟨w.heap.size, 9, none⟩) (Blk.far (p := ⟨w.heap.size, 8, none⟩) (Blk.far (p := ⟨w.heap.size, 7, none⟩) (Blk.far (p := ⟨w.heap.size, 6, none⟩) (Blk.far (p := ⟨w.heap.size, 5, none⟩) (Blk.far (p := ⟨w.heap.size, 4, none⟩) (Blk.far (p := ⟨w.heap.size, 3, none⟩) (Blk.far (p := ⟨w.heap.size, 2, none⟩) (Blk.far (p := ⟨w.heap.size, 1, none⟩) (Blk.far (p := ⟨w.heap.size, 0, none⟩) kR hRne (.int .u64 1)) hRne (.int .u64 1)) hRne (.int .i64 6)) hRne (.string ⟨#[97]⟩)) hRne (.string ⟨#[]⟩)) hRne (.slice none 0 0)) hRne (.slice none 0 0)) hRne (.slice none 0 0)) hRne (.int .i64 0)) hRne (.int .i64 50))))
  clear hbA hbB kT kI kR hbC hb2
  go_wp2_with fail
  clear i0 i1 i2 i3 i4 i5 i6 i7 i8 i9 c0 c1 c2 c3 c4 c5 c6 c7 c8 c9 f0 f1 f2 f3 f4 f5 f6 f7 f8 f9
  generalize hWc : (World.setCell (World.setCell (World.setCell (World.setCell (World.setCell (World.setCell (World.setCell (World.setCell (World.setCell (World.setCell (w2.alloc (.cells #[.int .u64 1, .int .u64 1, .int .i64 6, .string ⟨#[97]⟩, .string ⟨#[]⟩, .slice none 0 0, .slice none 0 0, .slice none 0 0, .int .i64 0, .int .i64 50] 66)) ⟨w.heap.size, 0, none⟩ (.int .u64 1)) ⟨w.heap.size, 1, none⟩ (.int .u64 1)) ⟨w.heap.size, 2, none⟩ (.int .i64 6)) ⟨w.heap.size, 3, none⟩ (.string ⟨#[97]⟩)) ⟨w.heap.size, 4, none⟩ (.string ⟨#[]⟩)) ⟨w.heap.size, 5, none⟩ (.slice none 0 0)) ⟨w.heap.size, 6, none⟩ (.slice none 0 0)) ⟨w.heap.size, 7, none⟩ (.slice none 0 0)) ⟨w.heap.size, 8, none⟩ (.int .i64 0)) ⟨w.heap.size, 9, none⟩ (.int .i64 50)) = Wc1 at HX' ⊢
  clear hWc HX
  have HX := HX'
  clear HX'
  -- round 2
  rw [rounds_succ]
  have r0 := HX.out.2.2.cell 9
  have r1 := HX.out.2.2.cell 10
  have r2 := HX.out.2.2.cell 11
  have r3 := HX.out.2.2.cell 12
  have r4 := HX.out.2.2.cell 13
  have r5 := HX.out.2.2.cell 14
  have r6 := HX.out.2.2.cell 15
  have r7 := HX.out.2.2.cell 16
  have r8 := HX.out.2.2.cell 17
  simp only [List.getElem?_toArray, List.getElem?_cons_zero, List.getElem?_cons_succ] at r0 r1 r2 r3 r4 r5 r6 r7 r8
  go_wp2_with fail
  refine (itemOf_any 2 _ (by decide) (by decide)).mono ?_
  clear r0 r1 r2 r3 r4 r5 r6 r7 r8
  rintro e w3 ⟨rfl, hb2⟩
  have hbA := ((Below.refl Wc1.heap.size Wc1).alloc (Nat.le_refl _) (.cells #[.int .u64 1, .int .u64 2, .int .i64 6, .string ⟨#[97]⟩, .string ⟨#[]⟩, .slice none 0 0, .slice none 0 0, .slice none 0 0, .int .i64 0] 42)).trans (hb2.mono (by simp))
  have hbB := hbA.alloc hbA.size (.cells #[.int .u64 1, .int .u64 2, .int .i64 6, .string ⟨#[97]⟩, .string ⟨#[]⟩, .slice none 0 0, .slice none 0 0, .slice none 0 0, .int .i64 0, .int .i64 50] 66)
  have kT := Blk.new w3 66 #[.int .u64 1, .int .u64 2, .int .i64 6, .string ⟨#[97]⟩, .string ⟨#[]⟩, .slice none 0 0, .slice none 0 0, .slice none 0 0, .int .i64 0, .int .i64 50]
  have kI := HX.out.2.1.on hbB
  have kR := HX.out.2.2.on hbB
  have hbC := HX.out.1.trans (hbB.mono HX.out.1.size)
  have i0 := kT.cell 0
  have i1 := kT.cell 1
  have i2 := kT.cell 2
  have i3 := kT.cell 3
  have i4 := kT.cell 4
  have i5 := kT.cell 5
  have i6 := kT.cell 6
  have i7 := kT.cell 7
  have i8 := kT.cell 8
  have i9 := kT.cell 9
  simp only [List.getElem?_toArray, List.getElem?_cons_zero, List.getElem?_cons_succ] at i0 i1 i2 i3 i4 i5 i6 i7 i8 i9
  have c0 := kI.cell 10
  have c1 := kI.cell 11
  have c2 := kI.cell 12
  have c3 := kI.cell 13
  have c4 := kI.cell 14
  have c5 := kI.cell 15
  have c6 := kI.cell 16
  have c7 := kI.cell 17
  have c8 := kI.cell 18
  have c9 := kI.cell 19
  simp only [List.getElem?_toArray, List.getElem?_cons_zero, List.getElem?_cons_succ] at c0 c1 c2 c3 c4 c5 c6 c7 c8 c9
  have f0 := kI.frozen 10
  have f1 := kI.frozen 11
  have f2 := kI.frozen 12
  have f3 := kI.frozen 13
  have f4 := kI.frozen 14
  have f5 := kI.frozen 15
  have f6 := kI.frozen 16
  have f7 := kI.frozen 17
  have f8 := kI.frozen 18
  have f9 := kI.frozen 19
  have HX' := Lib.hid (And.intro (Below.setCell (p := ⟨w.heap.size, 19, none⟩) (Below.setCell (p := ⟨w.heap.size, 18, none⟩) (Below.setCell (p := ⟨w.heap.size, 17, none⟩) (Below.setCell (p := ⟨w.heap.size, 16, none⟩) (Below.setCell (p := ⟨w.heap.size, 15, none⟩) (Below.setCell (p := ⟨w.heap.size, 14, none⟩) (Below.setCell (p := ⟨w.heap.size, 13, none⟩) (Below.setCell (p := ⟨w.heap.size, 12, none⟩) (Below.setCell (p := ⟨w.heap.size, 11, none⟩) (Below.setCell (p := ⟨w.heap.size, 10, none⟩) hbC (Nat.le_refl _) (.int .u64 1)) (Nat.le_refl _) (.int .u64 2)) (Nat.le_refl _) (.int .i64 6)) (Nat.le_refl _) (.string ⟨#[97]⟩)) (Nat.le_refl _) (.string ⟨#[]⟩)) (Nat.le_refl _) (.slice none 0 0)) (Nat.le_refl _) (.slice none 0 0)) (Nat.le_refl _) (.slice none 0 0)) (Nat.le_refl _) (.int .i64 0)) (Nat.le_refl _) (.int .i64 50)) (And.intro (show Blk _ w.heap.size 66 #[.int .u64 1, .int .u64 1, .int .i64 6, .string ⟨#[97]⟩, .string ⟨#[]⟩, .slice none 0 0, .slice none 0 0, .slice none 0 0, .int .i64 0, .int .i64 50, .int .u64 1, .int .u64 2, .int .i64 6, .string ⟨#[97]⟩, .string ⟨#[]⟩, .slice none 0 0, .slice none 0 0, .slice none 0 0, .int .i64 0, .int .i64 50] from (Blk.set_ (Blk.set_ (Blk.set_ (Blk.set_ (Blk.set_ (Blk.set_ (Blk.set_ (Blk.set_ (Blk.set_ (Blk.set_ kI 10 (.int .u64 1)) 11 (.int .u64 2)) 12 (.int .i64 6)) 13 (.string ⟨#[97]⟩)) 14 (.string ⟨#[]⟩)) 15 (.slice none 0 0)) 16 (.slice none 0 0)) 17 (.slice none 0 0)) 18 (.int .i64 0)) 19 (.int .i64 50))) (Blk.far (p := ⟨w.heap.size, 19, none⟩) (Blk.far (p := ⟨w.heap.size, 18, none⟩) (Blk.far (p := ⟨w.heap.size, 17, none⟩) (Blk.far (p := ⟨w.heap.size, 16, none⟩) (Blk.far (p := ⟨w.heap.size, 15, none⟩) (Blk.far (p := ⟨w.heap.size, 14, none⟩) (Blk.far (p := ⟨w.heap.size, 13, none⟩) (Blk.far (p := ⟨w.heap.size, 12, none⟩) (Blk.far (p := ⟨w.heap.size, 11, none⟩) (Blk.far (p := ⟨w.heap.size, 10, none⟩) kR hRne (.int .u64 1)) hRne (.int .u64 2)) hRne (.int .i64 6)) hRne (.string ⟨#[97]⟩)) hRne (.string ⟨#[]⟩)) hRne (.slice none 0 0)) hRne (.slice none 0 0)) hRne (.slice none 0 0)) hRne (.int .i64 0)) hRne (.int .i64 50))))
  clear hbA hbB kT kI kR hbC hb2
  go_wp2_with fail
  clear i0 i1 i2 i3 i4 i5 i6 i7 i8 i9 c0 c1 c2 c3 c4 c5 c6 c7 c8 c9 f0 f1 f2 f3 f4 f5 f6 f7 f8 f9
  generalize hWc : (World.setCell (World.setCell (World.setCell (World.setCell (World.setCell (World.setCell (World.setCell (World.setCell (World.setCell (World.setCell (w3.alloc (.cells #[.int .u64 1, .int .u64 2, .int .i64 6, .string ⟨#[97]⟩, .string ⟨#[]⟩, .slice none 0 0, .slice none 0 0, .slice none 0 0, .int .i64 0, .int .i64 50] 66)) ⟨w.heap.size, 10, none⟩ (.int .u64 1)) ⟨w.heap.size, 11, none⟩ (.int .u64 2)) ⟨w.heap.size, 12, none⟩ (.int .i64 6)) ⟨w.heap.size, 13, none⟩ (.string ⟨#[97]⟩)) ⟨w.heap.size, 14, none⟩ (.string ⟨#[]⟩)) ⟨w.heap.size, 15, none⟩ (.slice none 0 0)) ⟨w.heap.size, 16, none⟩ (.slice none 0 0)) ⟨w.heap.size, 17, none⟩ (.slice none 0 0)) ⟨w.heap.size, 18, none⟩ (.int .i64 0)) ⟨w.heap.size, 19, none⟩ (.int .i64 50)) = Wc2 at HX' ⊢
  clear hWc HX
  have HX := HX'
  clear HX'
  rw [rounds_succ]
  go_wp2_with fail
  obtain ⟨g, hg⟩ : ∃ g, g = Wc2.heap.size := ⟨_, rfl⟩
  have hgw : w.heap.size < g := by have h1 := HX.out.2.1.lt; omega
  have hbD := HX.out.1.alloc HX.out.1.size (.cells #[.bool true, .int .u64 5, .slice none 0 0, .int .i64 0] 54)
  have kID := HX.out.2.1.alloc (.cells #[.bool true, .int .u64 5, .slice none 0 0, .int .i64 0] 54)
  have hL0 : LogS (Wc2.alloc (.cells #[.bool true, .int .u64 5, .slice none 0 0, .int .i64 0] 54)) Wc2.heap.size Wc2.heap.size 5 (.slice none 0 0) [] := ⟨Blk.new Wc2 54 _, nil_row _ _ _⟩
  have hsz0 : g ≤ (Wc2.alloc (.cells #[.bool true, .int .u64 5, .slice none 0 0, .int .i64 0] 54)).heap.size := by simp; omega
  rw [← hg] at hL0 ⊢
  have HY := Lib.hid (And.intro hbD (And.intro kID (And.intro hL0 hsz0)))
  clear HX hbD kID hL0 hg hsz0
  generalize hWd : Wc2.alloc (.cells #[.bool true, .int .u64 5, .slice none 0 0, .int .i64 0] 54) = Wd0 at HY ⊢
  clear hWd
  refine wp_loop_rounds 3 ?_
  rw [rounds_succ]
  have c0 := HY.out.2.1.cell 0
  have c1 := HY.out.2.1.cell 1
  have c2 := HY.out.2.1.cell 2
  have c3 := HY.out.2.1.cell 3
  have c4 := HY.out.2.1.cell 4
  have c5 := HY.out.2.1.cell 5
  have c6 := HY.out.2.1.cell 6
  have c7 := HY.out.2.1.cell 7
  have c8 := HY.out.2.1.cell 8
  have c9 := HY.out.2.1.cell 9
  simp only [List.getElem?_toArray, List.getElem?_cons_zero, List.getElem?_cons_succ] at c0 c1 c2 c3 c4 c5 c6 c7 c8 c9
  have hbA := (Below.refl Wd0.heap.size Wd0).alloc (Nat.le_refl _) (.cells #[.int .u64 1, .int .u64 1, .int .i64 6, .string ⟨#[97]⟩, .string ⟨#[]⟩, .slice none 0 0, .slice none 0 0, .slice none 0 0, .int .i64 0, .int .i64 50] 66)
  have kT := Blk.new Wd0 66 #[.int .u64 1, .int .u64 1, .int .i64 6, .string ⟨#[97]⟩, .string ⟨#[]⟩, .slice none 0 0, .slice none 0 0, .slice none 0 0, .int .i64 0, .int .i64 50]
  have i0 := kT.cell 0
  have i1 := kT.cell 1
  have i2 := kT.cell 2
  have i3 := kT.cell 3
  have i4 := kT.cell 4
  have i5 := kT.cell 5
  have i6 := kT.cell 6
  have i7 := kT.cell 7
  have i8 := kT.cell 8
  have i9 := kT.cell 9
  simp only [List.getElem?_toArray, List.getElem?_cons_zero, List.getElem?_cons_succ] at i0 i1 i2 i3 i4 i5 i6 i7 i8 i9
  have HP := Lib.hid (put_ok g g 5 1 _ _ _ (HY.out.2.2.1.on hbA) (Nat.le_refl _) (by decide))
  have HA := Lib.hid (And.intro hbA (HY.out.2.1.on hbA))
  clear hbA kT
  go_wp2_with fail
  refine HP.out.mono ?_
  clear HP c0 c1 c2 c3 c4 c5 c6 c7 c8 c9 i0 i1 i2 i3 i4 i5 i6 i7 i8 i9
  rintro e Wd1 ⟨rfl, ⟨v1, hL⟩, hbP, _⟩
  have hbN := HY.out.1.trans (((HA.out.1.mono (Nat.le_trans (Nat.le_of_lt hgw) HY.out.2.2.2)).trans (hbP.mono (Nat.le_of_lt hgw))))
  have hszN : g ≤ Wd1.heap.size := Nat.le_trans (Nat.le_trans HY.out.2.2.2 HA.out.1.size) hbP.size
  have HY' := Lib.hid (And.intro hbN (And.intro (HA.out.2.below hbP hgw) (And.intro hL hszN)))
  clear hL hbP hbN hszN HY HA
  have HY := HY'
  clear HY'
  go_wp2_with fail
  rw [rounds_succ]
  have c0 := HY.out.2.1.cell 10
  have c1 := HY.out.2.1.cell 11
  have c2 := HY.out.2.1.cell 12
  have c3 := HY.out.2.1.cell 13
  have c4 := HY.out.2.1.cell 14
  have c5 := HY.out.2.1.cell 15
  have c6 := HY.out.2.1.cell 16
  have c7 := HY.out.2.1.cell 17
  have c8 := HY.out.2.1.cell 18
  have c9 := HY.out.2.1.cell 19
  simp only [List.getElem?_toArray, List.getElem?_cons_zero, List.getElem?_cons_succ] at c0 c1 c2 c3 c4 c5 c6 c7 c8 c9
  have hbA := (Below.refl Wd1.heap.size Wd1).alloc (Nat.le_refl _) (.cells #[.int .u64 1, .int .u64 2, .int .i64 6, .string ⟨#[97]⟩, .string ⟨#[]⟩, .slice none 0 0, .slice none 0 0, .slice none 0 0, .int .i64 0, .int .i64 50] 66)
  have kT := Blk.new Wd1 66 #[.int .u64 1, .int .u64 2, .int .i64 6, .string ⟨#[97]⟩, .string ⟨#[]⟩, .slice none 0 0, .slice none 0 0, .slice none 0 0, .int .i64 0, .int .i64 50]
  have i0 := kT.cell 0
  have i1 := kT.cell 1
  have i2 := kT.cell 2
  have i3 := kT.cell 3
  have i4 := kT.cell 4
  have i5 := kT.cell 5
  have i6 := kT.cell 6
  have i7 := kT.cell 7
  have i8 := kT.cell 8
  have i9 := kT.cell 9
  simp only [List.getElem?_toArray, List.getElem?_cons_zero, List.getElem?_cons_succ] at i0 i1 i2 i3 i4 i5 i6 i7 i8 i9
  have HP := Lib.hid (put_ok g g 5 2 _ _ _ (HY.out.2.2.1.on hbA) (Nat.le_refl _) (by decide))
  have HA := Lib.hid (And.intro hbA (HY.out.2.1.on hbA))
  clear hbA kT
  go_wp2_with fail
  refine HP.out.mono ?_
  clear HP c0 c1 c2 c3 c4 c5 c6 c7 c8 c9 i0 i1 i2 i3 i4 i5 i6 i7 i8 i9
  rintro e Wd2 ⟨rfl, ⟨v2, hL⟩, hbP, _⟩
  have hbN := HY.out.1.trans (((HA.out.1.mono (Nat.le_trans (Nat.le_of_lt hgw) HY.out.2.2.2)).trans (hbP.mono (Nat.le_of_lt hgw))))
  have hszN : g ≤ Wd2.heap.size := Nat.le_trans (Nat.le_trans HY.out.2.2.2 HA.out.1.size) hbP.size
  have HY' := Lib.hid (And.intro hbN (And.intro (HA.out.2.below hbP hgw) (And.intro hL hszN)))
  clear hL hbP hbN hszN HY HA
  have HY := HY'
  clear HY'
  go_wp2_with fail
  rw [rounds_succ]
  go_wp2_with fail
  go_ret2
  exact ⟨g, _, rfl, HY.out.2.2.1, Nat.le_of_lt hgw, HY.out.1⟩
end Go.Proofs.Ytniaijgejljjbaa.Tlv
