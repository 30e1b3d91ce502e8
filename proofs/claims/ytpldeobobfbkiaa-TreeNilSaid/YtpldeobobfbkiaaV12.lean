/- New, Len, Get. -/
import Derived.Test.YtpldeobobfbkiaaV11
namespace Go.Proofs.Ytpldeobobfbkiaa.Tlv
open Go.RowKit
set_option maxRecDepth 100000
set_option linter.unusedVariables false
set_option linter.unusedSimpArgs false

theorem new_any (n0 : Nat) (w : World) (h0 : n0 ≤ w.heap.size) : Calls Try.prog 25 #[.int .i64 2] w fun e w' => e = .returned (.tuple #[.pointer (some ⟨w.heap.size + 1, 0, none⟩), .int .i64 0]) ∧ StA n0 (w.heap.size + 1) w.heap.size 0 (.slice none 0 0) [] w' ∧ Below n0 w w' := by
  go_enter Try.func25, Try.ntmps25
  go_wp2
  go_ret2
  have k1 := (Blk.new w 44 #[.slice none 0 0, .slice none 0 0]).alloc (.cells #[.int .i64 2, .int .i64 0, .pointer (some ⟨w.heap.size, 0, none⟩)] 24)
  have k2 := Blk.new (w.alloc (.cells #[.slice none 0 0, .slice none 0 0] 44)) 24 #[.int .i64 2, .int .i64 0, .pointer (some ⟨w.heap.size, 0, none⟩)]
  rw [show (w.alloc (.cells #[.slice none 0 0, .slice none 0 0] 44)).heap.size = w.heap.size + 1 from by simp] at k2
  refine ⟨by simp, ⟨k2, k1, nil_row _ _ _, by omega, h0⟩, ((Below.refl n0 w).alloc h0 _).alloc (by simp; omega) _⟩
theorem len_tree (T N : Nat) (x : Value) (n : Int) (w : World) (hT : Blk w T 24 #[x, .int .i64 n, .pointer (some ⟨N, 0, none⟩)]) : Calls Try.prog 9 #[.pointer (some ⟨T, 0, none⟩)] w fun e w' => e = .returned (.int .i64 n) ∧ w = w' := by
  have HN := Lib.hid (none_tree T N _ _ w hT)
  have c1 := hT.cell 1
  simp only [List.getElem?_toArray, List.getElem?_cons_zero, List.getElem?_cons_succ] at c1
  clear hT
  go_enter Try.func9, Try.ntmps9
  go_wp2_with (go_at_call 14; with_reducible refine HN.out.mono ?_; rintro e wx ⟨rfl, rfl⟩; dsimp only)
  go_ret
  exact ⟨rfl, rfl⟩
set_option maxHeartbeats 4000000 in
theorem get_any (n0 T P N R b c : Nat) (cnt : Int) (vP vC vN vR : Value) (x2 x3 x4 x5 : It) (w : World) (h : St2 n0 T P N R cnt vP vC vN vR x2 [x3, x4, x5] w) (k2 : Key w x2.b 2) (k3 : Key w x3.b 3) (k4 : Key w x4.b 4) (kt : Key w b 3) :
    Calls Try.prog 5 #[.pointer (some ⟨T, 0, none⟩), keyV b c] w fun e w' => e = .returned (.tuple #[.int .i64 x3.v, .bool true]) ∧ Below w.heap.size w w' := by
  obtain ⟨gP, cP, rfl⟩ := row_form h.rP (by simp)
  obtain ⟨gC, cC, rfl⟩ := row_form h.rC (by simp)
  obtain ⟨gR, cR, rfl⟩ := row_form h.rR (by simp)
  simp only [List.length_cons, List.length_nil, Nat.reduceAdd] at h
  obtain ⟨gc, off, e, hgC, hCc⟩ := h.rC.cap.2.2.2 (by simp)
  injection e with e
  injection e with e1 e2 _
  subst e1 e2
  have hc1 : w.cell? ⟨gC, 1, none⟩ = some (.pointer (some ⟨R, 0, none⟩)) := by simpa [kP] using hCc 1 (by simp) 0 _ rfl
  have hi := it_at h.rR 0 (by simp) (i := 3) (by simpa using k3)
  have HN := Lib.hid (none_tree T P _ _ w h.t)
  have HX1 := Lib.hid (find1 P b c n0 _ _ x2 2 3 w h.p h.rP k2 kt (by decide +kernel) w (Below.refl _ _))
  have HX2 := Lib.hid (find3 R b c n0 _ _ x3 x4 x5 3 4 3 w h.r h.rR k3 k4 kt (by decide +kernel) (by decide +kernel))
  have HT := Lib.hid fun (W : World) (hb : Below w.heap.size w W) => And.intro (h.p.on hb) (And.intro (h.r.on hb) (And.intro ((hb.cell (p := ⟨gC, 1, none⟩) hgC).trans hc1) (hi.on hb)))
  have t2 := h.t.cell 2
  simp only [List.getElem?_toArray, List.getElem?_cons_zero, List.getElem?_cons_succ] at t2
  clear h k2 k3 k4 kt hCc hgC hc1 hi
  go_enter Try.func5, Try.ntmps5
  go_wp2_with (go_at_call 14; with_reducible refine HN.out.mono ?_; rintro e wx ⟨rfl, rfl⟩; dsimp only)
  clear t2
  refine wp_loop_rounds 2 ?_
  rw [rounds_succ]
  go_upto_region 9 with (first
    | (go_at_call 18; with_reducible refine HX1.out.mono ?_; rintro e w1 ⟨rfl, hb1⟩; dsimp only; have HB1 := Lib.hid hb1; clear hb1)
    | (go_at_call 19; (with_reducible refine (leaf_any _ _ _ _ _ _ (HT.out _ HB1.out).1).mono ?_); rintro e w2 ⟨rfl, rfl⟩; dsimp only))
  have p1 := (HT.out _ HB1.out).1.cell 1
  simp only [List.getElem?_toArray, List.getElem?_cons_zero, List.getElem?_cons_succ] at p1
  have p2 := (HT.out _ HB1.out).2.2.1
  go_wp2
  rw [rounds_succ]
  go_upto_region 6 with (go_at_call 18; (with_reducible refine (HX2.out _ HB1.out).mono ?_); rintro e w2 ⟨rfl, hb2⟩; dsimp only; have HB2 := Lib.hid (HB1.out.trans (hb2.mono HB1.out.size)); clear hb2 p1 p2)
  have r0 := (HT.out _ HB2.out).2.1.cell 0
  simp only [List.getElem?_toArray, List.getElem?_cons_zero, List.getElem?_cons_succ] at r0
  have i0 := (HT.out _ HB2.out).2.2.2.key
  have i1 := (HT.out _ HB2.out).2.2.2.num
  simp only [Nat.reduceMul, Nat.reduceAdd] at i0 i1
  simp at i0 i1
  go_wp2
  go_ret2
  exact ⟨rfl, HB2.out⟩
end Go.Proofs.Ytpldeobobfbkiaa.Tlv
