/- Shape: how many items lie in each node, level by level. -/
import Derived.Test.YtpldeobobfbkiaaV12
namespace Go.Proofs.Ytpldeobobfbkiaa.Tlv
open Go.RowKit
set_option maxRecDepth 100000
set_option linter.unusedVariables false
set_option linter.unusedSimpArgs false

def ShapeOut (w : World) (e : Ending) (w' : World) : Prop :=
  ∃ gS cS g1 c1 g2 c2, e = .returned (.slice (some ⟨gS, 0, none⟩) 2 cS) ∧ w'.cell? ⟨gS, 0, none⟩ = some (.slice (some ⟨g1, 0, none⟩) 1 c1) ∧ w'.cell? ⟨gS, 1, none⟩ = some (.slice (some ⟨g2, 0, none⟩) 2 c2) ∧
    w'.cell? ⟨g1, 0, none⟩ = some (.int .i64 1) ∧ w'.cell? ⟨g2, 0, none⟩ = some (.int .i64 1) ∧ w'.cell? ⟨g2, 1, none⟩ = some (.int .i64 3) ∧ Below w.heap.size w w'
theorem rowK_cells {α : Type} [Inhabited α] {K : Kind α} {w : World} {base n c g : Nat} {l : List α} (h : RowK K w base (.slice (some ⟨g, 0, none⟩) n c) l) (h1 : K.size = 1) (j : Nat) (hj : j < l.length) (u : Value) (hu : (K.cs (l.getD j default))[0]? = some u) : w.cell? ⟨g, j, none⟩ = some u := by
  obtain ⟨b, off, e, hlt, hc⟩ := h.cap.2.2.2 (by omega)
  injection e with e
  injection e with e1 e2 _
  subst e1 e2
  have := hc j hj 0 u hu
  simpa [h1] using this
theorem app_below {α : Type} {K : Kind α} {w0 w w' : World} {base : Nat} {v : Value} {l : List α} (h : Below base w0 w) (hr : RowK K w base v l) (hg : w.grownBy w' v.ownBlock) (hb : base ≤ w0.heap.size) : Below base w0 w' :=
  h.trans (row_below hr hg (Nat.le_trans hb h.size))
theorem wpList_app0 {α : Type} [Inhabited α] (K : Kind α) {w : World} {ops : Array Oper} {rest : List Oper} {o : Oper} {a : Act} {Q : Exit → Act → World → Prop} (hgd : o.guard = none) (s x : Operand)
    (ho : o.op = .call { callee := .builtin .append, args := #[s, x], argTypes := #[K.st, K.st] })
    {base : Nat} {v : Value} {l : List α} (hs : a.eval s = v) (hown : RowK K w base v l) (hx : a.eval x = .slice none 0 0)
    (h : wpList Try.prog ops Q rest (a.put o.dst v) w) :
    wpList Try.prog ops Q (o :: rest) a w := by
  obtain ⟨i0, z, hi, _⟩ := K.zero
  refine wpList_plain hgd fun K' hK => ?_
  have h1 := run_append_owned_none (P := Try.prog) (w := w) base K.st o.type K.e i0 K.size K.sl hi v l.length (flatK K l) hown
  unfold Oper.wp
  simp [execOp, ho, resolve, invoke, builtin, hs, hx, h1, Result.andThen]
  exact hK _ _ h
theorem row_formN {α : Type} {K : Kind α} {w : World} {base : Nat} {v : Value} {l : List α} (h : RowK K w base v l) (n : Nat) (hn : l.length = n) (hp : 0 < n) : ∃ g c, v = .slice (some ⟨g, 0, none⟩) n c := by
  subst hn
  exact row_form h hp
set_option maxHeartbeats 8000000 in
theorem shape_any (n0 T P N R gN cN : Nat) (cnt : Int) (vP vC vR : Value) (x2 x3 x4 x5 : It) (w : World) (h : St2 n0 T P N R 5 vP vC (.slice (some ⟨gN, 0, none⟩) 1 cN) vR x2 [x3, x4, x5] w) :
    Calls Try.prog 11 #[.pointer (some ⟨T, 0, none⟩)] w (ShapeOut w) := by
  obtain ⟨gP, cP, rfl⟩ := row_form h.rP (by simp)
  obtain ⟨gC, cC, rfl⟩ := row_form h.rC (by simp)
  obtain ⟨gR, cR, rfl⟩ := row_form h.rR (by simp)
  simp only [List.length_cons, List.length_nil, Nat.reduceAdd] at h
  have HN := Lib.hid (len_tree T P _ _ w h.t)
  have t2 := h.t.cell 2
  simp only [List.getElem?_toArray, List.getElem?_cons_zero, List.getElem?_cons_succ] at t2
  have HT := Lib.hid fun (W : World) (hb : Below w.heap.size w W) => h.on hb
  clear h
  go_enter Try.func11, Try.ntmps11
  go_wp2_with (go_at_call 9; with_reducible refine HN.out.mono ?_; rintro e wx ⟨rfl, rfl⟩; dsimp only)
  refine wp_loop_rounds 3 ?_
  have kX := Blk.new w 22 #[.pointer (some ⟨P, 0, none⟩)]
  have hb0 : Below w.heap.size w (w.alloc (.cells #[.pointer (some ⟨P, 0, none⟩)] 22)) := (Below.refl _ _).alloc (Nat.le_refl _) _
  have x0 := kX.cell 0
  simp only [List.getElem?_toArray, List.getElem?_cons_zero, List.getElem?_cons_succ] at x0
  obtain ⟨gX, hgX⟩ : ∃ g, g = w.heap.size := ⟨_, rfl⟩
  have HGX := Lib.hid hgX
  rw [← hgX] at x0 ⊢
  generalize w.alloc (.cells #[.pointer (some ⟨P, 0, none⟩)] 22) = W0 at hb0 x0 kX ⊢
  have HB0 := Lib.hid hb0
  clear kX hb0 hgX t2 HN
  rw [rounds_succ]
  go_wp2
  refine wp_loop_rounds 2 ?_
  rw [rounds_succ]
  have p0 := (HT.out _ HB0.out).p.cell 0
  simp only [List.getElem?_toArray, List.getElem?_cons_zero, List.getElem?_cons_succ] at p0
  go_upto_region 12 with (refine wpList_appK kN (v := .slice none 0 0) rfl _ _ rfl [1] rfl (nil_row _ _ w.heap.size) rfl (rd_one 1 (Blk.new W0 3 #[.int .i64 1]) rfl) (fun h => by cases h) (by simp) (Nat.le_trans HB0.out.size (by simp)) ?_; intro v1 w1 hr1 hg1; obtain ⟨g1, c1, rfl⟩ := row_formN hr1 1 rfl (by decide))
  have HB1 := Lib.hid (app_below (HB0.out.alloc HB0.out.size (.cells #[.int .i64 1] 3)) (nil_row kN _ _) hg1 (Nat.le_refl _))
  have HR1 : Hid (RowK kN w1 w.heap.size _ [1]) := Lib.hid hr1
  clear p0 x0 hg1 hr1
  have p1 := (HT.out _ HB1.out).p.cell 1
  simp only [List.getElem?_toArray, List.getElem?_cons_zero, List.getElem?_cons_succ] at p1
  have hrC := (HT.out _ HB1.out).rC.cap.2.2.2
  go_wp2_with (refine wpList_appK kP (v := .slice none 0 0) rfl _ _ rfl [N, R] rfl (nil_row _ _ w.heap.size) rfl hrC (fun h => by cases h) (by simp) HB1.out.size ?_; intro v2 w2 hr2 hg2; obtain ⟨g2, c2, rfl⟩ := row_formN hr2 2 rfl (by decide))
  have hb12 : Below w1.heap.size w1 w2 := row_below (nil_row kP _ _) hg2 (Nat.le_refl _)
  have HB2 := Lib.hid (HB1.out.trans (hb12.mono HB1.out.size))
  have HR12 := Lib.hid (HR1.out.on hb12)
  have HR2 : Hid (RowK kP w2 w.heap.size _ [N, R]) := Lib.hid hr2
  clear p1 hrC hr2 hg2 hb12 HR1
  rw [rounds_succ]
  go_upto_region 15 with (refine wpList_appK kS (v := .slice none 0 0) rfl _ _ rfl [(⟨g1, 1, c1⟩ : Sl)] rfl (nil_row kS _ w.heap.size) rfl (rd_one (K := kS) (⟨g1, 1, c1⟩ : Sl) (Blk.new w2 53 #[.slice (some ⟨g1, 0, none⟩) 1 c1]) rfl) (fun h => by cases h) (by simp) (Nat.le_trans HB2.out.size (by simp)) ?_; intro v3 w3 hr3 hg3; obtain ⟨g3, c3, rfl⟩ := row_formN hr3 1 rfl (by decide))
  have hb23 : Below w2.heap.size w2 w3 := app_below ((Below.refl _ _).alloc (Nat.le_refl _) (.cells #[.slice (some ⟨g1, 0, none⟩) 1 c1] 53)) (nil_row kS _ _) hg3 (Nat.le_refl _)
  have HB3 := Lib.hid (HB2.out.trans (hb23.mono HB2.out.size))
  have HR13 := Lib.hid (HR12.out.on hb23)
  have HR23 := Lib.hid (HR2.out.on hb23)
  have HR3 : Hid (RowK kS w3 w.heap.size _ [⟨g1, 1, c1⟩]) := Lib.hid hr3
  clear hr3 hg3 hb23 HR12 HR2
  go_wp2
  rw [rounds_succ]
  go_wp2
  refine wp_loop_rounds 3 ?_
  rw [rounds_succ]
  have y0 : w3.cell? ⟨g2, 0, none⟩ = some (.pointer (some ⟨N, 0, none⟩)) := rowK_cells HR23.out rfl 0 (by simp) _ rfl
  have n0c := (HT.out _ HB3.out).n.cell 0
  simp only [List.getElem?_toArray, List.getElem?_cons_zero, List.getElem?_cons_succ] at n0c
  go_upto_region 12 with (refine wpList_appK kN (v := .slice none 0 0) rfl _ _ rfl [1] rfl (nil_row _ _ w3.heap.size) rfl (rd_one 1 (Blk.new w3 3 #[.int .i64 1]) rfl) (fun h => by cases h) (by simp) (by simp) ?_; intro v4 w4 hr4 hg4; obtain ⟨g4, c4, rfl⟩ := row_formN hr4 1 rfl (by decide))
  have HC4 := Lib.hid (app_below ((Below.refl w3.heap.size w3).alloc (Nat.le_refl _) (.cells #[.int .i64 1] 3)) (nil_row kN _ _) hg4 (Nat.le_refl _))
  have HR4 : Hid (RowK kN w4 w3.heap.size _ [1]) := Lib.hid hr4
  clear y0 n0c hr4 hg4
  have HB4 := Lib.hid (HB3.out.trans (HC4.out.mono HB3.out.size))
  have n1c := (HT.out _ HB4.out).n.cell 1
  simp only [List.getElem?_toArray, List.getElem?_cons_zero, List.getElem?_cons_succ] at n1c
  go_wp2_with (refine wpList_app0 kP (v := .slice none 0 0) rfl _ _ rfl rfl (nil_row kP _ w3.heap.size) rfl ?_)
  clear n1c
  rw [rounds_succ]
  have y1 : w4.cell? ⟨g2, 1, none⟩ = some (.pointer (some ⟨R, 0, none⟩)) := rowK_cells (HR23.out.on HC4.out) rfl 1 (by simp) _ rfl
  have r0c := (HT.out _ HB4.out).r.cell 0
  simp only [List.getElem?_toArray, List.getElem?_cons_zero, List.getElem?_cons_succ] at r0c
  go_upto_region 12 with (refine wpList_appK kN (v := .slice (some ⟨g4, 0, none⟩) 1 c4) rfl _ _ rfl [3] rfl (HR4.out.alloc _) rfl (rd_one 3 (Blk.new w4 3 #[.int .i64 3]) rfl) (fun h => by cases h) (by simp) (Nat.le_trans HC4.out.size (by simp)) ?_; intro v6 w6 hr6 hg6; obtain ⟨g6, c6, rfl⟩ := row_formN hr6 2 rfl (by decide))
  have HC6 := Lib.hid (app_below (HC4.out.alloc HC4.out.size (.cells #[.int .i64 3] 3)) (HR4.out.alloc _) hg6 (Nat.le_refl _))
  have HR6 : Hid (RowK kN w6 w3.heap.size _ [1, 3]) := Lib.hid hr6
  clear y1 r0c hr6 hg6
  have HB6 := Lib.hid (HB3.out.trans (HC6.out.mono HB3.out.size))
  have r1c := (HT.out _ HB6.out).r.cell 1
  simp only [List.getElem?_toArray, List.getElem?_cons_zero, List.getElem?_cons_succ] at r1c
  go_wp2_with (refine wpList_app0 kP (v := .slice none 0 0) rfl _ _ rfl rfl (nil_row kP _ w3.heap.size) rfl ?_)
  clear r1c
  rw [rounds_succ]
  have HR36 := Lib.hid (HR3.out.on HC6.out)
  have HR16 := Lib.hid (HR13.out.on HC6.out)
  go_upto_region 15 with (refine wpList_appK kS (v := .slice (some ⟨g3, 0, none⟩) 1 c3) rfl _ _ rfl [(⟨g6, 2, c6⟩ : Sl)] rfl (HR36.out.alloc _) rfl (rd_one (K := kS) (⟨g6, 2, c6⟩ : Sl) (Blk.new w6 53 #[.slice (some ⟨g6, 0, none⟩) 2 c6]) rfl) (fun h => by cases h) (by simp) (Nat.le_trans HB6.out.size (by simp)) ?_; intro v7 w7 hr7 hg7; obtain ⟨g7, c7, rfl⟩ := row_formN hr7 2 rfl (by decide))
  have HB7 := Lib.hid (app_below (HB6.out.alloc HB6.out.size (.cells #[.slice (some ⟨g6, 0, none⟩) 2 c6] 53)) (HR36.out.alloc _) hg7 (Nat.le_refl _))
  obtain ⟨cs, kg3, _, _⟩ := row_blk (HR36.out.alloc (.cells #[.slice (some ⟨g6, 0, none⟩) 2 c6] 53))
  have HR17 := Lib.hid (World.ownsRow.kept (HR16.out.alloc (.cells #[.slice (some ⟨g6, 0, none⟩) 2 c6] 53)) hg7 (.inr (own_ne (HR16.out.alloc _) kg3 (by decide))))
  have HR67 := Lib.hid (World.ownsRow.kept (HR6.out.alloc (.cells #[.slice (some ⟨g6, 0, none⟩) 2 c6] 53)) hg7 (.inr (own_ne (HR6.out.alloc _) kg3 (by decide))))
  have HR7 : Hid (RowK kS w7 w.heap.size _ [⟨g1, 1, c1⟩, ⟨g6, 2, c6⟩]) := Lib.hid hr7
  clear hr7 hg7 kg3
  go_wp2
  rw [rounds_succ]
  go_wp2
  go_ret
  have R1 : RowK kN w7 w.heap.size (.slice (some ⟨g1, 0, none⟩) 1 c1) [1] := HR17.out
  have R6 : RowK kN w7 w3.heap.size (.slice (some ⟨g6, 0, none⟩) 2 c6) [1, 3] := HR67.out
  exact ⟨g7, c7, g1, c1, g6, c6, rfl, rowK_cells HR7.out rfl 0 (by simp) _ rfl, rowK_cells HR7.out rfl 1 (by simp) _ rfl, rowK_cells R1 rfl 0 (by simp) _ rfl, rowK_cells R6 rfl 0 (by simp) _ rfl, rowK_cells R6 rfl 1 (by simp) _ rfl, HB7.out⟩
end Go.Proofs.Ytpldeobobfbkiaa.Tlv
