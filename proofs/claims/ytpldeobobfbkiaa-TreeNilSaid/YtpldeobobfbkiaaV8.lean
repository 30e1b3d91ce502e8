/- An item put below a root that is split. -/
import Derived.Test.YtpldeobobfbkiaaV7
namespace Go.Proofs.Ytpldeobobfbkiaa.Tlv
open Go.RowKit
set_option maxRecDepth 100000
set_option linter.unusedVariables false
set_option linter.unusedSimpArgs false

theorem rows_ne {w : World} {b1 b2 : Nat} {v1 v2 : Value} {x y : It} {l : List It} (h1 : RowK kI w b1 v1 [x]) (h2 : RowK kI w b2 v2 (y :: l)) (h : x.v ≠ y.v) {k : Nat} (e1 : v1.ownBlock = some k) (e2 : v2.ownBlock = some k) : False := by
  obtain ⟨g, c, rfl⟩ := row_form h1 (by simp)
  obtain ⟨g2, c2, rfl⟩ := row_form h2 (by simp)
  have e1 : g = k := by simpa [Value.ownBlock] using e1
  have e2 : g2 = k := by simpa [Value.ownBlock] using e2
  subst e1 e2
  have a := (row_cells h1 (by simp)).2 0 (by simp) 1 _ rfl
  have b := (row_cells h2 (by simp)).2 0 (by simp) 1 _ rfl
  rw [a] at b
  simp at b
  exact h b
def PutSp (n0 T P N gN gC cN : Nat) (y z : Value) (x2 x3 x : It) (w : World) (e : Ending) (w' : World) : Prop :=
  ∃ vP vC vR R, e = .returned (.tuple #[.int .i64 0, .bool false]) ∧ Sp0 n0 T P N gC gN 0 cN y z vP vC 1 w w' ∧ RowK kI w' n0 vP [x2] ∧ RowK kP w' n0 vC [N, R] ∧ Blk w' R 44 #[vR, .slice none 0 0] ∧ RowK kI w' n0 vR [x3, x] ∧ w.heap.size ≤ R
/-- What a split needs to find. -/
structure SpIn (n0 T P N gC gN cC cN : Nat) (y z : Value) (x1 x2 x3 : It) (w : World) : Prop where
  t : Blk w T 24 #[.int .i64 2, y, z]
  p : Blk w P 44 #[.slice none 0 0, .slice (some ⟨gC, 0, none⟩) 1 cC]
  c : RowK kP w n0 (.slice (some ⟨gC, 0, none⟩) 1 cC) [N]
  n : Blk w N 44 #[.slice (some ⟨gN, 0, none⟩) 3 cN, .slice none 0 0]
  i : RowK kI w n0 (.slice (some ⟨gN, 0, none⟩) 3 cN) [x1, x2, x3]
  ne : P ≠ N
theorem SpIn.on {n0 T P N gC gN cC cN : Nat} {y z : Value} {x1 x2 x3 : It} {w w' : World} (h : SpIn n0 T P N gC gN cC cN y z x1 x2 x3 w) (hb : Below w.heap.size w w') : SpIn n0 T P N gC gN cC cN y z x1 x2 x3 w' :=
  ⟨h.t.on hb, h.p.on hb, h.c.on hb, h.n.on hb, h.i.on hb, h.ne⟩
theorem SpIn.lt {n0 T P N gC gN cC cN : Nat} {y z : Value} {x1 x2 x3 : It} {w : World} (h : SpIn n0 T P N gC gN cC cN y z x1 x2 x3 w) : ∀ k, SS P N gN gC k → k < w.heap.size := fun k hk => by
  obtain ⟨cg, kgN, _, _⟩ := row_blk h.i
  obtain ⟨cc, kgC, _, _⟩ := row_blk h.c
  rcases hk with e | e | e | e <;> subst e
  · exact h.p.lt
  · exact h.n.lt
  · exact kgN.lt
  · exact kgC.lt
theorem SpIn.key {n0 T P N gC gN cC cN : Nat} {y z : Value} {x1 x2 x3 : It} {w : World} (h : SpIn n0 T P N gC gN cC cN y z x1 x2 x3 w) {k : Nat} {i : Int} (hk : Key w k i) : ¬ SS P N gN gC k := fun hs => by
  obtain ⟨cg, kgN, _, _⟩ := row_blk h.i
  obtain ⟨cc, kgC, _, _⟩ := row_blk h.c
  rcases hs with e | e | e | e
  · exact hk.ne h.p (by decide) e
  · exact hk.ne h.n (by decide) e
  · exact hk.ne kgN (by decide) e
  · exact hk.ne kgC (by decide) e
theorem put_split_end {n0 T P N gC gN cC cN R gR cR : Nat} {y z vP vC vR' : Value} {x1 x2 x3 x : It} {w wA ws wf : World} (hw : SpIn n0 T P N gC gN cC cN y z x1 x2 x3 w) (hA : Below w.heap.size w wA)
    (sp : Sp0 n0 T P N gC gN 0 cN y z vP vC 1 wA ws) (rP : RowK kI ws n0 vP [x2]) (rC : RowK kP ws n0 vC [N, R]) (kR : Blk ws R 44 #[.slice (some ⟨gR, 0, none⟩) 1 cR, .slice none 0 0]) (rR : RowK kI ws wA.heap.size (.slice (some ⟨gR, 0, none⟩) 1 cR) [x3]) (hR : wA.heap.size ≤ R) (hv : x2.v ≠ x3.v)
    (FL : Fr (SL R (.slice (some ⟨gR, 0, none⟩) 1 cR)) ws wf) (k : Blk wf R 44 #[vR', .slice none 0 0]) (r : RowK kI wf n0 vR' ([x3] ++ [x])) : PutSp n0 T P N gN gC cN y z x2 x3 x w (.returned (.tuple #[.int .i64 0, .bool false])) wf := by
  obtain ⟨cg, kgR, _, hgR⟩ := row_blk rR
  have hwA : w.heap.size ≤ wA.heap.size := hA.size
  have hSL : ∀ k, SL R (.slice (some ⟨gR, 0, none⟩) 1 cR) k → k = R ∨ k = gR := fun k h => h.elim .inl fun h => .inr (by simpa [Value.ownBlock] using h.symm)
  have hnot : ∀ k, k < wA.heap.size → ¬ SL R (.slice (some ⟨gR, 0, none⟩) 1 cR) k := fun k hk h => by rcases hSL k h with e | e <;> omega
  have hPl := hw.p.lt
  have hNl := hw.n.lt
  have hTl := hw.t.lt
  refine ⟨vP, vC, vR', R, rfl, ⟨?_, FL.b sp.t (hnot _ (by omega)), FL.b sp.p (hnot _ (by omega)), FL.b sp.n (hnot _ (by omega))⟩, ?_, ?_, k, r, by omega⟩
  · refine ⟨(hA.mono (Nat.zero_le _)).trans (sp.fr.bel.trans FL.bel), fun k hk hs => ?_⟩
    exact (FL.blk k (Nat.lt_of_lt_of_le (Nat.lt_of_lt_of_le hk hwA) sp.fr.bel.size) (hnot k (by omega))).trans ((sp.fr.blk k (by omega) hs).trans (hA.block k hk))
  · refine FL.row rP fun k hk h => ?_
    rcases hSL k h with e | e <;> subst e
    · exact own_ne rP kR (by decide) hk
    · exact rows_ne rP rR hv hk (by simp [Value.ownBlock])
  · refine FL.row rC fun k hk h => ?_
    rcases hSL k h with e | e <;> subst e
    · exact own_ne rC kR (by decide) hk
    · exact own_ne rC kgR (by decide) hk
set_option maxHeartbeats 8000000 in
theorem put_split (n0 T P N gC gN cC cN b c : Nat) (v i2 i3 t : Int) (y z : Value) (x1 x2 x3 : It) (w : World)
    (hw : SpIn n0 T P N gC gN cC cN y z x1 x2 x3 w) (h0 : n0 ≤ w.heap.size) (hv : x2.v ≠ x3.v)
    (k2 : Key w x2.b i2) (k3 : Key w x3.b i3) (kt : Key w b t) (e2 : cmpI i2 t = -1) (e3 : cmpI i3 t = -1) :
    Calls Try.prog 16 #[.pointer (some ⟨T, 0, none⟩), .pointer (some ⟨P, 0, none⟩), .agg #[keyV b c, .int .i64 v]] w (PutSp n0 T P N gN gC cN y z x2 x3 ⟨b, c, v⟩ w) := by
  have hb : Below w.heap.size w (w.alloc (.cells #[keyV b c, .int .i64 v] 48)) := (Below.refl _ _).alloc (Nat.le_refl _) _
  have HX1 := Lib.hid (find0 P b c _ t w hw.p kt _ hb)
  obtain ⟨gc, off, e, hgC, hCc⟩ := hw.c.cap.2.2.2 (by simp)
  injection e with e
  injection e with e1 e2 _
  subst e1 e2
  have hc0 : w.cell? ⟨gC, 0, none⟩ = some (.pointer (some ⟨N, 0, none⟩)) := by simpa using hCc 0 (by simp) 0 _ rfl
  have HB := Lib.hid (And.intro hb (Blk.new w 48 #[keyV b c, .int .i64 v]))
  have HT := Lib.hid fun (W : World) (h : Below w.heap.size w W) => And.intro (hw.on h) ((h.cell (p := ⟨gC, 0, none⟩) hgC).trans hc0)
  have HW := Lib.hid hw
  have HK := Lib.hid (And.intro k2 (And.intro k3 (And.intro kt (And.intro e2 (And.intro e3 hv)))))
  have H00 := Lib.hid h0
  clear hb hw hCc hgC hc0 k2 k3 kt e2 e3 h0 hv
  go_enter Try.func16, Try.ntmps16
  go_wp2
  refine wp_loop_rounds 3 ?_
  rw [rounds_succ]
  go_upto_region 9 with (first
    | (go_at_call 18; with_reducible refine HX1.out.mono ?_; rintro e w1 ⟨rfl, hb1⟩; dsimp only; have HB0 := Lib.hid (And.intro (HB.out.1.trans (hb1.mono HB.out.1.size)) (HB.out.2.on hb1)); clear hb1)
    | (go_at_call 19; (with_reducible refine (leaf_any _ _ _ _ _ _ (HT.out _ HB0.out.1).1.p).mono ?_); rintro e w2 ⟨rfl, rfl⟩; dsimp only))
  have p1 := (HT.out _ HB0.out.1).1.p.cell 1
  simp only [List.getElem?_toArray, List.getElem?_cons_zero, List.getElem?_cons_succ] at p1
  have p2 := (HT.out _ HB0.out.1).2
  have hn3 : (((3 : Nat) : Int) == 3) = true := rfl
  go_upto_region 10 with (go_at_call 15; (with_reducible refine (full_any _ _ _ _ _ _ _ _ _ (HT.out _ HB0.out.1).1.t (HT.out _ HB0.out.1).1.n).mono ?_); rintro e w2 ⟨rfl, m, rfl⟩; dsimp only; rw [hn3])
  have HBa := Lib.hid (And.intro (below_drewN HB0.out.1 m) (HB0.out.2.drewN m))
  clear p1 p2 hn3 HX1
  generalize w1.drewN m = wA at HBa ⊢
  have hA := (HT.out _ HBa.out.1).1
  have HS := Lib.hid (split_any n0 T P N gC gN cC cN y z x1 x2 x3 wA hA.t hA.p hA.c hA.n hA.i (Nat.le_trans H00.out HBa.out.1.size) hA.ne)
  clear hA
  go_wp2_with (go_at_call 28; (with_reducible refine HS.out.mono ?_); rintro e ws ⟨vP, vC, vR, R, rfl, sp, rP, rC, kR, rR, hR⟩; dsimp only)
  have hkey : ∀ (k : Nat) (i : Int), Key w k i → Key ws k i := fun k i hk => sp.fr.key (hk.on HBa.out.1) (HW.out.key hk)
  have kB := sp.fr.b HBa.out.2 (fun h => by have := HW.out.lt _ h; omega)
  have hnA : n0 ≤ wA.heap.size := Nat.le_trans H00.out HBa.out.1.size
  have HX := Lib.hid (find1 R b c _ _ vR x3 i3 t ws kR rR (hkey _ _ HK.out.2.1) (hkey _ _ HK.out.2.2.1) HK.out.2.2.2.2.1)
  have HX1 := Lib.hid (find1 P b c n0 _ vP x2 i2 t ws sp.p rP (hkey _ _ HK.out.1) (hkey _ _ HK.out.2.2.1) HK.out.2.2.2.1 ws (Below.refl _ _))
  obtain ⟨gP, cP, rfl⟩ := row_form rP (by simp)
  obtain ⟨gC2, cC2, rfl⟩ := row_form rC (by simp)
  obtain ⟨gR, cR, rfl⟩ := row_form rR (by simp)
  simp only [List.length_cons, List.length_nil, Nat.reduceAdd] at sp rP rC kR rR
  obtain ⟨gc, off, e, hgC, hCc⟩ := rC.cap.2.2.2 (by simp)
  injection e with e
  injection e with e1 e2 _
  subst e1 e2
  have hc1 : ws.cell? ⟨gC2, 1, none⟩ = some (.pointer (some ⟨R, 0, none⟩)) := by simpa [kP] using hCc 1 (by simp) 0 _ rfl
  have HT2 := Lib.hid fun (W : World) (h : Below ws.heap.size ws W) => And.intro (sp.t.on h) (And.intro (sp.p.on h) (And.intro (kR.on h) ((h.cell (p := ⟨gC2, 1, none⟩) hgC).trans hc1)))
  have HB2 := Lib.hid (And.intro (Below.refl ws.heap.size ws) (And.intro kB (And.intro kR (rR.low hnA))))
  have H0 := Lib.hid (show n0 ≤ ws.heap.size ∧ [x3].length ≤ 900 from ⟨Nat.le_trans hnA sp.fr.bel.size, by simp⟩)
  have HSP := Lib.hid (And.intro sp (And.intro rP (And.intro rC (And.intro kR (And.intro rR hR)))))
  have b0 := kB.cell 0
  simp only [List.getElem?_toArray, List.getElem?_cons_zero, List.getElem?_cons_succ] at b0
  clear sp rP rC hR kB kR rR hkey hc1 hCc hgC HB HB0 HT HS hnA
  rw [rounds_succ]
  go_upto_region 9 with (first
    | (go_at_call 18; with_reducible refine HX1.out.mono ?_; rintro e wq ⟨rfl, hb1⟩; dsimp only; have HB3 := Lib.hid (And.intro (HB2.out.1.trans (hb1.mono HB2.out.1.size)) (And.intro (HB2.out.2.1.on hb1) (And.intro (HB2.out.2.2.1.on hb1) (HB2.out.2.2.2.on hb1)))); clear hb1)
    | (go_at_call 19; (with_reducible refine (leaf_any _ _ _ _ _ _ (HT2.out _ HB3.out.1).2.1).mono ?_); rintro e wq2 ⟨rfl, rfl⟩; dsimp only))
  clear b0
  have p1 := (HT2.out _ HB3.out.1).2.1.cell 1
  simp only [List.getElem?_toArray, List.getElem?_cons_zero, List.getElem?_cons_succ] at p1
  have p2 := (HT2.out _ HB3.out.1).2.2.2
  have hn1 : (((1 : Nat) : Int) == 3) = false := rfl
  go_wp2_with (go_at_call 15; (with_reducible refine (full_any _ _ _ _ _ _ _ _ _ (HT2.out _ HB3.out.1).1 (HT2.out _ HB3.out.1).2.2.1).mono ?_); rintro e wq2 ⟨rfl, m2, rfl⟩; dsimp only; rw [hn1])
  have HBz := Lib.hid (And.intro (below_drewN HB3.out.1 m2) (And.intro (HB3.out.2.1.drewN m2) (And.intro (HB3.out.2.2.1.drewN m2) (HB3.out.2.2.2.drewN m2))))
  have HFr := Lib.hid (Fr.of (S := SL R (.slice (some ⟨gR, 0, none⟩) 1 cR)) HBz.out.1)
  clear HB2 HB3 HX1 p1 p2 hn1
  rw [rounds_succ]
  have HXz := Lib.hid (HX.out _ HBz.out.1)
  have b0 := HBz.out.2.1.cell 0
  simp only [List.getElem?_toArray, List.getElem?_cons_zero, List.getElem?_cons_succ] at b0
  go_upto_region 7 with (first
    | (go_at_call 18; with_reducible refine HXz.out.mono ?_; rintro e wl1 ⟨rfl, hb1⟩; dsimp only; have HB1 := Lib.hid (And.intro (HBz.out.1.trans (hb1.mono HBz.out.1.size)) (And.intro (HBz.out.2.1.on hb1) (And.intro (HBz.out.2.2.1.on hb1) (HBz.out.2.2.2.on hb1)))); have HFr1 := Lib.hid (HFr.out.trans (Fr.of hb1)); clear hb1)
    | (go_at_call 19; (with_reducible refine (leaf_any _ _ _ _ _ _ HB1.out.2.2.1).mono ?_); rintro e wl2 ⟨rfl, rfl⟩; dsimp only))
  clear b0
  have b0 := HB1.out.2.1.cell 0
  have b1 := HB1.out.2.1.cell 1
  have n0c := HB1.out.2.2.1.cell 0
  simp only [List.getElem?_toArray, List.getElem?_cons_zero, List.getElem?_cons_succ] at b0 b1 n0c
  have hC0 : Calls Try.prog 27 #[.slice (some ⟨gR, 0, none⟩) 1 cR, .int .i64 1, .slice (some ⟨wl1.heap.size, 0, none⟩) 1 1] ((wl1.alloc (.cells #[keyV b c, .int .i64 v] 48)).drew) (InsOut kI n0 (.slice (some ⟨gR, 0, none⟩) 1 cR) ([x3] ++ [⟨b, c, v⟩]) ((wl1.alloc (.cells #[keyV b c, .int .i64 v] 48)).drew)) := insI n0 1 cR (some ⟨gR, 0, none⟩) [x3] ⟨b, c, v⟩ wl1.heap.size 1 ((wl1.alloc (.cells #[keyV b c, .int .i64 v] 48)).drew) (HB1.out.2.2.2.alloc _).drew (rd_one _ (Blk.new wl1 48 #[keyV b c, .int .i64 v]).drew rfl) (by simp) (Nat.le_trans H0.out.1 (Nat.le_trans HB1.out.1.size (by simp)))
  have HC := Lib.hid hC0
  clear hC0
  clear HX HXz
  have HNN := Lib.hid ((HB1.out.2.2.1.alloc (.cells #[keyV b c, .int .i64 v] 48)).drew)
  have hne := own_ne (HB1.out.2.2.2.alloc (.cells #[keyV b c, .int .i64 v] 48)).drew HNN.out (by decide)
  have HE := Lib.hid hne
  clear hne
  have n1c := (HB1.out.2.2.1.alloc (.cells #[keyV b c, .int .i64 v] 48)).cell 0
  have n2c := HNN.out.cell 0
  simp only [List.getElem?_toArray, List.getElem?_cons_zero, List.getElem?_cons_succ] at n1c n2c
  have HA := Lib.hid ((Below.refl wl1.heap.size wl1).alloc (Nat.le_refl _) (.cells #[keyV b c, .int .i64 v] 48))
  go_region_law (first
    | (go_simp; (with_reducible refine HC.out.mono ?_); rintro e w4 ⟨v', rfl, hr4, hg4⟩; dsimp only; clear HC b0 b1 n0c n1c n2c; obtain ⟨A4, c4, n4, hn4, rfl, _, _⟩ := hr4.rdn; have kN4 := Lib.hid (HNN.out.grown hg4 (fun e => HE.out e.symm)); have n0c := kN4.out.cell 0; have n0f := kN4.out.frozen 0; simp only [List.getElem?_toArray, List.getElem?_cons_zero, List.getElem?_cons_succ] at n0c; have H4 := Lib.hid (And.intro hr4 hg4); clear hr4 hg4))
  all_goals
    go_wp2
    go_ret2
    have k := kN4.out.set_ 0 (.slice A4 n4 c4)
    have FL : Fr (SL R (.slice (some ⟨gR, 0, none⟩) 1 cR)) ws (w4.setCell ⟨R, 0, none⟩ (.slice A4 n4 c4)) := by
      refine Fr.set ?_ (.inl rfl) _
      refine Fr.grown (w' := (wl1.alloc (.cells #[keyV b c, .int .i64 v] 48)).drew) (HFr1.out.trans (Fr.of (below_drew HA.out))) H4.out.2 (fun k hk => .inr hk)
    exact put_split_end HW.out HBa.out.1 HSP.out.1 HSP.out.2.1 HSP.out.2.2.1 HSP.out.2.2.2.1 HSP.out.2.2.2.2.1 HSP.out.2.2.2.2.2 HK.out.2.2.2.2.2 FL (by simpa using k) (H4.out.1.set (own_ne H4.out.1 kN4.out (by decide)) _)
end Go.Proofs.Ytpldeobobfbkiaa.Tlv
