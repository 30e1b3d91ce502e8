/- A node's split. -/
import Derived.Test.YtpldeobobfbkiaaV5
import Derived.Laws.IdiomCopy
namespace Go.Proofs.Ytpldeobobfbkiaa.Tlv
open Go.RowKit
set_option maxRecDepth 100000
set_option linter.unusedVariables false
set_option linter.unusedSimpArgs false

theorem run_clear2 (w : World) (b o c : Nat) (ty : TypeId)
    (hc : ∀ j, j < 4 → (w.cell? ⟨b, o + j, none⟩).isSome = true) (hf : ∀ j, j < 4 → w.frozen? ⟨b, o + j, none⟩ = false) :
    (Builtin.clear_ #[42] ty #[.slice (some ⟨b, o, none⟩) 2 c]).run Try.prog w = .ok (.tuple #[]) (w.setCells b o [.slice none 0 0, .int .i64 0, .slice none 0 0, .int .i64 0]) := by
  have hz : ∀ w, (zeroValue 48).run Try.prog w = .ok (.agg #[.slice none 0 0, .int .i64 0]) w := Try.zeroValue48
  have hst := run_storeCells_cells (P := Try.prog) b o [.slice none 0 0, .int .i64 0, .slice none 0 0, .int .i64 0] 0 w (by simpa using hc) (by simpa using hf) (by intro v hv; simp at hv; rcases hv with rfl | rfl | rfl | rfl <;> rfl)
  simp only [Nat.add_zero] at hst
  have hzc : (Builtin.zeroCells (Value.agg #[.slice none 0 0, .int .i64 0]).cells 2).toList = [.slice none 0 0, .int .i64 0, .slice none 0 0, .int .i64 0] := by kernel_rfl
  simp [Builtin.clear_, run_underlying Try.underlying42, hz, hzc, hst]
/-- What a split writes. -/
def SS (P N gN gC : Nat) : Nat → Prop := fun k => k = P ∨ k = N ∨ k = gN ∨ k = gC
structure Sp0 (n0 T P N gC gN cC cN : Nat) (y z vP vC : Value) (nN : Nat) (w0 w : World) : Prop where
  fr : Fr (SS P N gN gC) w0 w
  t : Blk w T 24 #[.int .i64 2, y, z]
  p : Blk w P 44 #[vP, vC]
  n : Blk w N 44 #[.slice (some ⟨gN, 0, none⟩) nN cN, .slice none 0 0]
def SplitOut (n0 T P N gN cN : Nat) (y z : Value) (gC : Nat) (x2 x3 : It) (w : World) (e : Ending) (w' : World) : Prop :=
  ∃ vP vC vR R, e = .returned (.tuple #[]) ∧ Sp0 n0 T P N gC gN 0 cN y z vP vC 1 w w' ∧ RowK kI w' n0 vP [x2] ∧ RowK kP w' n0 vC [N, R] ∧ Blk w' R 44 #[vR, .slice none 0 0] ∧ RowK kI w' w.heap.size vR [x3] ∧ w.heap.size ≤ R
theorem row_cells {w : World} {base n c g : Nat} {l : List It} (h : RowK kI w base (.slice (some ⟨g, 0, none⟩) n c) l) (hp : 0 < l.length) : g < w.heap.size ∧ ∀ j, j < l.length → ∀ (i : Nat) (u : Value), (kI.cs (l.getD j default))[i]? = some u → w.cell? ⟨g, j * 2 + i, none⟩ = some u := by
  obtain ⟨b, off, e, hlt, hc⟩ := h.cap.2.2.2 hp
  injection e with e
  injection e with e1 e2 _
  subst e1 e2
  refine ⟨hlt, fun j hj i u hu => ?_⟩
  have := hc j hj i u hu
  simpa [kI] using this
theorem blk_ne {w : World} {g g' : Nat} {t t' : TypeId} {cs cs' : Array Value} (h : Blk w g t cs) (h' : Blk w g' t' cs') (ht : t ≠ t') : g ≠ g' := fun e => by
  subst e
  unfold Blk at h h'
  rw [h] at h'
  injection h' with h'
  injection h' with _ h3
  exact ht h3
theorem row_blk {α : Type} {K : Kind α} {w : World} {base n c g : Nat} {l : List α} (h : RowK K w base (.slice (some ⟨g, 0, none⟩) n c) l) : ∃ cs, Blk w g K.e cs ∧ cs.size = c * K.size ∧ base ≤ g := by
  rcases h.2 with ⟨e, _⟩ | ⟨g', cap, cur, e, hb, hh, _, _, hcs, _⟩
  · cases e
  · injection e with e1 _ e3
    injection e1 with e1
    injection e1 with e1 _ _
    subst e1 e3
    exact ⟨cur, hh, hcs, hb⟩
theorem fr_cells {S : Nat → Prop} {g : Nat} (hg : S g) : ∀ (vs : List Value) (o : Nat) (w w' : World), Fr S w w' → Fr S w (w'.setCells g o vs)
  | [], _, _, _, h => h
  | v :: r, o, w, w', h => by
    rw [World.setCells]
    exact fr_cells hg r (o + 1) _ _ (h.set hg v)
theorem Fr.refl {S : Nat → Prop} (w : World) : Fr S w w := Fr.of (Below.refl _ _)
theorem Fr.drew {S : Nat → Prop} {w w' : World} (h : Fr S w w') : Fr S w w'.drew := h.trans (Fr.of (below_drew (Below.refl _ _)))
theorem own_hi {α : Type} {K : Kind α} {w : World} {base k g : Nat} {v : Value} {l : List α} (h : RowK K w base v l) (hk : v.ownBlock = some k) (hg : g < base) : k ≠ g := fun e => by
  subst e
  have := (World.ownsRow.lt h k hk).1
  omega
set_option maxHeartbeats 8000000 in
theorem split_any (n0 T P N gC gN cC cN : Nat) (y z : Value) (x1 x2 x3 : It) (w : World)
    (hT : Blk w T 24 #[.int .i64 2, y, z]) (hP : Blk w P 44 #[.slice none 0 0, .slice (some ⟨gC, 0, none⟩) 1 cC]) (hC : RowK kP w n0 (.slice (some ⟨gC, 0, none⟩) 1 cC) [N])
    (hN : Blk w N 44 #[.slice (some ⟨gN, 0, none⟩) 3 cN, .slice none 0 0]) (hI : RowK kI w n0 (.slice (some ⟨gN, 0, none⟩) 3 cN) [x1, x2, x3]) (h0 : n0 ≤ w.heap.size) (hPN : P ≠ N) :
    Calls Try.prog 28 #[.pointer (some ⟨T, 0, none⟩), .pointer (some ⟨P, 0, none⟩), .int .i64 0] w (SplitOut n0 T P N gN cN y z gC x2 x3 w) := by
  obtain ⟨hgN, hI0⟩ := row_cells hI (by simp)
  have i2 : w.cell? ⟨gN, 2, none⟩ = some (keyV x2.b x2.c) := by simpa using hI0 1 (by simp) 0 _ rfl
  have i3 : w.cell? ⟨gN, 3, none⟩ = some (.int .i64 x2.v) := by simpa using hI0 1 (by simp) 1 _ rfl
  have hcN : 3 ≤ cN := hI.cap.2.1
  obtain ⟨gc, off, e, hgC, hCc⟩ := hC.cap.2.2.2 (by simp)
  injection e with e
  injection e with e1 e2 _
  subst e1 e2
  have c0 : w.cell? ⟨gC, 0, none⟩ = some (.pointer (some ⟨N, 0, none⟩)) := by simpa using hCc 0 (by simp) 0 _ rfl
  have p1 := hP.cell 1
  have t0 := hT.cell 0
  have n00 := hN.cell 0
  simp only [List.getElem?_toArray, List.getElem?_cons_zero, List.getElem?_cons_succ] at p1 t0 n00
  have t0a : ∀ o, (w.alloc o).cell? ⟨T, 0, none⟩ = some (.int .i64 2) := fun o => (hT.alloc o).cell 0
  have n0a : ∀ o, (w.alloc o).cell? ⟨N, 0, none⟩ = some (.slice (some ⟨gN, 0, none⟩) 3 cN) := fun o => (hN.alloc o).cell 0
  have i2a : ∀ o, (w.alloc o).cell? ⟨gN, 2, none⟩ = some (keyV x2.b x2.c) := fun o => (((Below.refl w.heap.size w).alloc (Nat.le_refl _) o).cell (p := ⟨gN, 2, none⟩) hgN).trans i2
  have i3a : ∀ o, (w.alloc o).cell? ⟨gN, 3, none⟩ = some (.int .i64 x2.v) := fun o => (((Below.refl w.heap.size w).alloc (Nat.le_refl _) o).cell (p := ⟨gN, 3, none⟩) hgN).trans i3
  have hw1 : IntKind.i64.wrap 1 = 1 := by decide
  have HT := Lib.hid (And.intro hT (And.intro hP (And.intro hC (And.intro hN hI))))
  have H0 := Lib.hid (And.intro h0 hPN)
  clear hT hP hC hN hI h0 hPN hCc hI0
  go_enter Try.func28, Try.ntmps28
  go_upto_region 1 with fail
  go_cut [7] (fun s7 wx => s7 = .pointer (some ⟨w.heap.size, 0, none⟩) ∧ Below w.heap.size w wx ∧ Blk wx w.heap.size 48 #[keyV x2.b x2.c, .int .i64 x2.v])
  case first =>
    go_region_law fail
    all_goals
      go_wp2_with fail
      go_meet
      case rel => exact ⟨rfl, below_drew ((Below.refl _ _).alloc (Nat.le_refl _) _), (Blk.new w 48 #[keyV x2.b x2.c, .int .i64 x2.v]).drew⟩
  case rest =>
  obtain ⟨wa, hwa⟩ : ∃ wa : World, wa = wc := ⟨_, rfl⟩
  subst hwa
  obtain ⟨rfl, hb1, km⟩ := hcut
  clear t0a n0a i2a i3a t0 n00 c0 p1
  obtain ⟨M, hM⟩ : ∃ M, M = w.heap.size := ⟨_, rfl⟩
  have HM := Lib.hid hM
  rw [← hM] at km ⊢
  have t0 := (HT.out.1.on hb1).cell 0
  have n00 := (HT.out.2.2.2.1.on hb1).cell 0
  simp only [List.getElem?_toArray, List.getElem?_cons_zero, List.getElem?_cons_succ] at t0 n00
  have HI := HT.out.2.2.2.2
  have hx3 : RdK kI wa wa.heap.size (some ⟨gN, 4, none⟩) [x3] := fun _ => ⟨gN, 4, rfl, Nat.lt_of_lt_of_le hgN hb1.size, fun j hj i u hu => by
    have hj0 : j = 0 := by simpa using hj
    subst hj0
    have := (row_cells HI (by simp)).2 2 (by simp) i u hu
    refine (hb1.cell (p := ⟨gN, 4 + 0 * kI.size + i, none⟩) hgN).trans ?_
    simpa [kI] using this⟩
  have HC := Lib.hid (cloneI gN 4 (cN - 2) x3 wa.drew hx3)
  have hc2 : ¬ cN = 2 := by omega
  have HB1 := Lib.hid (And.intro hb1 km)
  clear HI hx3 hb1 km hM
  go_upto_region 2 with fail
  go_cut [8] (fun s8 wx => ∃ R A c n, s8 = .pointer (some ⟨R, 0, none⟩) ∧ Below w.heap.size w wx ∧ Below wa.heap.size wa wx ∧ Blk wx R 44 #[.slice A n c, .slice none 0 0] ∧ RowK kI wx w.heap.size (.slice A n c) [x3] ∧ w.heap.size ≤ R)
  case first =>
    go_region_law (first
      | (go_simp; (with_reducible refine HC.out.mono ?_); clear HC t0 n00; rintro e w2 ⟨⟨v2, rfl, hr2⟩, hb2⟩; dsimp only; obtain ⟨A2, c2, n2, hn2, rfl, _, _⟩ := hr2.rdn; have H2 := Lib.hid (And.intro hr2 hb2); clear hr2 hb2))
    all_goals
      go_wp2_with fail
      go_meet
      case rel =>
      have hb := (below_drew (Below.refl wa.heap.size wa)).trans H2.out.2
      have hb' := hb.alloc hb.size (.cells #[.slice A2 n2 c2, .slice none 0 0] 44)
      refine ⟨w2.heap.size, A2, c2, n2, rfl, HB1.out.1.trans (hb'.mono HB1.out.1.size), hb', Blk.new w2 44 #[.slice A2 n2 c2, .slice none 0 0], (H2.out.1.low HB1.out.1.size).alloc _, Nat.le_trans HB1.out.1.size hb.size⟩
  case rest =>
  obtain ⟨wd, hwd⟩ : ∃ wd : World, wd = wc := ⟨_, rfl⟩
  subst hwd
  obtain ⟨R, A2, c2, n2, rfl, hb2, hbw, kR, rR, hR⟩ := hcut
  clear HC hc2 t0 n00
  obtain ⟨cur, kgN, hcs, _⟩ := row_blk HT.out.2.2.2.2
  have kgD := kgN.on hb2
  have hclr : ∀ ty, (Builtin.clear_ #[42] ty #[.slice (some ⟨gN, 2, none⟩) 2 (cN - 1)]).run Try.prog wd.drew = .ok (.tuple #[]) (wd.drew.setCells gN 2 [.slice none 0 0, .int .i64 0, .slice none 0 0, .int .i64 0]) := fun ty => run_clear2 wd.drew gN 2 (cN - 1) ty
    (fun j hj => by rw [kgD.drew.cell]; simp; simp [kI] at hcs; omega) (fun j hj => kgD.drew.frozen _)
  have t0 := (HT.out.1.on hb2).cell 0
  have n00 := (HT.out.2.2.2.1.on hb2).cell 0
  simp only [List.getElem?_toArray, List.getElem?_cons_zero, List.getElem?_cons_succ] at t0 n00
  have hc2 : ¬ cN = 1 := by omega
  have HD := Lib.hid (And.intro hb2 (And.intro kR (And.intro rR (And.intro hR (And.intro kgD (HB1.out.2.on hbw))))))
  have HG := Lib.hid kgN
  clear hb2 hbw kR rR hR kgD kgN hcs
  go_upto_region 3 with fail
  go_cut [8] (fun s8 wx => s8 = .pointer (some ⟨R, 0, none⟩) ∧ Fr (fun k => k = gN) wd wx)
  case first =>
    go_region_law fail
    all_goals
      go_wp2_with fail
      go_meet
      case rel => exact ⟨rfl, fr_cells (S := fun k => k = gN) rfl _ _ _ _ (Fr.refl _).drew⟩
  case rest =>
  obtain ⟨we, hwe⟩ : ∃ we : World, we = wc := ⟨_, rfl⟩
  subst hwe
  obtain ⟨rfl, F3⟩ := hcut
  clear hclr t0 n00 hc2
  have hNlt : N < w.heap.size := HT.out.2.2.2.1.lt
  have hNg : ¬ N = gN := blk_ne HT.out.2.2.2.1 HG.out (by decide)
  have hTg : ¬ T = gN := blk_ne HT.out.1 HG.out (by decide)
  have kNe := F3.b (HT.out.2.2.2.1.on HD.out.1) hNg
  have t0 := (F3.b (HT.out.1.on HD.out.1) hTg).cell 0
  have n00 := kNe.cell 0
  have n0f := kNe.frozen 0
  simp only [List.getElem?_toArray, List.getElem?_cons_zero, List.getElem?_cons_succ] at t0 n00
  have H3 := Lib.hid (And.intro F3 (And.intro kNe hNlt))
  have hc1 : (1 : Int) ≤ cN := by omega
  clear F3 kNe hNlt hNg hTg
  go_upto_region 4 with fail
  go_cut [8] (fun s8 wx => s8 = .pointer (some ⟨R, 0, none⟩) ∧ Fr (fun k => k = N) we wx ∧ Blk wx N 44 #[.slice (some ⟨gN, 0, none⟩) 1 cN, .slice none 0 0])
  case first =>
    go_region_law fail
    all_goals
      go_wp2_with fail
      go_meet
      case rel =>
      have k := H3.out.2.1.set_ 0 (.slice (some ⟨gN, 0, none⟩) 1 cN)
      exact ⟨rfl, by first | exact Fr.set (S := fun k => k = N) (Fr.refl _).drew rfl _ | exact (Fr.set (S := fun k => k = N) (Fr.refl _) rfl _).drew, by first | simpa using k.drew | simpa using k⟩
  case rest =>
  obtain ⟨wf, hwf⟩ : ∃ wf : World, wf = wc := ⟨_, rfl⟩
  subst hwf
  obtain ⟨rfl, F4, kNf⟩ := hcut
  clear t0 n00 n0f
  have hMN : ¬ M = N := by have := HM.out; have := H3.out.2.2; omega
  have hMg : ¬ M = gN := by have := HM.out; omega
  have hPN : ¬ P = N := H0.out.2
  have hPg : ¬ P = gN := blk_ne HT.out.2.1 HG.out (by decide)
  have kPf := F4.b (H3.out.1.b (HT.out.2.1.on HD.out.1) hPg) hPN
  have kMf := F4.b (H3.out.1.b HD.out.2.2.2.2.2 hMg) hMN
  have HF := Lib.hid (And.intro F4 (And.intro kNf (And.intro kPf kMf)))
  clear F4 kNf kPf kMf hMN hMg hPN hPg
  go_upto_region 9 with (go_at_call 19; (with_reducible refine (leaf_any _ _ _ _ _ _ HF.out.2.1).mono ?_); rintro e w2 ⟨rfl, rfl⟩; dsimp only)
  have p0 := HF.out.2.2.1.cell 0
  have q0 := (HF.out.2.2.1.alloc (.cells #[keyV x2.b x2.c, .int .i64 x2.v] 48)).cell 0
  have q1 := (HF.out.2.2.1.alloc (.cells #[keyV x2.b x2.c, .int .i64 x2.v] 48)).drew.cell 0
  have m0 := HF.out.2.2.2.cell 0
  have m1 := HF.out.2.2.2.cell 1
  simp only [List.getElem?_toArray, List.getElem?_cons_zero, List.getElem?_cons_succ] at p0 q0 q1 m0 m1
  have hC0 : Calls Try.prog 27 #[.slice none 0 0, .int .i64 0, .slice (some ⟨wf.heap.size, 0, none⟩) 1 1] ((wf.alloc (.cells #[keyV x2.b x2.c, .int .i64 x2.v] 48)).drew) (InsOut kI n0 (.slice none 0 0) ([] ++ [x2]) ((wf.alloc (.cells #[keyV x2.b x2.c, .int .i64 x2.v] 48)).drew)) := insI n0 0 0 none [] x2 wf.heap.size 1 ((wf.alloc (.cells #[keyV x2.b x2.c, .int .i64 x2.v] 48)).drew) (nil_row _ _ _) (rd_one _ (Blk.new wf 48 #[keyV x2.b x2.c, .int .i64 x2.v]).drew rfl) (by simp) (Nat.le_trans H0.out.1 (Nat.le_trans HD.out.1.size (Nat.le_trans H3.out.1.bel.size (Nat.le_trans HF.out.1.bel.size (by simp)))))
  have HC := Lib.hid hC0
  clear hC0
  have HPP := Lib.hid ((HF.out.2.2.1.alloc (.cells #[keyV x2.b x2.c, .int .i64 x2.v] 48)).drew)
  go_cut [8] (fun s8 wx => s8 = .pointer (some ⟨R, 0, none⟩) ∧ ∃ A c n, Fr (fun k => k = P) wf wx ∧ Blk wx P 44 #[.slice A n c, .slice (some ⟨gC, 0, none⟩) 1 cC] ∧ RowK kI wx n0 (.slice A n c) [x2])
  case first =>
    go_region_law (first
      | (go_simp; (with_reducible refine HC.out.mono ?_); rintro e w4 ⟨v', rfl, hr4, hg4⟩; dsimp only; clear HC p0 q0 q1 m0 m1; obtain ⟨A4, c4, n4, hn4, rfl, _, _⟩ := hr4.rdn; have kP4 := Lib.hid (HPP.out.grown hg4 (fun e => by cases e)); have p0 := kP4.out.cell 0; have p0f := kP4.out.frozen 0; simp only [List.getElem?_toArray, List.getElem?_cons_zero, List.getElem?_cons_succ] at p0; have H4 := Lib.hid (And.intro hr4 hg4); clear hr4 hg4))
    all_goals
      go_wp2_with fail
      go_meet
      case rel =>
      have k := kP4.out.set_ 0 (.slice A4 n4 c4)
      refine ⟨rfl, A4, c4, n4, ?_, by simpa using k, H4.out.1.set (own_ne H4.out.1 kP4.out (by decide)) _⟩
      refine Fr.set (S := fun k => k = P) (Fr.grown (w' := (wf.alloc (.cells #[keyV x2.b x2.c, .int .i64 x2.v] 48)).drew) (Fr.of (below_drew ((Below.refl _ _).alloc (Nat.le_refl _) _))) H4.out.2 (fun k hk => by cases hk)) rfl _
  case rest =>
  obtain ⟨wg, hwg⟩ : ∃ wg : World, wg = wc := ⟨_, rfl⟩
  subst hwg
  obtain ⟨rfl, A9, c9, n9, F9, kP9, r9⟩ := hcut
  clear HC HPP p0 q0 q1 m0 m1
  obtain ⟨cc, kgC, _, _⟩ := row_blk HT.out.2.2.1
  have hCg : ¬ gC = gN := blk_ne kgC HG.out (by decide)
  have hCN : ¬ gC = N := blk_ne kgC HT.out.2.2.2.1 (by decide)
  have hCP : ¬ gC = P := blk_ne kgC HT.out.2.1 (by decide)
  have rC := (HF.out.1.row (H3.out.1.row (HT.out.2.2.1.on HD.out.1) (fun k hk => by injection hk with hk; subst hk; exact hCg)) (fun k hk => by injection hk with hk; subst hk; exact hCN))
  have rCg := F9.row rC (fun k hk => by injection hk with hk; subst hk; exact hCP)
  have H9 := Lib.hid (And.intro F9 (And.intro kP9 (And.intro r9 rCg)))
  have hCc := Lib.hid (And.intro hCg (And.intro hCN (And.intro hCP kgC)))
  clear F9 kP9 r9 rC rCg hCg hCN hCP kgC
  have p1 := H9.out.2.1.cell 1
  simp only [List.getElem?_toArray, List.getElem?_cons_zero, List.getElem?_cons_succ] at p1
  have hsz : n0 ≤ wg.heap.size := Nat.le_trans H0.out.1 (Nat.le_trans HD.out.1.size (Nat.le_trans H3.out.1.bel.size (Nat.le_trans HF.out.1.bel.size H9.out.1.bel.size)))
  have hC0 : Calls Try.prog 42 #[.slice (some ⟨gC, 0, none⟩) 1 cC, .int .i64 1, .slice (some ⟨wg.heap.size, 0, none⟩) 1 1] (wg.alloc (.cells #[.pointer (some ⟨R, 0, none⟩)] 22)) (InsOut kP n0 (.slice (some ⟨gC, 0, none⟩) 1 cC) ([N] ++ [R]) (wg.alloc (.cells #[.pointer (some ⟨R, 0, none⟩)] 22))) :=
    insP n0 1 cC (some ⟨gC, 0, none⟩) [N] R wg.heap.size 1 _ (H9.out.2.2.2.alloc _) (rd_one (K := kP) R (Blk.new wg 22 #[.pointer (some ⟨R, 0, none⟩)]) rfl) (by simp) (Nat.le_trans hsz (by simp))
  have HE : Hid ((Value.slice (some ⟨gC, 0, none⟩) 1 cC).ownBlock ≠ some P) := Lib.hid (fun e => by simp [Value.ownBlock] at e; exact hCc.out.2.2.1 e)
  have HC := Lib.hid hC0
  have HPP := Lib.hid (H9.out.2.1.alloc (.cells #[.pointer (some ⟨R, 0, none⟩)] 22))
  clear hC0 hsz
  go_wp2_with (go_at_call 42; (with_reducible refine HC.out.mono ?_); rintro e w4 ⟨v', rfl, hr4, hg4⟩; dsimp only; clear HC p1; obtain ⟨A4, c4, n4, hn4, rfl, _, _⟩ := hr4.rdn; have kP4 := Lib.hid (HPP.out.grown hg4 (fun e => HE.out e.symm)); have p1 := kP4.out.cell 1; have p1f := kP4.out.frozen 1; simp only [List.getElem?_toArray, List.getElem?_cons_zero, List.getElem?_cons_succ] at p1; have H4 := Lib.hid (And.intro hr4 hg4); clear hr4 hg4)
  refine bodyPost_end (v := .tuple #[]) (by simp [results, Try.f28, go_sem]) rfl ?_
  have F10 : Fr (fun k => k = P ∨ k = gC) wg (w4.setCell ⟨P, 1, none⟩ (.slice A4 n4 c4)) :=
    Fr.set (Fr.grown (w' := wg.alloc (.cells #[.pointer (some ⟨R, 0, none⟩)] 22)) (Fr.of ((Below.refl _ _).alloc (Nat.le_refl _) _)) H4.out.2 (fun k hk => .inr (by injection hk with hk; exact hk.symm))) (.inl rfl) _
  have FR : Fr (SS P N gN gC) wd (w4.setCell ⟨P, 1, none⟩ (.slice A4 n4 c4)) :=
    (((H3.out.1.mono (fun k h => .inr (.inr (.inl h)))).trans (HF.out.1.mono (fun k h => .inr (.inl h)))).trans (H9.out.1.mono (fun k h => .inl h))).trans (F10.mono (fun k h => h.elim (fun h => .inl h) (fun h => .inr (.inr (.inr h)))))
  have hSS : ∀ k, SS P N gN gC k → k < w.heap.size := fun k h => by
    rcases h with h | h | h | h <;> subst h
    · exact HT.out.2.1.lt
    · exact H3.out.2.2
    · exact hgN
    · exact hgC
  have hTS : ¬ SS P N gN gC T := fun h => by
    rcases h with h | h | h | h
    · exact blk_ne HT.out.1 HT.out.2.1 (by decide) h
    · exact blk_ne HT.out.1 HT.out.2.2.2.1 (by decide) h
    · exact blk_ne HT.out.1 HG.out (by decide) h
    · exact blk_ne HT.out.1 hCc.out.2.2.2 (by decide) h
  have FW : Fr (SS P N gN gC) w (w4.setCell ⟨P, 1, none⟩ (.slice A4 n4 c4)) := (Fr.of HD.out.1).trans FR
  have kgCg := H9.out.1.b (HF.out.1.b (H3.out.1.b (hCc.out.2.2.2.on HD.out.1) hCc.out.1) hCc.out.2.1) hCc.out.2.2.1
  have kNg := H9.out.1.b HF.out.2.1 (fun h => H0.out.2 h.symm)
  have kNh := F10.b kNg (fun h => h.elim (fun h => H0.out.2 h.symm) (fun h => hCc.out.2.1 h.symm))
  have kPh := kP4.out.set_ 1 (.slice A4 n4 c4)
  refine ⟨.slice A9 n9 c9, .slice A4 n4 c4, .slice A2 n2 c2, R, rfl, ⟨FW, FW.b HT.out.1 hTS, by simpa using kPh, kNh⟩, ?_, ?_, ?_, ?_, HD.out.2.2.2.1⟩
  · refine F10.row H9.out.2.2.1 (fun k hk h => ?_)
    rcases h with h | h <;> subst h
    · exact own_ne H9.out.2.2.1 H9.out.2.1 (by decide) hk
    · exact own_ne H9.out.2.2.1 kgCg (by decide) hk
  · exact H4.out.1.set (own_ne H4.out.1 kP4.out (by decide)) _
  · exact FR.b HD.out.2.1 (fun h => by have := hSS _ h; have := HD.out.2.2.2.1; omega)
  · exact FR.row HD.out.2.2.1 (fun k hk h => own_hi HD.out.2.2.1 hk (hSS _ h) rfl)
end Go.Proofs.Ytpldeobobfbkiaa.Tlv
