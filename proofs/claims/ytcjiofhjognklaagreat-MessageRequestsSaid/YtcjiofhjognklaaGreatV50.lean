/- A copy of a request. -/
import Derived.Test.YtcjiofhjognklaaGreatV49
import Derived.Laws.OwnMore
import Derived.Test.YtcjiofhjognklaaGreatV47
namespace Go.Proofs.YtcjiofhjognklaaGreat.Tlv
open Go.RowKit
set_option maxRecDepth 100000
set_option linter.unusedVariables false
set_option linter.unusedSimpArgs false
theorem setMany_rq2 (c n : Int) (o : Opn) (va vp vc xa xp xc : Value) : setMany (rqCs c n o va vp vc) 2 (opCs o xa xp xc).toList = rqCs c n o xa xp xc := by kernel_rfl
set_option maxHeartbeats 16000000 in
theorem copyRq (c n : Int) (o : Opn) (va vp vc : Value) (w : World) (ho : OpAt w o va vp vc) (hl : Lim o) (hlc : o.cur.length ≤ 1000000000) :
   Calls Tryz.prog 33 #[rqVal c n o va vp vc] w fun e w' => ∃ Aa na ca Ap np cp Ac nc cc, e = .returned (rqVal c n o (.slice Aa na ca) (.slice Ap np cp) (.slice Ac nc cc)) ∧ OpOwn w' w.heap.size o (.slice Aa na ca) (.slice Ap np cp) (.slice Ac nc cc) ∧ Below w.heap.size w w' := by
 have HOR := Lib.hid (And.intro ho (And.intro hl hlc))
 obtain ⟨Aa, ca, na, rfl, _, _⟩ := rdv_len ho.a
 obtain ⟨Ap, cp, np, rfl⟩ := ho.p.len
 obtain ⟨Ac, cc, nc, rfl, hnc, _⟩ := ho.c.full
 clear ho hl hlc hnc
 have hb1 := (Below.refl w.heap.size w).alloc (Nat.le_refl _) (.cells (rqCs c n o (.slice Aa na ca) (.slice Ap np cp) (.slice Ac nc cc)) 57)
 have hb2 := hb1.alloc hb1.size (.cells zQ 57)
 have k0 := (Blk.new w 57 (rqCs c n o (.slice Aa na ca) (.slice Ap np cp) (.slice Ac nc cc))).alloc (.cells zQ 57)
 have k1 := Blk.new (w.alloc (.cells (rqCs c n o (.slice Aa na ca) (.slice Ap np cp) (.slice Ac nc cc)) 57)) 57 zQ
 rw [World.size_alloc] at k1
 have hsz : ((w.alloc (.cells (rqCs c n o (.slice Aa na ca) (.slice Ap np cp) (.slice Ac nc cc)) 57)).alloc (.cells zQ 57)).heap.size = w.heap.size + 1 + 1 := by simp
 obtain ⟨B1, hB1⟩ : ∃ b, b = w.heap.size := ⟨_, rfl⟩
 have H0 := Lib.hid (And.intro hb2 (And.intro (hB1 ▸ k0) (And.intro (hB1 ▸ k1) (hB1 ▸ hsz))))
 clear hb1 hb2 k0 k1 hsz
 go_enter Tryz.func33, Tryz.ntmps33
 go_upto_region 1 with fail
 rw [← hB1]
 generalize (w.alloc (.cells (rqCs c n o (.slice Aa na ca) (.slice Ap np cp) (.slice Ac nc cc)) 57)).alloc (.cells #[.int .u64 0, .int .u64 0, .int .i64 0, .string ⟨#[]⟩, .string ⟨#[]⟩, .slice none 0 0, .slice none 0 0, .slice none 0 0, .int .i64 0] 57) = W0 at H0 ⊢
 have HBB := Lib.hid hB1
 clear hB1
 obtain ⟨a0, a1, a2, a3, a4, a5, a6, a7, a8⟩ := rq_cells H0.out.2.1
 have HC := Lib.hid (copyOp_any o _ _ _ W0 (HOR.out.1.on H0.out.1) HOR.out.2.1 HOR.out.2.2)
 go_upto_region 2 with (first
   | (go_at_call 102; (with_reducible refine HC.out.mono ?_); clear HC a0 a1 a2 a3 a4 a5 a6 a7 a8; rintro e w1 ⟨A1, n1, c1, A2, n2, c2, A3, n3, c3, rfl, h1, hb1⟩; dsimp only; have H1 := Lib.hid (And.intro h1 hb1); clear h1 hb1)
   | (refine wpList_store_mid rfl 27 _ _ rfl B1 2 (opCs o (.slice A1 n1 c1) (.slice A2 n2 c2) (.slice A3 n3 c3)) rfl rfl ((H0.out.2.1.on H1.out.2).there 2 7 (Nat.le_refl 9)) (by kernel_rfl) (by kernel_rfl) ?_))
 have hlt : B1 < W0.heap.size := by have := H0.out.2.2.2; omega
 have hk : Blk (w1.setCells B1 2 (Array.toList (opCs o (.slice A1 n1 c1) (.slice A2 n2 c2) (.slice A3 n3 c3)))) B1 57 (rqCs c n o (.slice A1 n1 c1) (.slice A2 n2 c2) (.slice A3 n3 c3)) := by
   have h := Blk.many (Array.toList (opCs o (.slice A1 n1 c1) (.slice A2 n2 c2) (.slice A3 n3 c3))) 2 w1 _ (H0.out.2.1.on H1.out.2)
   rw [setMany_rq2] at h
   exact h
 have hk2 : Blk (w1.setCells B1 2 (Array.toList (opCs o (.slice A1 n1 c1) (.slice A2 n2 c2) (.slice A3 n3 c3)))) (B1 + 1) 57 zQ := Blk.manyFar (by omega) _ 2 w1 _ (H0.out.2.2.1.on H1.out.2)
 have hbe := below_setCells (show w.heap.size ≤ B1 by have := HBB.out; omega) (Array.toList (opCs o (.slice A1 n1 c1) (.slice A2 n2 c2) (.slice A3 n3 c3))) 2 w1 (H0.out.1.trans (H1.out.2.mono H0.out.1.size))
 have hown : OpOwn (w1.setCells B1 2 (Array.toList (opCs o (.slice A1 n1 c1) (.slice A2 n2 c2) (.slice A3 n3 c3)))) W0.heap.size o (.slice A1 n1 c1) (.slice A2 n2 c2) (.slice A3 n3 c3) := H1.out.1.keep fun k h1 h2 => setCells_other _ k (by omega) _ _ _
 have HE := Lib.hid (And.intro hown (And.intro hbe (And.intro hk (And.intro hk2 hlt))))
 clear hown hbe hk hk2 hlt
 generalize w1.setCells B1 2 (Array.toList (opCs o (.slice A1 n1 c1) (.slice A2 n2 c2) (.slice A3 n3 c3))) = w4 at HE ⊢
 go_wp2_with (first
   | (refine wpList_load_row rfl 57 _ rfl B1 rfl 57 (rqCs c n o (.slice A1 n1 c1) (.slice A2 n2 c2) (.slice A3 n3 c3)) (0, 0) _ HE.out.2.2.1 rfl rfl (by kernel_rfl) ?_)
   | (refine wpList_store_rowTo rfl 57 _ _ rfl rfl (B1 + 1) (rqCs c n o (.slice A1 n1 c1) (.slice A2 n2 c2) (.slice A3 n3 c3)) rfl rfl 57 zQ HE.out.2.2.2.1 (by kernel_rfl) rfl (by kernel_rfl) ?_))
 have h9 := HE.out.2.2.2.1.row (rqCs c n o (.slice A1 n1 c1) (.slice A2 n2 c2) (.slice A3 n3 c3))
 have h8 := below_setRow HE.out.2.1 (show w.heap.size ≤ B1 + 1 by have := HBB.out; omega) (rqCs c n o (.slice A1 n1 c1) (.slice A2 n2 c2) (.slice A3 n3 c3))
 have h7 : OpOwn (w4.setRow (B1 + 1) (rqCs c n o (.slice A1 n1 c1) (.slice A2 n2 c2) (.slice A3 n3 c3))) W0.heap.size o (.slice A1 n1 c1) (.slice A2 n2 c2) (.slice A3 n3 c3) := HE.out.1.keep fun k h1 h2 => setRow_other _ _ k _ (by have := H0.out.2.2.2; omega)
 have t0 := h9.cell 0
 have t1 := h9.cell 1
 have t2 := h9.cell 2
 have t3 := h9.cell 3
 have t4 := h9.cell 4
 have t5 := h9.cell 5
 have t6 := h9.cell 6
 have t7 := h9.cell 7
 have t8 := h9.cell 8
 have HF := Lib.hid (And.intro (h7.low H0.out.1.size) h8)
 clear h7 h8 h9
 generalize w4.setRow (B1 + 1) (rqCs c n o (.slice A1 n1 c1) (.slice A2 n2 c2) (.slice A3 n3 c3)) = w5 at t0 t1 t2 t3 t4 t5 t6 t7 t8 HF ⊢
 refine bodyPost_ret (v := rqVal c n o (.slice A1 n1 c1) (.slice A2 n2 c2) (.slice A3 n3 c3)) ?_ rfl ⟨A1, n1, c1, A2, n2, c2, A3, n3, c3, rfl, HF.out.1, HF.out.2⟩
 simp at t0 t1 t2 t3 t4 t5 t6 t7 t8
 simp [results, Tryz.f33, go_sem, t0, t1, t2, t3, t4, t5, t6, t7, t8]
end Go.Proofs.YtcjiofhjognklaaGreat.Tlv
namespace Go.Proofs.YtcjiofhjognklaaGreat.Tlv
open Go.RowKit
set_option maxRecDepth 100000
set_option linter.unusedVariables false
set_option linter.unusedSimpArgs false
theorem own_atR {W : World} {nb : Nat} {e : TypeId} {size : Nat} {v : Value} {n : Nat} {xs : List Value} (h : W.ownsRow nb e size v n xs) {g : Nat} (eg : v.ownBlock = some g) : nb ≤ g ∧ g < W.heap.size ∧ ∃ cs, Blk W g e cs := by
 rcases h.2 with ⟨e2, _⟩ | ⟨g', cap, cur, e2, hg, hh, _⟩
 · rw [e2] at eg; simp [Value.ownBlock] at eg
 · rw [e2] at eg
   simp only [Value.ownBlock, Option.some.injEq] at eg
   subst eg
   exact ⟨hg, Blk.lt hh, cur, hh⟩
theorem own_far {W : World} {nb : Nat} {e t : TypeId} {size : Nat} {v : Value} {n g j : Nat} {xs : List Value} {cs : Array Value} (h : W.ownsRow nb e size v n xs) (hb : Blk W g t cs) (ht : e ≠ t) (u : Value) : (W.setCell ⟨g, j, none⟩ u).ownsRow nb e size v n xs := by
 refine World.ownsRow.kept h (grownBy_set W ⟨g, j, none⟩ u) ?_
 cases hv : v.ownBlock with
 | none => exact .inl rfl
 | some k =>
   refine .inr fun e2 => ?_
   injection e2 with e2
   obtain ⟨_, _, cs', hc⟩ := own_atR h hv
   exact blk_ne hc hb ht e2
theorem own_form {W : World} {nb : Nat} {e : TypeId} {size : Nat} {A : Option Addr} {n c : Nat} {xs : List Value} (h : W.ownsRow nb e size (.slice A n c) n xs) (hn : 0 < n) : ∃ g, A = some ⟨g, 0, none⟩ ∧ nb ≤ g ∧ ∃ cs, Blk W g e cs := by
 rcases h.2 with ⟨e2, h0⟩ | ⟨g', cap, cur, e2, hg, hh, _⟩
 · omega
 · injection e2 with e2 e3
   exact ⟨g', e2, hg, cur, hh⟩
structure LI (nb b15 B14 : Nat) (Wn W15 : World) (cs14 : Array Value) (v3 v4 v5 : Value) (n3 n4 n5 : Nat) (W : World) : Prop where
 bel : Below nb Wn W
 k14 : Blk W B14 57 cs14
 up : ∀ k, b15 ≤ k → W.heap[k]? = W15.heap[k]?
 sz : W.heap.size = W15.heap.size
 r3 : ∃ xs, W.ownsRow nb 67 2 v3 n3 xs
 r4 : ∃ xs, W.ownsRow nb 9 1 v4 n4 xs
 r5 : ∃ xs, W.ownsRow nb 5 1 v5 n5 xs ∧ ∀ j, j < n5 → ∃ y, xs[j]? = some (.int .u8 y)
 o3 : ∀ g, v3.ownBlock = some g → g < b15
 o4 : ∀ g, v4.ownBlock = some g → g < b15
 o5 : ∀ g, v5.ownBlock = some g → g < b15
section
variable {nb b15 B14 : Nat} {Wn W15 W : World} {cs14 : Array Value} {v3 v4 v5 : Value} {n3 n4 n5 : Nat}
theorem LI.st (h : LI nb b15 B14 Wn W15 cs14 v3 v4 v5 n3 n4 n5 W) {g : Nat} {e : TypeId} {cs : Array Value} (hk : Blk W g e cs) (hne : 57 ≠ e) (hg : nb ≤ g) (hlt : g < b15) (j : Nat) (u : Value) (h3 : ∃ xs, (W.setCell ⟨g, j, none⟩ u).ownsRow nb 67 2 v3 n3 xs) (h4 : ∃ xs, (W.setCell ⟨g, j, none⟩ u).ownsRow nb 9 1 v4 n4 xs) (h5 : ∃ xs, (W.setCell ⟨g, j, none⟩ u).ownsRow nb 5 1 v5 n5 xs ∧ ∀ j, j < n5 → ∃ y, xs[j]? = some (.int .u8 y)) :
   LI nb b15 B14 Wn W15 cs14 v3 v4 v5 n3 n4 n5 (W.setCell ⟨g, j, none⟩ u) :=
 ⟨h.bel.setCell (p := ⟨g, j, none⟩) hg u, h.k14.far (p := ⟨g, j, none⟩) (fun e2 => blk_ne h.k14 hk hne e2) u, fun k hk2 => (Below.heap_setCell W ⟨g, j, none⟩ u k (show k ≠ g by omega)).trans (h.up k hk2), (World.size_setCell W ⟨g, j, none⟩ u).trans h.sz, h3, h4, h5, h.o3, h.o4, h.o5⟩
theorem LI.b5 {A : Option Addr} {c : Nat} (h : LI nb b15 B14 Wn W15 cs14 v3 v4 (.slice A n5 c) n3 n4 n5 W) (i : Nat) (hi : i < n5) : ∃ g, A = some ⟨g, 0, none⟩ ∧ (∃ y, W.cell? ⟨g, i, none⟩ = some (.int .u8 y)) ∧ W.frozen? ⟨g, i, none⟩ = false ∧ ∀ y, LI nb b15 B14 Wn W15 cs14 v3 v4 (.slice A n5 c) n3 n4 n5 (W.setCell ⟨g, i, none⟩ (.int .u8 y)) := by
 obtain ⟨xs, hr, hx⟩ := h.r5
 obtain ⟨g, rfl, hg, cs, hk⟩ := own_form hr (by omega)
 obtain ⟨x3, hx3⟩ := h.r3
 obtain ⟨x4, hx4⟩ := h.r4
 refine ⟨g, rfl, ?_, hr.frozenAt i, fun y => h.st hk (by decide) hg (h.o5 g rfl) i _ ⟨x3, own_far hx3 hk (by decide) _⟩ ⟨x4, own_far hx4 hk (by decide) _⟩ ⟨_, (hr.stored i (.int .u8 y)).1, fun j hj => ?_⟩⟩
 · obtain ⟨y, hy⟩ := hx i hi
   exact ⟨y, (hr.cellAt i (by omega)).trans hy⟩
 · have hl : xs.length = n5 := by have := hr.1; omega
   by_cases e : i = j
   · subst e
     exact ⟨y, by rw [List.getElem?_set_self (by omega)]⟩
   · obtain ⟨z, hz⟩ := hx j hj
     exact ⟨z, by rw [List.getElem?_set_ne e]; exact hz⟩
theorem LI.b4 {A : Option Addr} {c : Nat} (h : LI nb b15 B14 Wn W15 cs14 v3 (.slice A n4 c) v5 n3 n4 n5 W) (i : Nat) (hi : i < n4) : ∃ g, A = some ⟨g, 0, none⟩ ∧ (∃ u, W.cell? ⟨g, i, none⟩ = some u) ∧ W.frozen? ⟨g, i, none⟩ = false ∧ ∀ u, LI nb b15 B14 Wn W15 cs14 v3 (.slice A n4 c) v5 n3 n4 n5 (W.setCell ⟨g, i, none⟩ u) := by
 obtain ⟨xs, hr⟩ := h.r4
 obtain ⟨g, rfl, hg, cs, hk⟩ := own_form hr (by omega)
 obtain ⟨x3, hx3⟩ := h.r3
 obtain ⟨x5, hx5, hx⟩ := h.r5
 have hl : i < xs.length := by have := hr.1; omega
 exact ⟨g, rfl, ⟨xs[i], (hr.cellAt i (by omega)).trans (List.getElem?_eq_getElem hl)⟩, hr.frozenAt i, fun u => h.st hk (by decide) hg (h.o4 g rfl) i _ ⟨x3, own_far hx3 hk (by decide) _⟩ ⟨_, (hr.stored i u).1⟩ ⟨x5, own_far hx5 hk (by decide) _, hx⟩⟩
theorem LI.b3 {A : Option Addr} {c : Nat} (h : LI nb b15 B14 Wn W15 cs14 (.slice A n3 c) v4 v5 n3 n4 n5 W) (i : Nat) (hi : i < n3) : ∃ g, A = some ⟨g, 0, none⟩ ∧ (∃ u, W.cell? ⟨g, i * 2, none⟩ = some u) ∧ W.frozen? ⟨g, i * 2, none⟩ = false ∧ ∀ u, LI nb b15 B14 Wn W15 cs14 (.slice A n3 c) v4 v5 n3 n4 n5 (W.setCell ⟨g, i * 2, none⟩ u) := by
 obtain ⟨xs, hr⟩ := h.r3
 obtain ⟨g, rfl, hg, cs, hk⟩ := own_form hr (by omega)
 obtain ⟨x4, hx4⟩ := h.r4
 obtain ⟨x5, hx5, hx⟩ := h.r5
 have hl : i * 2 < xs.length := by have := hr.1; omega
 exact ⟨g, rfl, ⟨xs[i * 2], (hr.cellAt (i * 2) (by omega)).trans (List.getElem?_eq_getElem hl)⟩, hr.frozenAt (i * 2), fun u => h.st hk (by decide) hg (h.o3 g rfl) (i * 2) _ ⟨_, (hr.stored (i * 2) u).1⟩ ⟨x4, own_far hx4 hk (by decide) _⟩ ⟨x5, own_far hx5 hk (by decide) _, hx⟩⟩
end
theorem row_bytes {W : World} {nb : Nat} {v : Value} {l : List Int} (h : RowK kB W nb v l) : ∃ xs, W.ownsRow nb 5 1 v l.length xs ∧ ∀ j, j < l.length → ∃ y, xs[j]? = some (.int .u8 y) := by
 have h2 := row_k.1 h
 refine ⟨_, h2, fun j hj => ⟨l.getD j 0, ?_⟩⟩
 rw [List.getElem?_map, List.getElem?_eq_getElem hj, List.getD_eq_getElem?_getD, List.getElem?_eq_getElem hj]
 rfl
theorem OpOwn.up {W15 W : World} {b15 : Nat} {o : Opn} {va vp vc : Value} (h : OpOwn W15 b15 o va vp vc) (hu : ∀ k, b15 ≤ k → W.heap[k]? = W15.heap[k]?) : OpOwn W b15 o va vp vc := h.keep fun k h1 _ => hu k h1
end Go.Proofs.YtcjiofhjognklaaGreat.Tlv
namespace Go.Proofs.YtcjiofhjognklaaGreat.Tlv
open Go.RowKit Go.Lib Go.Sort
set_option maxRecDepth 100000
set_option linter.unusedVariables false
set_option linter.unusedSimpArgs false
theorem wpList_appT {α : Type} [Inhabited α] (K : Kind α) {w : World} {ops : Array Oper} {rest : List Oper} {o : Oper} {a : Act} {Q : Exit → Act → World → Prop} (hgd : o.guard = none) (s x : Operand)
   (ho : o.op = .call { callee := .builtin .append, args := #[s, x], argTypes := #[K.st, K.st] })
   {base B : Nat} {v : Value} {l : List α} {A : Option Addr} {c n : Nat} (m : List α) (hnn : n = m.length) (hs : a.eval s = v) (hown : RowK K w base v l) (hx : a.eval x = .slice A n c) (hr : RdK K w B A m) (hA : A = none → c = 0)
   (hn : l.length + m.length ≤ 1000000000) (hb : base ≤ w.heap.size)
   (h : ∀ v' w', RowK K w' base v' (l ++ m) → w.grownBy w' v.ownBlock → wpList Tryz.prog ops Q rest (a.put o.dst v') w') :
   wpList Tryz.prog ops Q (o :: rest) a w := by
 subst hnn
 exact wpList_appK K hgd s x ho m hs hown hx hr hA hn hb h
theorem sameRq_refl (c n : Int) (o : Opn) : sameRq c n o c n o = true := by unfold sameRq; rw [sameO_refl]; simp
theorem bigO_cur {o : Opn} (h : bigO o = false) : o.cur.length ≤ 9000 := by
 unfold bigO at h
 simp only [Bool.or_eq_false_iff, decide_eq_false_iff_not] at h
 omega
theorem rq_row {W : World} {B : Nat} {c n : Int} {o : Opn} {va vp vc : Value} (h : Blk W B 57 (rqCs c n o va vp vc)) : ∀ W', (∃ p : Regrown, W' = grow (redrawn W p.d) p.os) → (loadVar 57 ⟨B, 0, none⟩).run Tryz.prog W' = .ok (rqVal c n o va vp vc) W' := by
 rintro _ ⟨p, rfl⟩
 have h : Blk (grow (redrawn W p.d) p.os) B 57 (rqCs c n o va vp vc) := h.on (below_regrown W p.d p.os)
 exact run_loadVar_mid _ _ 0 57 _ _ (h.range 0 (rqCs c n o va vp vc).toList rfl) rfl rfl (by kernel_rfl)
structure LQ (w : World) (Bx By : Nat) (co cp : Array Value) (W : World) : Prop where
 bel : Below w.heap.size w W
 x : Blk W Bx 57 co
 y : Blk W By 57 cp
theorem LQ.on {w W W' : World} {Bx By : Nat} {co cp : Array Value} (h : LQ w Bx By co cp W) (hb : Below W.heap.size W W') : LQ w Bx By co cp W' := ⟨h.bel.trans (hb.mono h.bel.size), h.x.on hb, h.y.on hb⟩
structure LO (B14 : Nat) (c14 : Array Value) (Wn W : World) : Prop where
 bel : Below Wn.heap.size Wn W
 k14 : Blk W B14 57 c14
 lo : Wn.heap.size ≤ B14
theorem LO.on {B14 : Nat} {c14 : Array Value} {Wn W W' : World} (h : LO B14 c14 Wn W) (hb : Below W.heap.size W W') : LO B14 c14 Wn W' := ⟨h.bel.trans (hb.mono h.bel.size), h.k14.on hb, h.lo⟩
theorem LO.st {B14 : Nat} {c14 : Array Value} {Wn W : World} (h : LO B14 c14 Wn W) (i : Nat) (u : Value) : LO B14 (c14.setIfInBounds i u) Wn (W.setCell ⟨B14, i, none⟩ u) := ⟨h.bel.setCell (p := ⟨B14, i, none⟩) h.lo u, h.k14.set_ i u, h.lo⟩
theorem LI.drew {nb b15 B14 : Nat} {Wn W15 W : World} {cs14 : Array Value} {v3 v4 v5 : Value} {n3 n4 n5 : Nat} (h : LI nb b15 B14 Wn W15 cs14 v3 v4 v5 n3 n4 n5 W) : LI nb b15 B14 Wn W15 cs14 v3 v4 v5 n3 n4 n5 W.drew := ⟨below_drew h.bel, h.k14, h.up, h.sz, h.r3, h.r4, h.r5, h.o3, h.o4, h.o5⟩
theorem grown_nil {W W' : World} (h : W.grownBy W' (Value.slice none 0 0).ownBlock) : Below W.heap.size W W' := row_below (nil_row kB W W.heap.size) h (Nat.le_refl _)
theorem requestOf_yes (A : Option Addr) (c : Nat) (l : List Int) (c0 n0 : Int) (ob : Opn) (w : World) (hr : Rd w w.heap.size A l) (hby : Byt l) (hn : l.length ≤ 100000000) (hcn : Cn c0 n0) (hm : mayO ob = true) (hl : l = rqB c0 n0 ob) :
   Calls Tryz.prog 28 #[.slice A l.length c] w fun e w' => ∃ Aa na ca Ap np cp Ac nc cc, e = .returned (.tuple #[rqVal c0 n0 ob (.slice Aa na ca) (.slice Ap np cp) (.slice Ac nc cc), .int .i64 0]) ∧ OpAt w' ob (.slice Aa na ca) (.slice Ap np cp) (.slice Ac nc cc) ∧ Lim ob ∧ Below w.heap.size w w' :=
 (requestOf_any A c l w hr hby hn).mono fun e w' h => by
   rcases h with ⟨c2, n2, o, va, vp, vc, h0, h1, h2, rfl, h4, h5, h6⟩ | ⟨h1, _⟩
   · obtain ⟨rfl, rfl, rfl⟩ := rq_inj hby h0 hcn h1 hm h2 hl
     obtain ⟨A1, c1, n1, rfl, _, _⟩ := rdv_len h4.a
     obtain ⟨A2, c2', n2', rfl⟩ := h4.p.len
     obtain ⟨A3, c3, n3, rfl, _⟩ := h4.c.len
     exact ⟨A1, n1, c1, A2, n2', c2', A3, n3, c3, rfl, h4, h5, h6⟩
   · exact absurd hl (h1 c0 n0 ob hcn hm)
theorem requestOf_no (A : Option Addr) (c : Nat) (l : List Int) (w : World) (hr : Rd w w.heap.size A l) (hby : Byt l) (hn : l.length ≤ 100000000) (hno : ∀ c n o, Cn c n → mayO o = true → l ≠ rqB c n o) :
   Calls Tryz.prog 28 #[.slice A l.length c] w fun e w' => ∃ Aa na ca Ap np cp Ac nc cc, e = .returned (.tuple #[rqVal 0 0 (o0 0) (.slice Aa na ca) (.slice Ap np cp) (.slice Ac nc cc), .int .i64 4]) ∧ OpAt w' (o0 0) (.slice Aa na ca) (.slice Ap np cp) (.slice Ac nc cc) ∧ Lim (o0 0) ∧ Below w.heap.size w w' :=
 (requestOf_any A c l w hr hby hn).mono fun e w' h => by
   rcases h with ⟨c2, n2, o, va, vp, vc, h0, h1, h2, _⟩ | ⟨_, rfl, h3⟩
   · exact absurd h2 (hno c2 n2 o h0 h1)
   · exact ⟨none, 0, 0, none, 0, 0, none, 0, 0, rfl, opNil w', limNil, h3⟩
theorem refRequestOf_yes (A : Option Addr) (c : Nat) (l : List Int) (c0 n0 : Int) (ob : Opn) (w : World) (hr : Rd w w.heap.size A l) (hby : Byt l) (hn : l.length ≤ 1000000) (hc : l.length ≤ c) (hcm : c ≤ 9223372036854775807) (hcn : Cn c0 n0) (hm : mayO ob = true) (hl : l = rqB c0 n0 ob) :
   Calls Tryz.prog 29 #[.slice A l.length c] w fun e w' => ∃ Aa na ca Ap np cp Ac nc cc, e = .returned (.tuple #[rqVal c0 n0 ob (.slice Aa na ca) (.slice Ap np cp) (.slice Ac nc cc), .bool true]) ∧ OpAt w' ob (.slice Aa na ca) (.slice Ap np cp) (.slice Ac nc cc) ∧ Lim ob ∧ Below w.heap.size w w' :=
 (refRequestOf_any A c l w hr hby hn hc hcm).mono fun e w' h => by
   rcases h with ⟨c2, n2, o, va, vp, vc, h0, h1, h2, rfl, h4, h5, h6⟩ | ⟨h1, _⟩
   · obtain ⟨rfl, rfl, rfl⟩ := rq_inj hby h0 hcn h1 hm h2 hl
     obtain ⟨A1, c1, n1, rfl, _, _⟩ := rdv_len h4.a
     obtain ⟨A2, c2', n2', rfl⟩ := h4.p.len
     obtain ⟨A3, c3, n3, rfl, _⟩ := h4.c.len
     exact ⟨A1, n1, c1, A2, n2', c2', A3, n3, c3, rfl, h4, h5, h6⟩
   · exact absurd hl (h1 c0 n0 ob hcn hm)
theorem refRequestOf_no (A : Option Addr) (c : Nat) (l : List Int) (w : World) (hr : Rd w w.heap.size A l) (hby : Byt l) (hn : l.length ≤ 1000000) (hc : l.length ≤ c) (hcm : c ≤ 9223372036854775807) (hno : ∀ c n o, Cn c n → mayO o = true → l ≠ rqB c n o) :
   Calls Tryz.prog 29 #[.slice A l.length c] w fun e w' => ∃ Aa na ca Ap np cp Ac nc cc, e = .returned (.tuple #[rqVal 0 0 (o0 0) (.slice Aa na ca) (.slice Ap np cp) (.slice Ac nc cc), .bool false]) ∧ OpAt w' (o0 0) (.slice Aa na ca) (.slice Ap np cp) (.slice Ac nc cc) ∧ Lim (o0 0) ∧ Below w.heap.size w w' :=
 (refRequestOf_any A c l w hr hby hn hc hcm).mono fun e w' h => by
   rcases h with ⟨c2, n2, o, va, vp, vc, h0, h1, h2, _⟩ | ⟨_, rfl, h3⟩
   · exact absurd h2 (hno c2 n2 o h0 h1)
   · exact ⟨none, 0, 0, none, 0, 0, none, 0, 0, rfl, opNil w', limNil, h3⟩
end Go.Proofs.YtcjiofhjognklaaGreat.Tlv
