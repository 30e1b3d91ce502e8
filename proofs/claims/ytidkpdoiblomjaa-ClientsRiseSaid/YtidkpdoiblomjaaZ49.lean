/- Ask: the same, an old one, a new one. -/
import Derived.Test.YtidkpdoiblomjaaZ36
import Derived.Test.YtidkpdoiblomjaaZ37
namespace Go.Proofs.Ytidkpdoiblomjaa.Tlv
open Go.RowKit Go.Maps
set_option maxRecDepth 100000
set_option linter.unusedVariables false
set_option linter.unusedSimpArgs false
set_option maxHeartbeats 4000000 in
theorem ask_new (g m base N : Nat) (T : Tb) (c n n' : Int) (r : Res) (w : World) (h : Tab w base g m T N) (hc : InU c) (hT : T c = some (n', r)) (hn : ¬ n ≤ n') : Calls Try.prog 14 #[.pointer (some ⟨g, 0, none⟩), .int .u64 c, .int .u64 n] w fun e w' => e = .returned (.tuple #[.int .i64 1, .agg #[.int .i64 0, .bool false, .slice none 0 0, .slice none 0 0]]) ∧ Below w.heap.size w w' := by
 have hb : Below w.heap.size w (w.alloc (.cells #[.int .i64 0, .bool false, .slice none 0 0, .slice none 0 0] 39)) := (Below.refl _ _).alloc (Nat.le_refl _) _
 have kk := Blk.new w 39 #[.int .i64 0, .bool false, .slice none 0 0, .slice none 0 0]
 have HF := Lib.hid (find_any g m base N T c (w.alloc (.cells #[.int .i64 0, .bool false, .slice none 0 0, .slice none 0 0] 39)) (h.on hb) hc)
 have HT := Lib.hid hT
 clear h hc hT
 have HB := Lib.hid (And.intro hb kk)
 clear hb kk
 go_enter Try.func14, Try.ntmps14
 go_upto_region 2 with (first
   | ((with_reducible refine HF.out.mono ?_); rintro e w1 ⟨a, b, y, A, l, k, B, l2, k2, is, rfl, hf, hb1⟩; dsimp only; have HB1 := Lib.hid (And.intro (HB.out.1.trans (hb1.mono HB.out.1.size)) (And.intro (HB.out.2.on hb1) hf)); clear hb1 hf)
   | (refine wpList_store_rowTo rfl 70 _ _ rfl rfl w1.heap.size #[.int .u64 a, .int .i64 b, .bool y, .slice A l k, .slice B l2 k2] rfl rfl 70 #[.int .u64 0, .int .i64 0, .bool false, .slice none 0 0, .slice none 0 0] (Blk.new w1 70 #[.int .u64 0, .int .i64 0, .bool false, .slice none 0 0, .slice none 0 0]) (by kernel_rfl) rfl (by kernel_rfl) ?_))
 have hb2 : Below w1.heap.size w1 ((w1.alloc (.cells #[.int .u64 0, .int .i64 0, .bool false, .slice none 0 0, .slice none 0 0] 70)).setRow w1.heap.size #[.int .u64 a, .int .i64 b, .bool y, .slice A l k, .slice B l2 k2]) := below_setRow ((Below.refl _ _).alloc (Nat.le_refl _) (.cells #[.int .u64 0, .int .i64 0, .bool false, .slice none 0 0, .slice none 0 0] 70)) (Nat.le_refl _) #[.int .u64 a, .int .i64 b, .bool y, .slice A l k, .slice B l2 k2]
 have k3 : Blk ((w1.alloc (.cells #[.int .u64 0, .int .i64 0, .bool false, .slice none 0 0, .slice none 0 0] 70)).setRow w1.heap.size #[.int .u64 a, .int .i64 b, .bool y, .slice A l k, .slice B l2 k2]) w1.heap.size 70 #[.int .u64 a, .int .i64 b, .bool y, .slice A l k, .slice B l2 k2] := (Blk.new w1 70 #[.int .u64 0, .int .i64 0, .bool false, .slice none 0 0, .slice none 0 0]).row #[.int .u64 a, .int .i64 b, .bool y, .slice A l k, .slice B l2 k2]
 obtain ⟨b2, hb2'⟩ : ∃ b, b = w1.heap.size := ⟨_, rfl⟩
 have HB2 := Lib.hid (And.intro (HB1.out.1.trans (hb2.mono HB1.out.1.size)) (And.intro (HB1.out.2.1.on hb2) (And.intro k3 (HB1.out.2.2.on hb2))))
 rw [← hb2'] at HB2 ⊢
 generalize (w1.alloc (.cells #[.int .u64 0, .int .i64 0, .bool false, .slice none 0 0, .slice none 0 0] 70)).setRow b2 #[.int .u64 a, .int .i64 b, .bool y, .slice A l k, .slice B l2 k2] = W at HB2 ⊢
 clear hb2 k3 hb2' HB1 HB HF
 have hfd : is = true ∧ a = n' ∧ b = r.k ∧ y = r.y ∧ ResOwn W base r (.slice A l k) (.slice B l2 k2) ∧ ResGood r := by
   rcases HB2.out.2.2.2 with ⟨e1, _⟩ | ⟨r', e1, _, e6, e2, e3, e4, e5⟩
   · rw [HT.out] at e1; cases e1
   · rw [HT.out] at e1
     injection e1 with e1
     injection e1 with e1 e7
     subst e7
     exact ⟨e4, e1.symm, e2, e3, e5, e6⟩
 obtain ⟨rfl, rfl, rfl, rfl, ho, hgd⟩ := hfd
 have c0 := HB2.out.2.2.1.cell 0
 simp only [List.getElem?_toArray, List.getElem?_cons_zero, List.getElem?_cons_succ] at c0
 have hlt : a < n := by omega
 clear ho hgd
 go_wp2_with (refine wpList_store_rowTo rfl 39 _ _ rfl rfl w.heap.size #[.int .i64 0, .bool false, .slice none 0 0, .slice none 0 0] rfl rfl 39 _ HB2.out.2.1 (by kernel_rfl) rfl (by kernel_rfl) ?_)
 refine bodyPost_ret (v := .tuple #[.int .i64 1, .agg #[.int .i64 0, .bool false, .slice none 0 0, .slice none 0 0]]) ?_ rfl ⟨rfl, below_setRow HB2.out.1 (Nat.le_refl _) _⟩
 have k := HB2.out.2.1.row #[.int .i64 0, .bool false, .slice none 0 0, .slice none 0 0]
 generalize W.setRow w.heap.size #[.int .i64 0, .bool false, .slice none 0 0, .slice none 0 0] = W3 at k ⊢
 clear c0
 have c0 := k.cell 0
 have c1 := k.cell 1
 have c2 := k.cell 2
 have c3 := k.cell 3
 simp only [List.getElem?_toArray, List.getElem?_cons_zero, List.getElem?_cons_succ] at c0 c1 c2 c3
 clear HB2 k
 simp [results, Try.f14, go_sem, c0, c1, c2, c3]
set_option maxHeartbeats 4000000 in
theorem ask_old (g m base N : Nat) (T : Tb) (c n n' : Int) (r : Res) (w : World) (h : Tab w base g m T N) (hc : InU c) (hT : T c = some (n', r)) (hn : n < n') : Calls Try.prog 14 #[.pointer (some ⟨g, 0, none⟩), .int .u64 c, .int .u64 n] w fun e w' => e = .returned (.tuple #[.int .i64 3, .agg #[.int .i64 0, .bool false, .slice none 0 0, .slice none 0 0]]) ∧ Below w.heap.size w w' := by
 have hb : Below w.heap.size w (w.alloc (.cells #[.int .i64 0, .bool false, .slice none 0 0, .slice none 0 0] 39)) := (Below.refl _ _).alloc (Nat.le_refl _) _
 have kk := Blk.new w 39 #[.int .i64 0, .bool false, .slice none 0 0, .slice none 0 0]
 have HF := Lib.hid (find_any g m base N T c (w.alloc (.cells #[.int .i64 0, .bool false, .slice none 0 0, .slice none 0 0] 39)) (h.on hb) hc)
 have HT := Lib.hid hT
 clear h hc hT
 have HB := Lib.hid (And.intro hb kk)
 clear hb kk
 go_enter Try.func14, Try.ntmps14
 go_upto_region 2 with (first
   | ((with_reducible refine HF.out.mono ?_); rintro e w1 ⟨a, b, y, A, l, k, B, l2, k2, is, rfl, hf, hb1⟩; dsimp only; have HB1 := Lib.hid (And.intro (HB.out.1.trans (hb1.mono HB.out.1.size)) (And.intro (HB.out.2.on hb1) hf)); clear hb1 hf)
   | (refine wpList_store_rowTo rfl 70 _ _ rfl rfl w1.heap.size #[.int .u64 a, .int .i64 b, .bool y, .slice A l k, .slice B l2 k2] rfl rfl 70 #[.int .u64 0, .int .i64 0, .bool false, .slice none 0 0, .slice none 0 0] (Blk.new w1 70 #[.int .u64 0, .int .i64 0, .bool false, .slice none 0 0, .slice none 0 0]) (by kernel_rfl) rfl (by kernel_rfl) ?_))
 have hb2 : Below w1.heap.size w1 ((w1.alloc (.cells #[.int .u64 0, .int .i64 0, .bool false, .slice none 0 0, .slice none 0 0] 70)).setRow w1.heap.size #[.int .u64 a, .int .i64 b, .bool y, .slice A l k, .slice B l2 k2]) := below_setRow ((Below.refl _ _).alloc (Nat.le_refl _) (.cells #[.int .u64 0, .int .i64 0, .bool false, .slice none 0 0, .slice none 0 0] 70)) (Nat.le_refl _) #[.int .u64 a, .int .i64 b, .bool y, .slice A l k, .slice B l2 k2]
 have k3 : Blk ((w1.alloc (.cells #[.int .u64 0, .int .i64 0, .bool false, .slice none 0 0, .slice none 0 0] 70)).setRow w1.heap.size #[.int .u64 a, .int .i64 b, .bool y, .slice A l k, .slice B l2 k2]) w1.heap.size 70 #[.int .u64 a, .int .i64 b, .bool y, .slice A l k, .slice B l2 k2] := (Blk.new w1 70 #[.int .u64 0, .int .i64 0, .bool false, .slice none 0 0, .slice none 0 0]).row #[.int .u64 a, .int .i64 b, .bool y, .slice A l k, .slice B l2 k2]
 obtain ⟨b2, hb2'⟩ : ∃ b, b = w1.heap.size := ⟨_, rfl⟩
 have HB2 := Lib.hid (And.intro (HB1.out.1.trans (hb2.mono HB1.out.1.size)) (And.intro (HB1.out.2.1.on hb2) (And.intro k3 (HB1.out.2.2.on hb2))))
 rw [← hb2'] at HB2 ⊢
 generalize (w1.alloc (.cells #[.int .u64 0, .int .i64 0, .bool false, .slice none 0 0, .slice none 0 0] 70)).setRow b2 #[.int .u64 a, .int .i64 b, .bool y, .slice A l k, .slice B l2 k2] = W at HB2 ⊢
 clear hb2 k3 hb2' HB1 HB HF
 have hfd : is = true ∧ a = n' ∧ b = r.k ∧ y = r.y ∧ ResOwn W base r (.slice A l k) (.slice B l2 k2) ∧ ResGood r := by
   rcases HB2.out.2.2.2 with ⟨e1, _⟩ | ⟨r', e1, _, e6, e2, e3, e4, e5⟩
   · rw [HT.out] at e1; cases e1
   · rw [HT.out] at e1
     injection e1 with e1
     injection e1 with e1 e7
     subst e7
     exact ⟨e4, e1.symm, e2, e3, e5, e6⟩
 obtain ⟨rfl, rfl, rfl, rfl, ho, hgd⟩ := hfd
 have c0 := HB2.out.2.2.1.cell 0
 simp only [List.getElem?_toArray, List.getElem?_cons_zero, List.getElem?_cons_succ] at c0
 have hlt : ¬ a < n := by omega
 clear ho hgd
 go_wp2_with (refine wpList_store_rowTo rfl 39 _ _ rfl rfl w.heap.size #[.int .i64 0, .bool false, .slice none 0 0, .slice none 0 0] rfl rfl 39 _ HB2.out.2.1 (by kernel_rfl) rfl (by kernel_rfl) ?_)
 refine bodyPost_ret (v := .tuple #[.int .i64 3, .agg #[.int .i64 0, .bool false, .slice none 0 0, .slice none 0 0]]) ?_ rfl ⟨rfl, below_setRow HB2.out.1 (Nat.le_refl _) _⟩
 have k := HB2.out.2.1.row #[.int .i64 0, .bool false, .slice none 0 0, .slice none 0 0]
 generalize W.setRow w.heap.size #[.int .i64 0, .bool false, .slice none 0 0, .slice none 0 0] = W3 at k ⊢
 clear c0
 have c0 := k.cell 0
 have c1 := k.cell 1
 have c2 := k.cell 2
 have c3 := k.cell 3
 simp only [List.getElem?_toArray, List.getElem?_cons_zero, List.getElem?_cons_succ] at c0 c1 c2 c3
 clear HB2 k
 simp [results, Try.f14, go_sem, c0, c1, c2, c3]
set_option maxHeartbeats 4000000 in
theorem ask_same (g m base N : Nat) (T : Tb) (c n n' : Int) (r : Res) (w : World) (h : Tab w base g m T N) (hc : InU c) (hT : T c = some (n', r)) (hn : n = n') : Calls Try.prog 14 #[.pointer (some ⟨g, 0, none⟩), .int .u64 c, .int .u64 n] w fun e w' => (∃ A5 n5 c5 A6 n6 c6, e = .returned (.tuple #[.int .i64 2, .agg #[.int .i64 r.k, .bool r.y, .slice A5 n5 c5, .slice A6 n6 c6]])) ∧ Below w.heap.size w w' := by
 have hb : Below w.heap.size w (w.alloc (.cells #[.int .i64 0, .bool false, .slice none 0 0, .slice none 0 0] 39)) := (Below.refl _ _).alloc (Nat.le_refl _) _
 have kk := Blk.new w 39 #[.int .i64 0, .bool false, .slice none 0 0, .slice none 0 0]
 have HF := Lib.hid (find_any g m base N T c (w.alloc (.cells #[.int .i64 0, .bool false, .slice none 0 0, .slice none 0 0] 39)) (h.on hb) hc)
 have HT := Lib.hid hT
 clear h hc hT
 have HB := Lib.hid (And.intro hb kk)
 clear hb kk
 go_enter Try.func14, Try.ntmps14
 go_upto_region 2 with (first
   | ((with_reducible refine HF.out.mono ?_); rintro e w1 ⟨a, b, y, A, l, k, B, l2, k2, is, rfl, hf, hb1⟩; dsimp only; have HB1 := Lib.hid (And.intro (HB.out.1.trans (hb1.mono HB.out.1.size)) (And.intro (HB.out.2.on hb1) hf)); clear hb1 hf)
   | (refine wpList_store_rowTo rfl 70 _ _ rfl rfl w1.heap.size #[.int .u64 a, .int .i64 b, .bool y, .slice A l k, .slice B l2 k2] rfl rfl 70 #[.int .u64 0, .int .i64 0, .bool false, .slice none 0 0, .slice none 0 0] (Blk.new w1 70 #[.int .u64 0, .int .i64 0, .bool false, .slice none 0 0, .slice none 0 0]) (by kernel_rfl) rfl (by kernel_rfl) ?_))
 have hb2 : Below w1.heap.size w1 ((w1.alloc (.cells #[.int .u64 0, .int .i64 0, .bool false, .slice none 0 0, .slice none 0 0] 70)).setRow w1.heap.size #[.int .u64 a, .int .i64 b, .bool y, .slice A l k, .slice B l2 k2]) := below_setRow ((Below.refl _ _).alloc (Nat.le_refl _) (.cells #[.int .u64 0, .int .i64 0, .bool false, .slice none 0 0, .slice none 0 0] 70)) (Nat.le_refl _) #[.int .u64 a, .int .i64 b, .bool y, .slice A l k, .slice B l2 k2]
 have k3 : Blk ((w1.alloc (.cells #[.int .u64 0, .int .i64 0, .bool false, .slice none 0 0, .slice none 0 0] 70)).setRow w1.heap.size #[.int .u64 a, .int .i64 b, .bool y, .slice A l k, .slice B l2 k2]) w1.heap.size 70 #[.int .u64 a, .int .i64 b, .bool y, .slice A l k, .slice B l2 k2] := (Blk.new w1 70 #[.int .u64 0, .int .i64 0, .bool false, .slice none 0 0, .slice none 0 0]).row #[.int .u64 a, .int .i64 b, .bool y, .slice A l k, .slice B l2 k2]
 obtain ⟨b2, hb2'⟩ : ∃ b, b = w1.heap.size := ⟨_, rfl⟩
 have HB2 := Lib.hid (And.intro (HB1.out.1.trans (hb2.mono HB1.out.1.size)) (And.intro (HB1.out.2.1.on hb2) (And.intro k3 (HB1.out.2.2.on hb2))))
 rw [← hb2'] at HB2 ⊢
 generalize (w1.alloc (.cells #[.int .u64 0, .int .i64 0, .bool false, .slice none 0 0, .slice none 0 0] 70)).setRow b2 #[.int .u64 a, .int .i64 b, .bool y, .slice A l k, .slice B l2 k2] = W at HB2 ⊢
 clear hb2 k3 hb2' HB1 HB HF
 have hfd : is = true ∧ a = n' ∧ b = r.k ∧ y = r.y ∧ ResOwn W base r (.slice A l k) (.slice B l2 k2) ∧ ResGood r := by
   rcases HB2.out.2.2.2 with ⟨e1, _⟩ | ⟨r', e1, _, e6, e2, e3, e4, e5⟩
   · rw [HT.out] at e1; cases e1
   · rw [HT.out] at e1
     injection e1 with e1
     injection e1 with e1 e7
     subst e7
     exact ⟨e4, e1.symm, e2, e3, e5, e6⟩
 obtain ⟨rfl, rfl, rfl, rfl, ho, hgd⟩ := hfd
 have c0 := HB2.out.2.2.1.cell 0
 simp only [List.getElem?_toArray, List.getElem?_cons_zero, List.getElem?_cons_succ] at c0
 subst hn
 have hlt : ¬ n < n := by omega
 have a0 := HB2.out.2.2.1.cell 1
 have a1 := HB2.out.2.2.1.cell 2
 have a2 := HB2.out.2.2.1.cell 3
 have a3 := HB2.out.2.2.1.cell 4
 simp only [List.getElem?_toArray, List.getElem?_cons_zero, List.getElem?_cons_succ] at a0 a1 a2 a3
 have HC := Lib.hid (copyRes r _ _ W ho.at hgd.lim hgd.cur)
 clear ho hgd
 go_wp2_with (first
   | (go_at_call 26; (with_reducible refine HC.out.mono ?_); rintro e w5 ⟨A5, n5, c5, A6, n6, c6, rfl, _, hb5⟩; dsimp only; have HB5 := Lib.hid (And.intro (HB2.out.1.trans (hb5.mono HB2.out.1.size)) (HB2.out.2.1.on hb5)); clear hb5)
   | (refine wpList_store_rowTo rfl 39 _ _ rfl rfl w.heap.size #[.int .i64 r.k, .bool r.y, .slice A5 n5 c5, .slice A6 n6 c6] rfl rfl 39 _ HB5.out.2 (by kernel_rfl) rfl (by kernel_rfl) ?_))
 refine bodyPost_ret (v := .tuple #[.int .i64 2, .agg #[.int .i64 r.k, .bool r.y, .slice A5 n5 c5, .slice A6 n6 c6]]) ?_ rfl ⟨⟨A5, n5, c5, A6, n6, c6, rfl⟩, below_setRow HB5.out.1 (Nat.le_refl _) _⟩
 have k := HB5.out.2.row #[.int .i64 r.k, .bool r.y, .slice A5 n5 c5, .slice A6 n6 c6]
 generalize w5.setRow w.heap.size #[.int .i64 r.k, .bool r.y, .slice A5 n5 c5, .slice A6 n6 c6] = W3 at k ⊢
 clear c0 a0 a1 a2 a3
 have c0 := k.cell 0
 have c1 := k.cell 1
 have c2 := k.cell 2
 have c3 := k.cell 3
 simp only [List.getElem?_toArray, List.getElem?_cons_zero, List.getElem?_cons_succ] at c0 c1 c2 c3
 clear HB2 HB5 k
 simp [results, Try.f14, go_sem, c0, c1, c2, c3]
end Go.Proofs.Ytidkpdoiblomjaa.Tlv
