/- Same: the map's entries in whatever order. -/
import Derived.Test.YtidkpdoiblomjaaZ46
namespace Go.Proofs.Ytidkpdoiblomjaa.Tlv
open Go.RowKit Go.Maps
set_option maxRecDepth 100000
set_option linter.unusedVariables false
set_option linter.unusedSimpArgs false
theorem grown_below {w w' : World} (h : w.grownBy w' none) : Below w.heap.size w w' := grown_none h (Nat.le_refl _)
theorem below_gn {w w' : World} (h : Below w.heap.size w w') : w.grownBy w' none := ⟨h.os, h.tape, h.output, h.size, fun k hk _ => h.block k hk⟩
theorem Rep.came {w : World} {base m N : Nat} {T : Tb} {D : DataW Value} (h3 : ∀ c, InU c → T c = none → Maps.has D (ck c) = false)
   (h4 : ∀ c n r, InU c → T c = some (n, r) → InU n ∧ ResGood r ∧ Maps.has D (ck c) = true ∧ ∃ A l k B l2 k2, (∀ z, D.atKey (ck c) z = .held (rwVal n r.k r.y (.slice A l k) (.slice B l2 k2))) ∧ ResOwn w base r (.slice A l k) (.slice B l2 k2))
   {x : Int} {c : Value} (hx : InU x) (hat : ∀ zd, D.atKey (ck x) zd = .held c) : ∃ n r A l k B l2 k2, T x = some (n, r) ∧ ResGood r ∧ c = rwVal n r.k r.y (.slice A l k) (.slice B l2 k2) ∧ ResOwn w base r (.slice A l k) (.slice B l2 k2) := by
 cases hT : T x with
 | none =>
   have h1 := has_true_of_atKey hat
   rw [h3 x hx hT] at h1
   cases h1
 | some z =>
   obtain ⟨n, r⟩ := z
   obtain ⟨_, hg, _, A, l, k, B, l2, k2, h5, h6⟩ := h4 x n r hx hT
   have h7 := hat .nil
   rw [h5 .nil] at h7
   injection h7 with h7
   exact ⟨n, r, A, l, k, B, l2, k2, rfl, hg, h7.symm, h6⟩
set_option maxHeartbeats 16000000 in
theorem equalMaps (m1 m2 base N : Nat) (T : Tb) (w : World) (h1 : Rep w base m1 T N) (h2 : Rep w base m2 T N) :
   Calls Try.prog 27 #[.map (some m1), .map (some m2), .func (.func 28) #[] #[]] w fun e w' => e = .returned (.bool true) ∧ Below w.heap.size w w' := by
 have l1 := fun ty => h1.len ty
 have l2 := fun ty => h2.len ty
 have H2 := Lib.hid h2
 obtain ⟨h0, D, ho, hs, h3, h4⟩ := h1
 have HQ := Lib.hid (And.intro h3 h4)
 clear h2 h3 h4
 have K := law32
 go_enter Try.func27, Try.ntmps27
 go_wp2_with (first
   | (at_range; refine wpList_range_own _ rfl _ 67 rfl 32 70 K Try.underlying67 RH m1 N _ rfl ho ?_; intro w0 hrg0 hg0 hs0)
   | go_in)
 go_frame
 clear l1 l2
 go_loopw [18] (fun _ wr => ∃ (left : Lit → Bool) (cnt : Nat), wr.ranges Try.prog 32 RH m1 w.heap.size N D left cnt ∧ Below w.heap.size w wr)
   (fun _ wr => wr.rangeLeft m1 w.heap.size)
 case atStart => exact ⟨_, _, hrg0, grown_below hg0⟩
 case round =>
   obtain ⟨left, cnt, hrg, hgw⟩ := hrel
   go_wp2_with (first
     | (at_next; refine wpList_next_ranges _ rfl _ rfl 32 K RH id id (fun key _ _ => ⟨key, rfl⟩) (fun v _ _ => ⟨v, rfl⟩) m1 w.heap.size N _ _ _ rfl hrg ?_ ?_)
     | go_in)
   · -- nothing is left
     intro _ hl0
     go_wp2
     go_ret
     exact ⟨rfl, hgw⟩
   · -- an entry has come
     intro x c kl yd yp w1 cnt1 hkey hlx hv hyp hat hrg1 hlt hg1 hs1 hen
     subst hv
     have hb1 : Below w.heap.size w w1 := hgw.grown hg1 hgw.size (fun k e => by cases e; exact Nat.le_refl _)
     obtain ⟨xi, rfl, rfl, hwf⟩ := keyOf_int_inv Try.underlying32 hkey
     have hxi := wf_inU hwf
     obtain ⟨n, r, A, l, k, B, l2, k2, hT, hg, rfl, ho1⟩ := Rep.came (m := 0) (N := 0) HQ.out.1 HQ.out.2 hxi hat
     obtain ⟨a, b, y, A', l', k', B', l2', k2', is, hF, hL⟩ := H2.out.found hxi
     rcases hF with ⟨e, _⟩ | ⟨r', e, _, _, rfl, rfl, rfl, ho2⟩
     · rw [hT] at e; cases e
     rw [hT] at e
     injection e with e
     injection e with e1 e2
     subst e1 e2
     have HX := Lib.hid (And.intro hb1 (And.intro hrg1 (And.intro ho1 (And.intro ho2 hg))))
     have HL := Lib.hid hL
     clear hb1 hrg1 ho1 ho2 hg hat hkey hlx hyp hwf hT hL hg1 hs1
     have hen := hen
     go_upto_region 6 with (refine wpList_store_rowTo rfl 70 _ _ rfl rfl w1.heap.size #[.int .u64 n, .int .i64 r.k, .bool r.y, .slice A l k, .slice B l2 k2] rfl rfl 70 #[.int .u64 0, .int .i64 0, .bool false, .slice none 0 0, .slice none 0 0] (Blk.new w1 70 #[.int .u64 0, .int .i64 0, .bool false, .slice none 0 0, .slice none 0 0]) (by kernel_rfl) rfl (by kernel_rfl) ?_)
     have hb2 : Below w1.heap.size w1 ((w1.alloc (.cells #[.int .u64 0, .int .i64 0, .bool false, .slice none 0 0, .slice none 0 0] 70)).setRow w1.heap.size #[.int .u64 n, .int .i64 r.k, .bool r.y, .slice A l k, .slice B l2 k2]) := below_setRow ((Below.refl _ _).alloc (Nat.le_refl _) (.cells #[.int .u64 0, .int .i64 0, .bool false, .slice none 0 0, .slice none 0 0] 70)) (Nat.le_refl _) #[.int .u64 n, .int .i64 r.k, .bool r.y, .slice A l k, .slice B l2 k2]
     have kk1 : Blk ((w1.alloc (.cells #[.int .u64 0, .int .i64 0, .bool false, .slice none 0 0, .slice none 0 0] 70)).setRow w1.heap.size #[.int .u64 n, .int .i64 r.k, .bool r.y, .slice A l k, .slice B l2 k2]) w1.heap.size 70 #[.int .u64 n, .int .i64 r.k, .bool r.y, .slice A l k, .slice B l2 k2] := (Blk.new w1 70 #[.int .u64 0, .int .i64 0, .bool false, .slice none 0 0, .slice none 0 0]).row #[.int .u64 n, .int .i64 r.k, .bool r.y, .slice A l k, .slice B l2 k2]
     obtain ⟨b1, hb1'⟩ : ∃ b, b = w1.heap.size := ⟨_, rfl⟩
     have hq : Below w1.heap.size w1 ((w1.alloc (.cells #[.int .u64 0, .int .i64 0, .bool false, .slice none 0 0, .slice none 0 0] 70)).setRow b1 #[.int .u64 n, .int .i64 r.k, .bool r.y, .slice A l k, .slice B l2 k2]) := by rw [hb1']; exact hb2
     rw [← hb1'] at kk1 ⊢
     clear hb2 hb1' hen
     generalize (w1.alloc (.cells #[.int .u64 0, .int .i64 0, .bool false, .slice none 0 0, .slice none 0 0] 70)).setRow b1 #[.int .u64 n, .int .i64 r.k, .bool r.y, .slice A l k, .slice B l2 k2] = W1 at kk1 hq ⊢
     have HW1 := Lib.hid (And.intro hq kk1)
     have hL1 := HL.out W1 (HX.out.1.trans (hq.mono HX.out.1.size))
     clear hq kk1
     go_upto_region 7 with (refine wpList_store_rowTo rfl 70 _ _ rfl rfl W1.heap.size #[.int .u64 n, .int .i64 r.k, .bool r.y, .slice A' l' k', .slice B' l2' k2'] rfl rfl 70 #[.int .u64 0, .int .i64 0, .bool false, .slice none 0 0, .slice none 0 0] (Blk.new W1 70 #[.int .u64 0, .int .i64 0, .bool false, .slice none 0 0, .slice none 0 0]) (by kernel_rfl) rfl (by kernel_rfl) ?_)
     have hb2 : Below W1.heap.size W1 ((W1.alloc (.cells #[.int .u64 0, .int .i64 0, .bool false, .slice none 0 0, .slice none 0 0] 70)).setRow W1.heap.size #[.int .u64 n, .int .i64 r.k, .bool r.y, .slice A' l' k', .slice B' l2' k2']) := below_setRow ((Below.refl _ _).alloc (Nat.le_refl _) (.cells #[.int .u64 0, .int .i64 0, .bool false, .slice none 0 0, .slice none 0 0] 70)) (Nat.le_refl _) #[.int .u64 n, .int .i64 r.k, .bool r.y, .slice A' l' k', .slice B' l2' k2']
     have kk2 : Blk ((W1.alloc (.cells #[.int .u64 0, .int .i64 0, .bool false, .slice none 0 0, .slice none 0 0] 70)).setRow W1.heap.size #[.int .u64 n, .int .i64 r.k, .bool r.y, .slice A' l' k', .slice B' l2' k2']) W1.heap.size 70 #[.int .u64 n, .int .i64 r.k, .bool r.y, .slice A' l' k', .slice B' l2' k2'] := (Blk.new W1 70 #[.int .u64 0, .int .i64 0, .bool false, .slice none 0 0, .slice none 0 0]).row #[.int .u64 n, .int .i64 r.k, .bool r.y, .slice A' l' k', .slice B' l2' k2']
     have kk1 := HW1.out.2.on hb2
     obtain ⟨b2, hb2'⟩ : ∃ b, b = W1.heap.size := ⟨_, rfl⟩
     have hq : Below w1.heap.size w1 ((W1.alloc (.cells #[.int .u64 0, .int .i64 0, .bool false, .slice none 0 0, .slice none 0 0] 70)).setRow b2 #[.int .u64 n, .int .i64 r.k, .bool r.y, .slice A' l' k', .slice B' l2' k2']) := by rw [hb2']; exact HW1.out.1.trans (hb2.mono HW1.out.1.size)
     rw [← hb2'] at kk1 kk2 ⊢
     clear hb2 hb2' hL1
     generalize (W1.alloc (.cells #[.int .u64 0, .int .i64 0, .bool false, .slice none 0 0, .slice none 0 0] 70)).setRow b2 #[.int .u64 n, .int .i64 r.k, .bool r.y, .slice A' l' k', .slice B' l2' k2'] = W2 at kk1 kk2 hq ⊢
     have HW2 := Lib.hid (And.intro hq (And.intro kk1 kk2))
     have hbw : Below w.heap.size w W2 := HX.out.1.trans (hq.mono HX.out.1.size)
     have HS := Lib.hid (same1_any n r A l k B l2 k2 A' l' k' B' l2' k2' W2 ((HX.out.2.2.1.keepB fun k t cs _ hB => hbw.block k hB.lt).at) ((HX.out.2.2.2.1.keepB fun k t cs _ hB => hbw.block k hB.lt).at) HX.out.2.2.2.2.lim)
     clear hq kk1 kk2 hbw
     have a0 := HW2.out.2.1.cell 0
     have a1 := HW2.out.2.1.cell 1
     have a2 := HW2.out.2.1.cell 2
     have a3 := HW2.out.2.1.cell 3
     have a4 := HW2.out.2.1.cell 4
     have c0 := HW2.out.2.2.cell 0
     have c1 := HW2.out.2.2.cell 1
     have c2 := HW2.out.2.2.cell 2
     have c3 := HW2.out.2.2.cell 3
     have c4 := HW2.out.2.2.cell 4
     simp only [List.getElem?_toArray, List.getElem?_cons_zero, List.getElem?_cons_succ] at a0 a1 a2 a3 a4 c0 c1 c2 c3 c4
     go_wp2_with (first
       | ((with_reducible refine HS.out.mono ?_); rintro e w3 ⟨rfl, hb3⟩; dsimp only; have H3 := Lib.hid (HW2.out.1.trans (hb3.mono HW2.out.1.size)); clear hb3))
     have hrg3 := HX.out.2.1.kept (below_gn H3.out) (by simp) (by simp)
     go_roundw
     case rel => exact ⟨_, cnt1, hrg3, HX.out.1.trans (H3.out.mono HX.out.1.size)⟩
     case measure => rw [hrg3.left_eq, hrg.left_eq]; exact hlt
end Go.Proofs.Ytidkpdoiblomjaa.Tlv
