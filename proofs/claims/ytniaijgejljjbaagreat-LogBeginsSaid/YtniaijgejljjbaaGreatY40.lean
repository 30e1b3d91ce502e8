/- What stands behind a place; one more, appended. -/
import Derived.Test.YtniaijgejljjbaaGreatY39
namespace Go.Proofs.YtniaijgejljjbaaGreat.Tlv
open Go.RowKit
set_option maxRecDepth 100000
set_option linter.unusedVariables false
set_option linter.unusedSimpArgs false
def TO (b : Nat) (t : TypeId) : Prop := t = 46
theorem FrT.row {α : Type} [Inhabited α] {K : Kind α} {sp : Spc} {n0 : Nat} {T : Nat → TypeId → Prop} {w0 w w' : World} {v : Value} {l : List α} (h : FrT sp n0 T w0 w) (hr : RowK K w n0 v l) (hg : w.grownBy w' v.ownBlock) (hT : ∀ b, T b K.e) (h66 : K.e ≠ 61) (hn : n0 ≤ w0.heap.size) : FrT sp n0 T w0 w' := by
 have hty : ∀ b t cs, t ≠ K.e → Blk w b t cs → Blk w' b t cs := fun b t cs ht hk => hk.grown hg (fun e => by
   obtain ⟨_, _, cur, hc⟩ := own_atT hr e.symm
   exact ht (by
     unfold Blk at hk hc
     rw [hk] at hc
     injection hc with hc
     injection hc with _ hc))
 exact ⟨h.bel.trans ((Below.refl n0 w).grown hg (Nat.le_trans hn h.bel.size) (fun k hk => (own_atT hr hk).1)), fun b t cs ht hk => hty b t cs (fun e => ht (by rw [e]; exact hT b)) (h.typ b t cs ht hk), arr_on h.arr fun b cur hk => hty b 61 cur (fun e => h66 e.symm) hk⟩
theorem OpOwn.on {w w' : World} {base : Nat} {o : Opn} {va vp vc : Value} (h : OpOwn w base o va vp vc) (hb : Below w.heap.size w w') : OpOwn w' base o va vp vc := h.keep fun k _ h2 => hb.block k h2
def FromOut (D : List Mq) (w : World) (e : Ending) (w' : World) : Prop := ∃ A n c O, e = .returned (.tuple #[.slice A n c, .int .i64 0]) ∧ n = D.length ∧ RowK kRq w' w.heap.size (.slice A n c) O ∧ means O = D ∧ (∀ x ∈ O, OpOwn w' w.heap.size x.o x.va x.vp x.vc) ∧ Below w.heap.size w w'
structure FromI (D : List Mq) (w wr : World) (k : Nat) (v : Value) (O : List Rq) : Prop where
 row : RowK kRq wr w.heap.size v O
 mean : means O = D.take k
 own : ∀ x ∈ O, OpOwn wr w.heap.size x.o x.va x.vp x.vc
 bel : Below w.heap.size w wr
theorem fx1 {D : List Mq} {w wr w5 w2 : World} {k : Nat} {v : Value} {O : List Rq} (h : FromI D w wr k v O) (hb : Below wr.heap.size wr w5) {c n : Int} {o : Opn} {A2 A3 A4 : Option Addr} {n2 c2 n3 c3 n4 c4 : Nat}
   (hown : OpOwn w2 w5.heap.size o (.slice A2 n2 c2) (.slice A3 n3 c3) (.slice A4 n4 c4)) (hb2 : Below w5.heap.size w5 w2) :
   RowK kRq (w2.alloc (.cells (rqCs c n o (.slice A2 n2 c2) (.slice A3 n3 c3) (.slice A4 n4 c4)) 46)) w.heap.size v O ∧ w.heap.size ≤ (w2.alloc (.cells (rqCs c n o (.slice A2 n2 c2) (.slice A3 n3 c3) (.slice A4 n4 c4)) 46)).heap.size ∧
   FrT spA w.heap.size TO wr (w2.alloc (.cells (rqCs c n o (.slice A2 n2 c2) (.slice A3 n3 c3) (.slice A4 n4 c4)) 46)) ∧ OpOwn (w2.alloc (.cells (rqCs c n o (.slice A2 n2 c2) (.slice A3 n3 c3) (.slice A4 n4 c4)) 46)) w.heap.size o (.slice A2 n2 c2) (.slice A3 n3 c3) (.slice A4 n4 c4) := by
 have hbx := hb.trans (hb2.mono hb.size)
 have hf : FrT spA w.heap.size TO wr w2 := FrT.of hbx h.bel.size
 refine ⟨(RowK.onT h.row hbx).alloc _, ?_, hf.alloc h.bel.size _, (hown.low (Nat.le_trans h.bel.size hb.size)).on ((Below.refl _ _).alloc (Nat.le_refl _) _)⟩
 have := h.bel.size; have := hbx.size; simp; omega
theorem fx2 {D : List Mq} {w wr W w' : World} {k : Nat} {v v' : Value} {O : List Rq} (h : FromI D w wr k v O) {c n : Int} {o : Opn} {A2 A3 A4 : Option Addr} {n2 c2 n3 c3 n4 c4 : Nat}
   (h2 : RowK kRq W w.heap.size v O ∧ w.heap.size ≤ W.heap.size ∧ FrT spA w.heap.size TO wr W ∧ OpOwn W w.heap.size o (.slice A2 n2 c2) (.slice A3 n3 c3) (.slice A4 n4 c4))
   (hrow : RowK kRq w' w.heap.size v' (O ++ [⟨c, n, o, A2, n2, c2, A3, n3, c3, A4, n4, c4⟩])) (hg : W.grownBy w' v.ownBlock) (hstep : D.take (k + 1) = D.take k ++ [⟨c, n, o⟩]) :
   FromI D w w' (k + 1) v' (O ++ [⟨c, n, o, A2, n2, c2, A3, n3, c3, A4, n4, c4⟩]) := by
 have hf := h2.2.2.1.row h2.1 hg (fun _ => rfl) (by decide) h.bel.size
 refine ⟨hrow, by rw [means_app, h.mean, hstep]; rfl, fun x hx => ?_, h.bel.trans hf.bel⟩
 have hf2 : FrT spA w.heap.size TO W w' := (FrT.refl h2.2.1).row h2.1 hg (fun _ => rfl) (by decide) h2.2.1
 rcases List.mem_append.1 hx with hx | hx
 · exact (h.own x hx).frT hf (by intro b; simp [TO]) (by intro b; simp [TO]) (by intro b; simp [TO])
 · rw [List.mem_singleton] at hx
   subst hx
   exact h2.2.2.2.frT hf2 (by intro b; simp [TO]) (by intro b; simp [TO]) (by intro b; simp [TO])
theorem fx3 {D : List Mq} {w wr : World} {k m : Nat} {v : Value} {O : List Rq} (h : FromI D w wr k v O) (hm : m = O.length) (hk : D.length ≤ k) : m = D.length := by
 rw [hm, ← means_len, h.mean, List.take_of_length_le hk]
set_option maxHeartbeats 16000000 in
theorem from_ok {sp : Spc} (n0 g B i m : Nat) (P : List Rq) (w : World) (h : LogP sp n0 w g B P) (hn0 : n0 ≤ w.heap.size) (hl : P.length ≤ 1000) (hB : B ≤ 9000000000000000000) (hm : m = B + i) (hi : i ≤ P.length) :
   Calls Tryz.prog 30 #[.pointer (some ⟨g, 0, none⟩), .int .u64 m] w (FromOut (means (P.drop i)) w) := by
 obtain ⟨⟨A, n, c, hk, hO, hsp⟩, hown, hlow, hgood, hspn⟩ := h
 have hnl := hO.len
 have hin : i ≤ n := by omega
 have hnc := hO.le
 have hic : i ≤ c := by omega
 have hn1 : n ≤ 1000 := by omega
 have HI := Lib.hid (index_in g B n c i m A _ w hk hB (by omega) hm hin)
 have c2 : w.cell? ⟨g, 2, none⟩ = some (.slice A n c) := hk.cell 2
 obtain ⟨D, hD⟩ : ∃ D, D = P.drop i := ⟨_, rfl⟩
 have hDl : D.length = n - i := by rw [hD, List.length_drop]; omega
 have hown2 : ∀ x ∈ D, OpOwn w n0 x.o x.va x.vp x.vc := fun x hx => hown x (by rw [hD] at hx; exact List.mem_of_mem_drop hx)
 have hgood2 : ∀ m ∈ means D, m.Good := by rw [hD]; exact good_drop hgood i
 rw [← hD]
 by_cases hci : c = i
 · have hR : RdK kIt w w.heap.size A D := by rw [hD]; exact (hO.dropAll (i := i) (by omega) (by omega)).rd
   have HX := Lib.hid (And.intro hR (And.intro hown2 (And.intro hgood2 hDl)))
   obtain ⟨nn, hnn⟩ : ∃ nn, nn = n - i := ⟨_, rfl⟩
   have hnn1 : nn ≤ 1000 := by omega
   have HNN := Lib.hid hnn
   clear hk hO hown hlow hgood hnl hm hi hl hD hDl hown2 hgood2 hR hnn
   go_enter Tryz.func30, Tryz.ntmps30
   go_upto_region 5 with (go_at_call 35; (with_reducible refine HI.out.mono ?_); rintro e w1 ⟨rfl, rfl⟩)
   go_upto_region 6 with fail
   rw [← HNN.out]
   generalize A = A2 at HX ⊢
   go_loopw [8, 27] (fun s8 s27 wr => ∃ k : Nat, s27 = .int .i64 k ∧ k ≤ nn ∧ Hid (∃ O, FromI (means D) w wr k s8 O)) (fun _ s27 _ => nn - (intOf s27).toNat)
   case atStart => exact ⟨0, rfl, Nat.zero_le _, Lib.hid ⟨[], nil_row kRq _ _, rfl, (fun x hx => by cases hx), Below.refl _ _⟩⟩
   case round =>
     obtain ⟨k, rfl, hkn, HF⟩ := hrel
     obtain ⟨O, hF⟩ := HF.out
     by_cases hlt : k < nn
     · have hkD : k < D.length := by have := HX.out.2.2.2; have := HNN.out; omega
       have hki : (k : Int) < (nn : Int) := by omega
       have hOl : O.length = k := by have := congrArg List.length hF.mean; rw [means_len, List.length_take, means_len] at this; omega
       have hat := (HX.out.2.1 _ (mem_getD hkD)).at.on hF.bel
       have hgd := HX.out.2.2.1 _ (means_mem hkD)
       have hstep : (means D).take (k + 1) = (means D).take k ++ [(D.getD k default).m] := by
         rw [List.take_add_one, List.getElem?_eq_getElem (by rw [means_len]; exact hkD), List.getD_eq_getElem?_getD, List.getElem?_eq_getElem hkD]
         simp [means]
       obtain ⟨b, off, rfl, hbl, hra⟩ := it_range (HX.out.1.below hF.bel) hkD
       generalize D.getD k default = x at hat hgd hstep hra
       obtain ⟨xc, xn, xo, Aa, la, ca, Ap, lp, cp, Ac, lc, cc⟩ := x
       obtain ⟨s, hs⟩ : ∃ s, s = szQ xc xn xo := ⟨_, rfl⟩
       have hra2 : wr.rangeAt b (off + k * 10) [.int .u64 xc, .int .u64 xn, .int .i64 xo.k, .string (sx xo.name), .string (sx xo.dst), .slice Aa la ca, .slice Ap lp cp, .slice Ac lc cc, .int .i64 xo.n, .int .i64 s] := by rw [hs]; exact hra
       have HK := Lib.hid (Blk.new wr 61 itZ)
       have HY := Lib.hid (And.intro hra2 (And.intro hat (And.intro hgd (And.intro hstep hOl))))
       have HF2 := Lib.hid hF
       clear hra hra2 hs hat hgd hstep hOl hF HF
       go_upto_region 8 with (first
         | (refine wpList_load_mid rfl 61 _ rfl b (off + k * 10) rfl [.int .u64 xc, .int .u64 xn, .int .i64 xo.k, .string (sx xo.name), .string (sx xo.dst), .slice Aa la ca, .slice Ap lp cp, .slice Ac lc cc, .int .i64 xo.n, .int .i64 s] _ HY.out.1 rfl rfl (by kernel_rfl) ?_)
         | (refine wpList_store_rowTo rfl 61 _ _ rfl rfl wr.heap.size (itCs xc xn xo (.slice Aa la ca) (.slice Ap lp cp) (.slice Ac lc cc) s) rfl rfl 61 itZ HK.out (by kernel_rfl) rfl (by kernel_rfl) ?_))
       have h9 := HK.out.row (itCs xc xn xo (.slice Aa la ca) (.slice Ap lp cp) (.slice Ac lc cc) s)
       have h8 := below_setRow ((Below.refl wr.heap.size wr).alloc (Nat.le_refl _) (.cells itZ 61)) (Nat.le_refl _) (itCs xc xn xo (.slice Aa la ca) (.slice Ap lp cp) (.slice Ac lc cc) s)
       have HB := Lib.hid (And.intro h8 h9)
       clear h8 h9
       generalize (wr.alloc (.cells itZ 61)).setRow wr.heap.size (itCs xc xn xo (.slice Aa la ca) (.slice Ap lp cp) (.slice Ac lc cc) s) = w5 at HB ⊢
       have HC := Lib.hid (copyRq xc xn xo _ _ _ w5 (HY.out.2.1.on HB.out.1) HY.out.2.2.1.ok.lim HY.out.2.2.1.ok.cur)
       have HRA : Hid (w5.rangeAt wr.heap.size 0 [.int .u64 xc, .int .u64 xn, .int .i64 xo.k, .string (sx xo.name), .string (sx xo.dst), .slice Aa la ca, .slice Ap lp cp, .slice Ac lc cc, .int .i64 xo.n]) := Lib.hid fun q v hv => by
         have hq : q < 9 := (List.getElem?_eq_some_iff.1 hv).1
         rw [Nat.zero_add, HB.out.2.cell, ← hv]
         rcases q with _ | _ | _ | _ | _ | _ | _ | _ | _ | q <;> first | rfl | omega
       go_wp2_with (first
         | (refine wpList_load_mid rfl 46 _ rfl wr.heap.size 0 rfl [.int .u64 xc, .int .u64 xn, .int .i64 xo.k, .string (sx xo.name), .string (sx xo.dst), .slice Aa la ca, .slice Ap lp cp, .slice Ac lc cc, .int .i64 xo.n] _ HRA.out rfl rfl (by kernel_rfl) ?_)
         | (go_at_call 37; (with_reducible refine HC.out.mono ?_); clear HC; rintro e w2 ⟨A2, n2, c2, A3, n3, c3, A4, n4, c4, rfl, hown, hb2⟩; dsimp only; have H2 := Lib.hid (fx1 HF2.out HB.out.1 hown hb2 (c := xc) (n := xn)); clear hown hb2)
         | (at_builtin; refine wpList_appK kRq rfl _ _ rfl [⟨xc, xn, xo, A2, n2, c2, A3, n3, c3, A4, n4, c4⟩] rfl H2.out.1 rfl (rd_block (K := kRq) (l := [⟨xc, xn, xo, A2, n2, c2, A3, n3, c3, A4, n4, c4⟩]) (Blk.new w2 46 (rqCs xc xn xo (.slice A2 n2 c2) (.slice A3 n3 c3) (.slice A4 n4 c4))) rfl) (fun h => by cases h) (by rw [HY.out.2.2.2.2]; simp; omega) H2.out.2.1 ?_; intro v' w' hrow hgrow))
       go_roundw
       case rel => exact ⟨k + 1, by go_num, by omega, Lib.hid ⟨_, fx2 HF2.out H2.out hrow hgrow HY.out.2.2.2.1⟩⟩
       case measure => simp [intOf]; omega
     · have hki : ¬ (k : Int) < (nn : Int) := by omega
       obtain ⟨A9, c9, n9, HN9, rfl, _, _⟩ := RowK.rdn hF.row
       have HF2 := Lib.hid hF
       clear hF HF
       go_wp2
       go_ret2
       exact ⟨_, _, _, O, rfl, fx3 HF2.out HN9.out (by rw [means_len]; have := HX.out.2.2.2; have := HNN.out; omega), HF2.out.row, by rw [HF2.out.mean]; exact List.take_of_length_le (by rw [means_len]; have := HX.out.2.2.2; have := HNN.out; omega), HF2.out.own, HF2.out.bel⟩
 · have hR : RdK kIt w w.heap.size (Option.map (fun x => x.add (i * 10)) A) D := by rw [hD]; exact (hO.dropMap hin hci).rd
   have HX := Lib.hid (And.intro hR (And.intro hown2 (And.intro hgood2 hDl)))
   obtain ⟨nn, hnn⟩ : ∃ nn, nn = n - i := ⟨_, rfl⟩
   have hnn1 : nn ≤ 1000 := by omega
   have HNN := Lib.hid hnn
   clear hk hO hown hlow hgood hnl hm hi hl hD hDl hown2 hgood2 hR hnn
   go_enter Tryz.func30, Tryz.ntmps30
   go_upto_region 5 with (go_at_call 35; (with_reducible refine HI.out.mono ?_); rintro e w1 ⟨rfl, rfl⟩)
   go_upto_region 6 with fail
   rw [← HNN.out]
   generalize Option.map (fun x => x.add (i * 10)) A = A2 at HX ⊢
   go_loopw [8, 27] (fun s8 s27 wr => ∃ k : Nat, s27 = .int .i64 k ∧ k ≤ nn ∧ Hid (∃ O, FromI (means D) w wr k s8 O)) (fun _ s27 _ => nn - (intOf s27).toNat)
   case atStart => exact ⟨0, rfl, Nat.zero_le _, Lib.hid ⟨[], nil_row kRq _ _, rfl, (fun x hx => by cases hx), Below.refl _ _⟩⟩
   case round =>
     obtain ⟨k, rfl, hkn, HF⟩ := hrel
     obtain ⟨O, hF⟩ := HF.out
     by_cases hlt : k < nn
     · have hkD : k < D.length := by have := HX.out.2.2.2; have := HNN.out; omega
       have hki : (k : Int) < (nn : Int) := by omega
       have hOl : O.length = k := by have := congrArg List.length hF.mean; rw [means_len, List.length_take, means_len] at this; omega
       have hat := (HX.out.2.1 _ (mem_getD hkD)).at.on hF.bel
       have hgd := HX.out.2.2.1 _ (means_mem hkD)
       have hstep : (means D).take (k + 1) = (means D).take k ++ [(D.getD k default).m] := by
         rw [List.take_add_one, List.getElem?_eq_getElem (by rw [means_len]; exact hkD), List.getD_eq_getElem?_getD, List.getElem?_eq_getElem hkD]
         simp [means]
       obtain ⟨b, off, rfl, hbl, hra⟩ := it_range (HX.out.1.below hF.bel) hkD
       generalize D.getD k default = x at hat hgd hstep hra
       obtain ⟨xc, xn, xo, Aa, la, ca, Ap, lp, cp, Ac, lc, cc⟩ := x
       obtain ⟨s, hs⟩ : ∃ s, s = szQ xc xn xo := ⟨_, rfl⟩
       have hra2 : wr.rangeAt b (off + k * 10) [.int .u64 xc, .int .u64 xn, .int .i64 xo.k, .string (sx xo.name), .string (sx xo.dst), .slice Aa la ca, .slice Ap lp cp, .slice Ac lc cc, .int .i64 xo.n, .int .i64 s] := by rw [hs]; exact hra
       have HK := Lib.hid (Blk.new wr 61 itZ)
       have HY := Lib.hid (And.intro hra2 (And.intro hat (And.intro hgd (And.intro hstep hOl))))
       have HF2 := Lib.hid hF
       clear hra hra2 hs hat hgd hstep hOl hF HF
       go_upto_region 8 with (first
         | (refine wpList_load_mid rfl 61 _ rfl b (off + k * 10) rfl [.int .u64 xc, .int .u64 xn, .int .i64 xo.k, .string (sx xo.name), .string (sx xo.dst), .slice Aa la ca, .slice Ap lp cp, .slice Ac lc cc, .int .i64 xo.n, .int .i64 s] _ HY.out.1 rfl rfl (by kernel_rfl) ?_)
         | (refine wpList_store_rowTo rfl 61 _ _ rfl rfl wr.heap.size (itCs xc xn xo (.slice Aa la ca) (.slice Ap lp cp) (.slice Ac lc cc) s) rfl rfl 61 itZ HK.out (by kernel_rfl) rfl (by kernel_rfl) ?_))
       have h9 := HK.out.row (itCs xc xn xo (.slice Aa la ca) (.slice Ap lp cp) (.slice Ac lc cc) s)
       have h8 := below_setRow ((Below.refl wr.heap.size wr).alloc (Nat.le_refl _) (.cells itZ 61)) (Nat.le_refl _) (itCs xc xn xo (.slice Aa la ca) (.slice Ap lp cp) (.slice Ac lc cc) s)
       have HB := Lib.hid (And.intro h8 h9)
       clear h8 h9
       generalize (wr.alloc (.cells itZ 61)).setRow wr.heap.size (itCs xc xn xo (.slice Aa la ca) (.slice Ap lp cp) (.slice Ac lc cc) s) = w5 at HB ⊢
       have HC := Lib.hid (copyRq xc xn xo _ _ _ w5 (HY.out.2.1.on HB.out.1) HY.out.2.2.1.ok.lim HY.out.2.2.1.ok.cur)
       have HRA : Hid (w5.rangeAt wr.heap.size 0 [.int .u64 xc, .int .u64 xn, .int .i64 xo.k, .string (sx xo.name), .string (sx xo.dst), .slice Aa la ca, .slice Ap lp cp, .slice Ac lc cc, .int .i64 xo.n]) := Lib.hid fun q v hv => by
         have hq : q < 9 := (List.getElem?_eq_some_iff.1 hv).1
         rw [Nat.zero_add, HB.out.2.cell, ← hv]
         rcases q with _ | _ | _ | _ | _ | _ | _ | _ | _ | q <;> first | rfl | omega
       go_wp2_with (first
         | (refine wpList_load_mid rfl 46 _ rfl wr.heap.size 0 rfl [.int .u64 xc, .int .u64 xn, .int .i64 xo.k, .string (sx xo.name), .string (sx xo.dst), .slice Aa la ca, .slice Ap lp cp, .slice Ac lc cc, .int .i64 xo.n] _ HRA.out rfl rfl (by kernel_rfl) ?_)
         | (go_at_call 37; (with_reducible refine HC.out.mono ?_); clear HC; rintro e w2 ⟨A2, n2, c2, A3, n3, c3, A4, n4, c4, rfl, hown, hb2⟩; dsimp only; have H2 := Lib.hid (fx1 HF2.out HB.out.1 hown hb2 (c := xc) (n := xn)); clear hown hb2)
         | (at_builtin; refine wpList_appK kRq rfl _ _ rfl [⟨xc, xn, xo, A2, n2, c2, A3, n3, c3, A4, n4, c4⟩] rfl H2.out.1 rfl (rd_block (K := kRq) (l := [⟨xc, xn, xo, A2, n2, c2, A3, n3, c3, A4, n4, c4⟩]) (Blk.new w2 46 (rqCs xc xn xo (.slice A2 n2 c2) (.slice A3 n3 c3) (.slice A4 n4 c4))) rfl) (fun h => by cases h) (by rw [HY.out.2.2.2.2]; simp; omega) H2.out.2.1 ?_; intro v' w' hrow hgrow))
       go_roundw
       case rel => exact ⟨k + 1, by go_num, by omega, Lib.hid ⟨_, fx2 HF2.out H2.out hrow hgrow HY.out.2.2.2.1⟩⟩
       case measure => simp [intOf]; omega
     · have hki : ¬ (k : Int) < (nn : Int) := by omega
       obtain ⟨A9, c9, n9, HN9, rfl, _, _⟩ := RowK.rdn hF.row
       have HF2 := Lib.hid hF
       clear hF HF
       go_wp2
       go_ret2
       exact ⟨_, _, _, O, rfl, fx3 HF2.out HN9.out (by rw [means_len]; have := HX.out.2.2.2; have := HNN.out; omega), HF2.out.row, by rw [HF2.out.mean]; exact List.take_of_length_le (by rw [means_len]; have := HX.out.2.2.2; have := HNN.out; omega), HF2.out.own, HF2.out.bel⟩
theorem from_no (g k c b m : Nat) (A : Option Addr) (z : Value) (w : World) (h : Blk w g 65 #[.bool true, .int .u64 b, .slice A k c, z]) (hb : b ≤ 9000000000000000000) (hk : k ≤ 1000000) (hm : m < b ∨ b + k < m) : Calls Tryz.prog 30 #[.pointer (some ⟨g, 0, none⟩), .int .u64 m] w fun e w' => e = .returned (.tuple #[.slice none 0 0, .int .i64 8]) ∧ w = w' := by
 have HI := Lib.hid (index_out g b k c m A z w h hb hk hm)
 clear h hm
 go_enter Tryz.func30, Tryz.ntmps30
 go_wp2_with (go_at_call 35; (with_reducible refine HI.out.mono ?_); rintro e w1 ⟨rfl, rfl⟩)
 go_ret2
 exact ⟨rfl, rfl⟩
end Go.Proofs.YtniaijgejljjbaaGreat.Tlv
