/- The reference's Put, walked. -/
import Derived.Test.YtidkpdoiblomjaaZ38
import Derived.Test.YtidkpdoiblomjaaZ44
namespace Go.Proofs.Ytidkpdoiblomjaa.Tlv
open Go.RowKit Go.Maps
set_option maxRecDepth 100000
set_option linter.unusedVariables false
set_option linter.unusedSimpArgs false
def RpOut (w : World) (rb : Nat) (T : Tb) (N : Nat) (c m : Int) (r : Res) (e : Ending) (w' : World) : Prop :=
 e = .returned (.int .i64 (putC T N c m r)) ∧ ∃ A n a L, Blk w' rb 53 #[.slice A n a] ∧ RowK kT w' (rb + 1) (.slice A n a) L ∧ RefRep L (putT T N c m r) (putN T N c m r) ∧ w.grownBy w' (some rb)
theorem app_step {W0 wr w2 : World} {v : Value} {l : List Td} {o : Obj} (h1 : RowK kT wr W0.heap.size v l) (hb : Below W0.heap.size W0 wr) (hg : (wr.alloc o).grownBy w2 v.ownBlock) : Below W0.heap.size W0 w2 :=
 (hb.alloc hb.size o).trans (row_below (h1.alloc o) hg (by rw [World.size_alloc]; have := hb.size; omega))
theorem set_grown {w w3 : World} {rb : Nat} {u : Value} (h : Below w.heap.size w w3) : w.grownBy (w3.setCell ⟨rb, 0, none⟩ u) (some rb) := by
 have h0 := (h.mono (Nat.zero_le _)).setCell (p := ⟨rb, 0, none⟩) (Nat.zero_le _) u
 exact ⟨h0.os, h0.tape, h0.output, h0.size, fun k hk hne => (Below.heap_setCell w3 ⟨rb, 0, none⟩ u k (fun e => hne (by rw [e]))).trans (h.block k hk)⟩
theorem rp_not {w w' : World} {rb n a N : Nat} {A : Option Addr} {L : List Td} {T : Tb} {c m : Int} {r : Res} {e : Ending} {x : Int} (hx : putC T N c m r = x) (h0 : x ≠ 0) (he : e = .returned (.int .i64 x)) (hB : Blk w rb 53 #[.slice A n a]) (hrow : RowK kT w (rb + 1) (.slice A n a) L) (hrep : RefRep L T N) (hb : Below w.heap.size w w') : RpOut w rb T N c m r e w' := by
 have h1 : ¬ putC T N c m r = 0 := by rw [hx]; exact h0
 refine ⟨by rw [hx]; exact he, A, n, a, L, hB.on hb, RowK.onT hrow hb, ?_, below_grown0 rb hb⟩
 unfold putT putN
 rw [if_neg h1, if_neg h1]
 exact hrep
theorem rp_yes {w w3 : World} {rb : Nat} {v : Value} {base N : Nat} {L M : List Td} {T : Tb} {x : Td} {r : Res} {e : Ending} {old : Array Value} {A : Option Addr} {n a : Nat} (hv : v = .slice A n a) (hx : putC T N x.c x.n r = 0) (he : e = .returned (.int .i64 0)) (hB : Blk w3 rb 53 old) (h1 : old.size = 1) (hrow : RowK kT w3 base v M) (hM : M = insL x L) (hbs : rb + 1 ≤ base) (hrep : RefRep L T N) (hb : Below w.heap.size w w3) : RpOut w rb T N x.c x.n r e (w3.setCell ⟨rb, 0, none⟩ v) := by
 subst hv hM
 refine ⟨by rw [hx]; exact he, A, n, a, insL x L, ?_, RowK.setT (RowK.lowR hrow hbs) hB (by decide), ?_, set_grown hb⟩
 · have := hB.set_ 0 (.slice A n a)
   obtain ⟨old⟩ := old
   match old, h1 with
   | [z], _ => exact this
 · unfold putT putN
   rw [if_pos hx, if_pos hx]
   exact hrep.ins x r
set_option maxHeartbeats 32000000 in
theorem rp_old (rb n a N : Nat) (A : Option Addr) (L : List Td) (T : Tb) (c m k0 : Int) (y0 : Bool) (Aa : Option Addr) (na ca : Nat) (Ac : Option Addr) (nc cc : Nat) (r : Res) (w : World) (hB : Blk w rb 53 #[.slice A n a]) (hrow : RowK kT w (rb + 1) (.slice A n a) L) (hrep : RefRep L T N) (hN : N ≤ 16) (hm : mayR r = true) (z : Int × Res) (hT : T c = some z) (hle : m ≤ z.1) :
   Calls Try.prog 16 #[.pointer (some ⟨rb, 0, none⟩), .int .u64 c, .int .u64 m, rsVal k0 y0 (.slice Aa na ca) (.slice Ac nc cc)] w (RpOut w rb T N c m r) := by
 have hnL : n = L.length := by
   obtain ⟨A', c', e, _⟩ := RowK.rd0 hrow
   injection e
 have hLl : L.length ≤ 16 := by rw [hrep.len]; exact hN
 have hn16 : n ≤ 16 := by omega
 have HR := Lib.hid (And.intro hB (And.intro hrow (And.intro hrep (And.intro hnL hLl))))
 have hb : Below w.heap.size w (w.alloc (.cells (rsCs k0 y0 (.slice Aa na ca) (.slice Ac nc cc)) 39)) := (Below.refl _ _).alloc (Nat.le_refl _) _
 have kk := Blk.new w 39 (rsCs k0 y0 (.slice Aa na ca) (.slice Ac nc cc))
 obtain ⟨B1, hB1⟩ : ∃ b, b = w.heap.size := ⟨_, rfl⟩
 have HB := Lib.hid (And.intro hb (And.intro (show Blk _ B1 39 _ from hB1 ▸ kk) (And.intro (hB.on hb) (And.intro (RowK.onT hrow hb) (show rb < B1 from hB1 ▸ hB.lt)))))
 have hrd : RdK kT (w.alloc (.cells (rsCs k0 y0 (.slice Aa na ca) (.slice Ac nc cc)) 39)) (w.alloc (.cells (rsCs k0 y0 (.slice Aa na ca) (.slice Ac nc cc)) 39)).heap.size A L := by
   obtain ⟨A', c', e, _, h⟩ := RowK.rd0 (RowK.onT hrow hb)
   injection e with e1 e2 e3
   subst e1
   exact h
 have HA := Lib.hid (And.intro (refAt_any rb n a A L c _ (hB.on hb) hrd hnL (by omega)) hrd)
 have HT := Lib.hid (And.intro hT (And.intro hle hm))
 clear hT hle hm
 clear hb kk hB hrow hrep hN hrd hnL hLl
 go_enter Try.func16, Try.ntmps16
 go_upto_region 1 with fail
 rw [← hB1]
 generalize w.alloc (.cells (rsCs k0 y0 (.slice Aa na ca) (.slice Ac nc cc)) 39) = W0 at HB HA ⊢
 clear hB1
 have c0 := HB.out.2.2.1.cell 0
 simp only [List.getElem?_toArray, List.getElem?_cons_zero, List.getElem?_cons_succ] at c0
 go_upto_region 2 with (go_at_call 20; (with_reducible refine HA.out.1.mono ?_); rintro e w1 ⟨⟨i, rfl, hi⟩, rfl⟩; dsimp only; have HI := Lib.hid hi; clear hi)
 obtain ⟨k, hik, hkL, hkc⟩ : ∃ k : Nat, i = (k : Int) ∧ k < L.length ∧ (L.getD k default).c = c := by
   rcases HI.out with ⟨_, h⟩ | h
   · obtain ⟨y, hy, e⟩ := HR.out.2.2.1.all c _ HT.out.1
     exact absurd e (h y hy)
   · exact h
 have hkn : (L.getD k default).n = z.1 := by
   obtain ⟨r', hr'⟩ := HR.out.2.2.1.row (L.getD k default) (by rw [List.getD_eq_getElem?_getD, List.getElem?_eq_getElem hkL]; exact List.getElem_mem hkL)
   rw [hkc, HT.out.1] at hr'
   injection hr' with hr'
   rw [hr']
 subst hik
 obtain ⟨b, off, rfl, hb, d0, d1, d2, d3, d4, d5⟩ := td_cellsG kT rfl (fun _ => rfl) HA.out.2 (Below.refl _ _) hkL
 rw [hkn] at d1
 have hkn' : k < n := by have := HR.out.2.2.2.1; omega
 have hk0 : (0 : Int) ≤ (k : Int) := by omega
 have hcmp : m ≤ z.1 := HT.out.2.1
 clear d0 d2 d3 d4 d5 hkL hkc hkn hb
 go_wp2
 go_ret
 exact rp_not (x := 14) (by unfold putC; rw [if_neg (by rw [HT.out.2.2]; decide), HT.out.1]; exact if_pos HT.out.2.1) (by decide) rfl HR.out.1 HR.out.2.1 HR.out.2.2.1 HB.out.1
set_option maxHeartbeats 32000000 in
theorem rp_full (rb n a N : Nat) (A : Option Addr) (L : List Td) (T : Tb) (c m k0 : Int) (y0 : Bool) (Aa : Option Addr) (na ca : Nat) (Ac : Option Addr) (nc cc : Nat) (r : Res) (w : World) (hB : Blk w rb 53 #[.slice A n a]) (hrow : RowK kT w (rb + 1) (.slice A n a) L) (hrep : RefRep L T N) (hN : N ≤ 16) (hm : mayR r = true) (hT : T c = none) (hN6 : N = 16) :
   Calls Try.prog 16 #[.pointer (some ⟨rb, 0, none⟩), .int .u64 c, .int .u64 m, rsVal k0 y0 (.slice Aa na ca) (.slice Ac nc cc)] w (RpOut w rb T N c m r) := by
 have hnL : n = L.length := by
   obtain ⟨A', c', e, _⟩ := RowK.rd0 hrow
   injection e
 have hLl : L.length ≤ 16 := by rw [hrep.len]; exact hN
 have hn16 : n ≤ 16 := by omega
 have HR := Lib.hid (And.intro hB (And.intro hrow (And.intro hrep (And.intro hnL hLl))))
 have hb : Below w.heap.size w (w.alloc (.cells (rsCs k0 y0 (.slice Aa na ca) (.slice Ac nc cc)) 39)) := (Below.refl _ _).alloc (Nat.le_refl _) _
 have kk := Blk.new w 39 (rsCs k0 y0 (.slice Aa na ca) (.slice Ac nc cc))
 obtain ⟨B1, hB1⟩ : ∃ b, b = w.heap.size := ⟨_, rfl⟩
 have HB := Lib.hid (And.intro hb (And.intro (show Blk _ B1 39 _ from hB1 ▸ kk) (And.intro (hB.on hb) (And.intro (RowK.onT hrow hb) (show rb < B1 from hB1 ▸ hB.lt)))))
 have hrd : RdK kT (w.alloc (.cells (rsCs k0 y0 (.slice Aa na ca) (.slice Ac nc cc)) 39)) (w.alloc (.cells (rsCs k0 y0 (.slice Aa na ca) (.slice Ac nc cc)) 39)).heap.size A L := by
   obtain ⟨A', c', e, _, h⟩ := RowK.rd0 (RowK.onT hrow hb)
   injection e with e1 e2 e3
   subst e1
   exact h
 have HA := Lib.hid (And.intro (refAt_any rb n a A L c _ (hB.on hb) hrd hnL (by omega)) hrd)
 have HT := Lib.hid (And.intro hT (And.intro hN6 hm))
 have hn2 : (16 : Int) ≤ (n : Int) := by have := hrep.len; omega
 clear hT hN6 hm
 clear hb kk hB hrow hrep hN hrd hnL hLl
 go_enter Try.func16, Try.ntmps16
 go_upto_region 1 with fail
 rw [← hB1]
 generalize w.alloc (.cells (rsCs k0 y0 (.slice Aa na ca) (.slice Ac nc cc)) 39) = W0 at HB HA ⊢
 clear hB1
 have c0 := HB.out.2.2.1.cell 0
 simp only [List.getElem?_toArray, List.getElem?_cons_zero, List.getElem?_cons_succ] at c0
 go_upto_region 2 with (go_at_call 20; (with_reducible refine HA.out.1.mono ?_); rintro e w1 ⟨⟨i, rfl, hi⟩, rfl⟩; dsimp only; have HI := Lib.hid hi; clear hi)
 have hi1 : i = -1 := by
   rcases HI.out with ⟨e, _⟩ | ⟨k, e, hk, e2⟩
   · exact e
   · obtain ⟨r', hr'⟩ := HR.out.2.2.1.row (L.getD k default) (by rw [List.getD_eq_getElem?_getD, List.getElem?_eq_getElem hk]; exact List.getElem_mem hk)
     rw [e2, HT.out.1] at hr'
     cases hr'
 subst hi1
 go_wp2
 go_ret
 exact rp_not (x := 10) (by unfold putC; rw [if_neg (by rw [HT.out.2.2]; decide), HT.out.1]; exact if_pos HT.out.2.1) (by decide) rfl HR.out.1 HR.out.2.1 HR.out.2.2.1 HB.out.1
set_option maxHeartbeats 32000000 in
theorem rp_new (rb n a N : Nat) (A : Option Addr) (L : List Td) (T : Tb) (c m k0 : Int) (y0 : Bool) (Aa : Option Addr) (na ca : Nat) (Ac : Option Addr) (nc cc : Nat) (r : Res) (w : World) (hB : Blk w rb 53 #[.slice A n a]) (hrow : RowK kT w (rb + 1) (.slice A n a) L) (hrep : RefRep L T N) (hN : N ≤ 16) (hm : mayR r = true) (hT : T c = none) (hN6 : N < 16) :
   Calls Try.prog 16 #[.pointer (some ⟨rb, 0, none⟩), .int .u64 c, .int .u64 m, rsVal k0 y0 (.slice Aa na ca) (.slice Ac nc cc)] w (RpOut w rb T N c m r) := by
 have hnL : n = L.length := by
   obtain ⟨A', c', e, _⟩ := RowK.rd0 hrow
   injection e
 have hLl : L.length ≤ 16 := by rw [hrep.len]; exact hN
 have hn16 : n ≤ 16 := by omega
 have HR := Lib.hid (And.intro hB (And.intro hrow (And.intro hrep (And.intro hnL hLl))))
 have hb : Below w.heap.size w (w.alloc (.cells (rsCs k0 y0 (.slice Aa na ca) (.slice Ac nc cc)) 39)) := (Below.refl _ _).alloc (Nat.le_refl _) _
 have kk := Blk.new w 39 (rsCs k0 y0 (.slice Aa na ca) (.slice Ac nc cc))
 obtain ⟨B1, hB1⟩ : ∃ b, b = w.heap.size := ⟨_, rfl⟩
 have HB := Lib.hid (And.intro hb (And.intro (show Blk _ B1 39 _ from hB1 ▸ kk) (And.intro (hB.on hb) (And.intro (RowK.onT hrow hb) (show rb < B1 from hB1 ▸ hB.lt)))))
 have hrd : RdK kT (w.alloc (.cells (rsCs k0 y0 (.slice Aa na ca) (.slice Ac nc cc)) 39)) (w.alloc (.cells (rsCs k0 y0 (.slice Aa na ca) (.slice Ac nc cc)) 39)).heap.size A L := by
   obtain ⟨A', c', e, _, h⟩ := RowK.rd0 (RowK.onT hrow hb)
   injection e with e1 e2 e3
   subst e1
   exact h
 have HA := Lib.hid (And.intro (refAt_any rb n a A L c _ (hB.on hb) hrd hnL (by omega)) hrd)
 have HTN := Lib.hid hT
 have HT := Lib.hid (show putC T N c m r = 0 by unfold putC; rw [if_neg (by rw [hm]; decide), hT]; exact if_neg (by omega))
 have hn2 : ¬ (16 : Int) ≤ (n : Int) := by have := hrep.len; omega
 clear hT hN6 hm
 clear hb kk hB hrow hrep hN hrd hnL hLl
 go_enter Try.func16, Try.ntmps16
 go_upto_region 1 with fail
 rw [← hB1]
 generalize w.alloc (.cells (rsCs k0 y0 (.slice Aa na ca) (.slice Ac nc cc)) 39) = W0 at HB HA ⊢
 clear hB1
 have c0 := HB.out.2.2.1.cell 0
 simp only [List.getElem?_toArray, List.getElem?_cons_zero, List.getElem?_cons_succ] at c0
 go_upto_region 2 with (go_at_call 20; (with_reducible refine HA.out.1.mono ?_); rintro e w1 ⟨⟨i, rfl, hi⟩, rfl⟩; dsimp only; have HI := Lib.hid hi; clear hi)
 have hi1 : i = -1 := by
   rcases HI.out with ⟨e, _⟩ | ⟨k, e, hk, e2⟩
   · exact e
   · obtain ⟨r', hr'⟩ := HR.out.2.2.1.row (L.getD k default) (by rw [List.getD_eq_getElem?_getD, List.getElem?_eq_getElem hk]; exact List.getElem_mem hk)
     rw [e2, HTN.out] at hr'
     cases hr'
 subst hi1
 go_upto_region 9 with fail
 go_loopw [10, 11, 12] (fun s10 s11 s12 wr => ∃ k : Nat, s12 = .int .i64 k ∧ k ≤ n ∧ s11 = .bool (insT (Td.mk c m k0 y0 Aa na ca Ac nc cc) (L.take k)).2 ∧ Hid (RowK kT wr W0.heap.size s10 (insT (Td.mk c m k0 y0 Aa na ca Ac nc cc) (L.take k)).1 ∧ Below W0.heap.size W0 wr)) (fun _ _ s12 _ => n - (intOf s12).toNat)
 case atStart => exact ⟨0, rfl, Nat.zero_le _, rfl, Lib.hid ⟨nil_row kT _ _, Below.refl _ _⟩⟩
 case round =>
   obtain ⟨k, rfl, hk, rfl, HF⟩ := hrel
   have c0 := (HB.out.2.2.1.on HF.out.2).cell 0
   simp only [List.getElem?_toArray, List.getElem?_cons_zero, List.getElem?_cons_succ] at c0
   have k39 := Lib.hid (HB.out.2.1.on HF.out.2)
   by_cases hlt : k < n
   · have hkL : k < L.length := by have := HR.out.2.2.2.1; omega
     have HTS : Hid (insT (Td.mk c m k0 y0 Aa na ca Ac nc cc) (L.take (k + 1)) = ins1 (Td.mk c m k0 y0 Aa na ca Ac nc cc) (insT (Td.mk c m k0 y0 Aa na ca Ac nc cc) (L.take k)) (L.getD k default)) := Lib.hid (by
       rw [← insT_snoc, List.take_add_one, List.getD_eq_getElem?_getD, List.getElem?_eq_getElem hkL]
       rfl)
     have HLN : Hid ((insT (Td.mk c m k0 y0 Aa na ca Ac nc cc) (L.take k)).1.length ≤ 100) := Lib.hid (by
       have h1 := insT_len (Td.mk c m k0 y0 Aa na ca Ac nc cc) (L.take k)
       have h2 := HR.out.2.2.2.2
       rw [List.length_take] at h1
       omega)
     obtain ⟨b, off, e0, hb, d0, d1, d2, d3, d4, d5⟩ := td_cellsG kT rfl (fun _ => rfl) HA.out.2 HF.out.2 hkL
     cases e0
     have HKL := Lib.hid hkL
     clear hkL hb
     generalize hyy : L.getD k default = y at d0 d1 d2 d3 d4 d5 HTS
     have HYY := Lib.hid hyy
     clear hyy
     obtain ⟨yc, yn, yk, yy, yA, yl, ya, yB, yl2, ya2⟩ := y
     generalize insT (Td.mk c m k0 y0 Aa na ca Ac nc cc) (L.take k) = s at HF HTS HLN ⊢
     obtain ⟨acc, d⟩ := s
     dsimp only at d0 d1 d2 d3 d4 d5 HF HTS HLN ⊢
     have hki : (k : Int) < (n : Int) := by omega
     cases d with
     | true =>
       have hle : True := trivial
       by_cases he : yc = c
       · have he' : yc = c := he
         go_wp2
         go_roundw
         case rel =>
           have hs : ins1 (Td.mk c m k0 y0 Aa na ca Ac nc cc) (acc, true) (Td.mk yc yn yk yy yA yl ya yB yl2 ya2) = (acc, true) := by unfold ins1; simp [hle, he]
           exact ⟨k + 1, by go_num, by omega, by rw [HTS.out, hs], Lib.hid (by rw [HTS.out, hs]; exact ⟨HF.out.1, HF.out.2⟩)⟩
         case measure => simp [intOf]; omega
       · have he' : ¬ yc = c := he
         go_wp2_with (first
           | (at_builtin; refine wpList_appT kT (n := 1) rfl _ _ rfl [(Td.mk yc yn yk yy yA yl ya yB yl2 ya2)] rfl rfl (HF.out.1.alloc _) rfl (rd_oneTd kT rfl (fun _ => rfl) wr (Td.mk yc yn yk yy yA yl ya yB yl2 ya2) 62) (fun h => by cases h) (by have := HLN.out; simp; omega) (by rw [World.size_alloc]; have := HF.out.2.size; omega) ?_; intro v4 w4 hr4 hg4; have H4 := Lib.hid (And.intro hr4 (app_step HF.out.1 HF.out.2 hg4)); clear hr4 hg4))
         go_roundw
         case rel =>
           have hs : ins1 (Td.mk c m k0 y0 Aa na ca Ac nc cc) (acc, true) (Td.mk yc yn yk yy yA yl ya yB yl2 ya2) = ((acc ++ [(Td.mk yc yn yk yy yA yl ya yB yl2 ya2)]), true) := by unfold ins1; simp [hle, he]
           exact ⟨k + 1, by go_num, by omega, by rw [HTS.out, hs], Lib.hid (by rw [HTS.out, hs]; exact ⟨H4.out.1, H4.out.2⟩)⟩
         case measure => simp [intOf]; omega
     | false =>
       by_cases hle : c ≤ yc
       · by_cases he : yc = c
         · have he' : yc = c := he
           go_wp2_with (first
             | (refine wpList_load_row rfl 39 _ rfl B1 rfl 39 (rsCs k0 y0 (.slice Aa na ca) (.slice Ac nc cc)) (0, 0) _ k39.out rfl rfl (by kernel_rfl) ?_)
             | (at_builtin; refine wpList_appT kT (n := 1) rfl _ _ rfl [(Td.mk c m k0 y0 Aa na ca Ac nc cc)] rfl rfl (HF.out.1.alloc _) rfl (rd_oneTd kT rfl (fun _ => rfl) wr (Td.mk c m k0 y0 Aa na ca Ac nc cc) 62) (fun h => by cases h) (by have := HLN.out; simp; omega) (by rw [World.size_alloc]; have := HF.out.2.size; omega) ?_; intro v3 w3 hr3 hg3; have H3 := Lib.hid (And.intro hr3 (app_step HF.out.1 HF.out.2 hg3)); clear hr3 hg3 c0 d0 d1 d2 d3 d4 d5; have c0 := (HB.out.2.2.1.on H3.out.2).cell 0; simp only [List.getElem?_toArray, List.getElem?_cons_zero, List.getElem?_cons_succ] at c0; obtain ⟨_, _, e0, _, d0, d1, d2, d3, d4, d5⟩ := td_cellsG kT rfl (fun _ => rfl) HA.out.2 H3.out.2 HKL.out; cases e0; rw [HYY.out] at d0 d1 d2 d3 d4 d5; dsimp only at d0 d1 d2 d3 d4 d5))
           go_roundw
           case rel =>
             have hs : ins1 (Td.mk c m k0 y0 Aa na ca Ac nc cc) (acc, false) (Td.mk yc yn yk yy yA yl ya yB yl2 ya2) = ((acc ++ [(Td.mk c m k0 y0 Aa na ca Ac nc cc)]), true) := by unfold ins1; simp [hle, he]
             exact ⟨k + 1, by go_num, by omega, by rw [HTS.out, hs], Lib.hid (by rw [HTS.out, hs]; exact ⟨H3.out.1, H3.out.2⟩)⟩
           case measure => simp [intOf]; omega
         · have he' : ¬ yc = c := he
           go_wp2_with (first
             | (refine wpList_load_row rfl 39 _ rfl B1 rfl 39 (rsCs k0 y0 (.slice Aa na ca) (.slice Ac nc cc)) (0, 0) _ k39.out rfl rfl (by kernel_rfl) ?_)
             | (at_builtin; refine wpList_appT kT (n := 1) rfl _ _ rfl [(Td.mk c m k0 y0 Aa na ca Ac nc cc)] rfl rfl (HF.out.1.alloc _) rfl (rd_oneTd kT rfl (fun _ => rfl) wr (Td.mk c m k0 y0 Aa na ca Ac nc cc) 62) (fun h => by cases h) (by have := HLN.out; simp; omega) (by rw [World.size_alloc]; have := HF.out.2.size; omega) ?_; intro v3 w3 hr3 hg3; have H3 := Lib.hid (And.intro hr3 (app_step HF.out.1 HF.out.2 hg3)); clear hr3 hg3 c0 d0 d1 d2 d3 d4 d5; have c0 := (HB.out.2.2.1.on H3.out.2).cell 0; simp only [List.getElem?_toArray, List.getElem?_cons_zero, List.getElem?_cons_succ] at c0; obtain ⟨_, _, e0, _, d0, d1, d2, d3, d4, d5⟩ := td_cellsG kT rfl (fun _ => rfl) HA.out.2 H3.out.2 HKL.out; cases e0; rw [HYY.out] at d0 d1 d2 d3 d4 d5; dsimp only at d0 d1 d2 d3 d4 d5)
             | (at_builtin; refine wpList_appT kT (n := 1) rfl _ _ rfl [(Td.mk yc yn yk yy yA yl ya yB yl2 ya2)] rfl rfl (H3.out.1.alloc _) rfl (rd_oneTd kT rfl (fun _ => rfl) w3 (Td.mk yc yn yk yy yA yl ya yB yl2 ya2) 62) (fun h => by cases h) (by have h1 := HLN.out; have h2 := H3.out.1; simp; omega) (by rw [World.size_alloc]; have := H3.out.2.size; omega) ?_; intro v4 w4 hr4 hg4; have H4 := Lib.hid (And.intro hr4 (app_step H3.out.1 H3.out.2 hg4)); clear hr4 hg4))
           go_roundw
           case rel =>
             have hs : ins1 (Td.mk c m k0 y0 Aa na ca Ac nc cc) (acc, false) (Td.mk yc yn yk yy yA yl ya yB yl2 ya2) = (((acc ++ [(Td.mk c m k0 y0 Aa na ca Ac nc cc)]) ++ [(Td.mk yc yn yk yy yA yl ya yB yl2 ya2)]), true) := by unfold ins1; simp [hle, he]
             exact ⟨k + 1, by go_num, by omega, by rw [HTS.out, hs], Lib.hid (by rw [HTS.out, hs]; exact ⟨H4.out.1, H4.out.2⟩)⟩
           case measure => simp [intOf]; omega
       · have he : ¬ yc = c := fun e => hle (by omega)
         go_wp2_with (first
           | (at_builtin; refine wpList_appT kT (n := 1) rfl _ _ rfl [(Td.mk yc yn yk yy yA yl ya yB yl2 ya2)] rfl rfl (HF.out.1.alloc _) rfl (rd_oneTd kT rfl (fun _ => rfl) wr (Td.mk yc yn yk yy yA yl ya yB yl2 ya2) 62) (fun h => by cases h) (by have := HLN.out; simp; omega) (by rw [World.size_alloc]; have := HF.out.2.size; omega) ?_; intro v4 w4 hr4 hg4; have H4 := Lib.hid (And.intro hr4 (app_step HF.out.1 HF.out.2 hg4)); clear hr4 hg4))
         go_roundw
         case rel =>
           have hs : ins1 (Td.mk c m k0 y0 Aa na ca Ac nc cc) (acc, false) (Td.mk yc yn yk yy yA yl ya yB yl2 ya2) = ((acc ++ [(Td.mk yc yn yk yy yA yl ya yB yl2 ya2)]), false) := by unfold ins1; simp [hle, he]
           exact ⟨k + 1, by go_num, by omega, by rw [HTS.out, hs], Lib.hid (by rw [HTS.out, hs]; exact ⟨H4.out.1, H4.out.2⟩)⟩
         case measure => simp [intOf]; omega
   · have hkn : n = k := by omega
     subst hkn
     have HT2 : Hid (L.take n = L) := Lib.hid (by rw [HR.out.2.2.2.1, List.take_length])
     rw [HT2.out] at HF
     rw [HT2.out]
     have HLN : Hid ((insT (Td.mk c m k0 y0 Aa na ca Ac nc cc) L).1.length ≤ 100) := Lib.hid (by
       have h1 := insT_len (Td.mk c m k0 y0 Aa na ca Ac nc cc) L
       have h2 := HR.out.2.2.2.2
       omega)
     have HIL : Hid (insL (Td.mk c m k0 y0 Aa na ca Ac nc cc) L = if (insT (Td.mk c m k0 y0 Aa na ca Ac nc cc) L).2 then (insT (Td.mk c m k0 y0 Aa na ca Ac nc cc) L).1 else (insT (Td.mk c m k0 y0 Aa na ca Ac nc cc) L).1 ++ [(Td.mk c m k0 y0 Aa na ca Ac nc cc)]) := Lib.hid rfl
     generalize insT (Td.mk c m k0 y0 Aa na ca Ac nc cc) L = s at HF HIL HLN ⊢
     obtain ⟨acc, d⟩ := s
     dsimp only at HF HIL HLN ⊢
     cases d with
     | true =>
       obtain ⟨A3, c3, n3, HN3, rfl, _, _⟩ := HF.out.1.rdn
       have f0 := (HB.out.2.2.1.on HF.out.2).frozen 0
       go_wp2
       go_ret
       exact rp_yes rfl HT.out rfl (HB.out.2.2.1.on HF.out.2) rfl HF.out.1 (by rw [HIL.out]; rfl) (by have h1 := HB.out.2.2.2.2; have h2 := HB.out.2.1.lt; omega) HR.out.2.2.1 (HB.out.1.trans (HF.out.2.mono HB.out.1.size))
     | false =>
       go_wp2_with (first
         | (refine wpList_load_row rfl 39 _ rfl B1 rfl 39 (rsCs k0 y0 (.slice Aa na ca) (.slice Ac nc cc)) (0, 0) _ k39.out rfl rfl (by kernel_rfl) ?_)
         | (at_builtin; refine wpList_appT kT (n := 1) rfl _ _ rfl [(Td.mk c m k0 y0 Aa na ca Ac nc cc)] rfl rfl (HF.out.1.alloc _) rfl (rd_oneTd kT rfl (fun _ => rfl) wr (Td.mk c m k0 y0 Aa na ca Ac nc cc) 62) (fun h => by cases h) (by have := HLN.out; simp; omega) (by rw [World.size_alloc]; have := HF.out.2.size; omega) ?_; intro v3 w3 hr3 hg3; have H3 := Lib.hid (And.intro hr3 (app_step HF.out.1 HF.out.2 hg3)); clear hr3 hg3 c0; obtain ⟨A3, c3, n3, HN3, rfl, _, _⟩ := H3.out.1.rdn; have c0 := (HB.out.2.2.1.on H3.out.2).cell 0; simp only [List.getElem?_toArray, List.getElem?_cons_zero, List.getElem?_cons_succ] at c0; have f0 := (HB.out.2.2.1.on H3.out.2).frozen 0))
       go_ret
       exact rp_yes rfl HT.out rfl (HB.out.2.2.1.on H3.out.2) rfl H3.out.1 (by rw [HIL.out]; rfl) (by have h1 := HB.out.2.2.2.2; have h2 := HB.out.2.1.lt; omega) HR.out.2.2.1 (HB.out.1.trans (H3.out.2.mono HB.out.1.size))
set_option maxHeartbeats 32000000 in
theorem rp_more (rb n a N : Nat) (A : Option Addr) (L : List Td) (T : Tb) (c m k0 : Int) (y0 : Bool) (Aa : Option Addr) (na ca : Nat) (Ac : Option Addr) (nc cc : Nat) (r : Res) (w : World) (hB : Blk w rb 53 #[.slice A n a]) (hrow : RowK kT w (rb + 1) (.slice A n a) L) (hrep : RefRep L T N) (hN : N ≤ 16) (hm : mayR r = true) (z : Int × Res) (hT : T c = some z) (hle : ¬ m ≤ z.1) :
   Calls Try.prog 16 #[.pointer (some ⟨rb, 0, none⟩), .int .u64 c, .int .u64 m, rsVal k0 y0 (.slice Aa na ca) (.slice Ac nc cc)] w (RpOut w rb T N c m r) := by
 have hnL : n = L.length := by
   obtain ⟨A', c', e, _⟩ := RowK.rd0 hrow
   injection e
 have hLl : L.length ≤ 16 := by rw [hrep.len]; exact hN
 have hn16 : n ≤ 16 := by omega
 have HR := Lib.hid (And.intro hB (And.intro hrow (And.intro hrep (And.intro hnL hLl))))
 have hb : Below w.heap.size w (w.alloc (.cells (rsCs k0 y0 (.slice Aa na ca) (.slice Ac nc cc)) 39)) := (Below.refl _ _).alloc (Nat.le_refl _) _
 have kk := Blk.new w 39 (rsCs k0 y0 (.slice Aa na ca) (.slice Ac nc cc))
 obtain ⟨B1, hB1⟩ : ∃ b, b = w.heap.size := ⟨_, rfl⟩
 have HB := Lib.hid (And.intro hb (And.intro (show Blk _ B1 39 _ from hB1 ▸ kk) (And.intro (hB.on hb) (And.intro (RowK.onT hrow hb) (show rb < B1 from hB1 ▸ hB.lt)))))
 have hrd : RdK kT (w.alloc (.cells (rsCs k0 y0 (.slice Aa na ca) (.slice Ac nc cc)) 39)) (w.alloc (.cells (rsCs k0 y0 (.slice Aa na ca) (.slice Ac nc cc)) 39)).heap.size A L := by
   obtain ⟨A', c', e, _, h⟩ := RowK.rd0 (RowK.onT hrow hb)
   injection e with e1 e2 e3
   subst e1
   exact h
 have HA := Lib.hid (And.intro (refAt_any rb n a A L c _ (hB.on hb) hrd hnL (by omega)) hrd)
 have HTN := Lib.hid (And.intro hT hle)
 have HT := Lib.hid (show putC T N c m r = 0 by unfold putC; rw [if_neg (by rw [hm]; decide), hT]; exact if_neg hle)
 clear hT hle hm
 clear hb kk hB hrow hrep hN hrd hnL hLl
 go_enter Try.func16, Try.ntmps16
 go_upto_region 1 with fail
 rw [← hB1]
 generalize w.alloc (.cells (rsCs k0 y0 (.slice Aa na ca) (.slice Ac nc cc)) 39) = W0 at HB HA ⊢
 clear hB1
 have c0 := HB.out.2.2.1.cell 0
 simp only [List.getElem?_toArray, List.getElem?_cons_zero, List.getElem?_cons_succ] at c0
 go_upto_region 2 with (go_at_call 20; (with_reducible refine HA.out.1.mono ?_); rintro e w1 ⟨⟨i, rfl, hi⟩, rfl⟩; dsimp only; have HI := Lib.hid hi; clear hi)
 obtain ⟨k, hik, hkL, hkc⟩ : ∃ k : Nat, i = (k : Int) ∧ k < L.length ∧ (L.getD k default).c = c := by
   rcases HI.out with ⟨_, h⟩ | h
   · obtain ⟨y, hy, e⟩ := HR.out.2.2.1.all c _ HTN.out.1
     exact absurd e (h y hy)
   · exact h
 have hkn : (L.getD k default).n = z.1 := by
   obtain ⟨r', hr'⟩ := HR.out.2.2.1.row (L.getD k default) (by rw [List.getD_eq_getElem?_getD, List.getElem?_eq_getElem hkL]; exact List.getElem_mem hkL)
   rw [hkc, HTN.out.1] at hr'
   injection hr' with hr'
   rw [hr']
 subst hik
 obtain ⟨b, off, rfl, hb, d0, d1, d2, d3, d4, d5⟩ := td_cellsG kT rfl (fun _ => rfl) HA.out.2 (Below.refl _ _) hkL
 rw [hkn] at d1
 have hkn' : k < n := by have := HR.out.2.2.2.1; omega
 have hk0 : (0 : Int) ≤ (k : Int) := by omega
 have hcmp : ¬ m ≤ z.1 := HTN.out.2
 clear d0 d2 d3 d4 d5 hkL hkc hkn hb
 go_upto_region 9 with fail
 clear d1 hcmp
 go_loopw [10, 11, 12] (fun s10 s11 s12 wr => ∃ k : Nat, s12 = .int .i64 k ∧ k ≤ n ∧ s11 = .bool (insT (Td.mk c m k0 y0 Aa na ca Ac nc cc) (L.take k)).2 ∧ Hid (RowK kT wr W0.heap.size s10 (insT (Td.mk c m k0 y0 Aa na ca Ac nc cc) (L.take k)).1 ∧ Below W0.heap.size W0 wr)) (fun _ _ s12 _ => n - (intOf s12).toNat)
 case atStart => exact ⟨0, rfl, Nat.zero_le _, rfl, Lib.hid ⟨nil_row kT _ _, Below.refl _ _⟩⟩
 case round =>
   obtain ⟨k, rfl, hk, rfl, HF⟩ := hrel
   have c0 := (HB.out.2.2.1.on HF.out.2).cell 0
   simp only [List.getElem?_toArray, List.getElem?_cons_zero, List.getElem?_cons_succ] at c0
   have k39 := Lib.hid (HB.out.2.1.on HF.out.2)
   by_cases hlt : k < n
   · have hkL : k < L.length := by have := HR.out.2.2.2.1; omega
     have HTS : Hid (insT (Td.mk c m k0 y0 Aa na ca Ac nc cc) (L.take (k + 1)) = ins1 (Td.mk c m k0 y0 Aa na ca Ac nc cc) (insT (Td.mk c m k0 y0 Aa na ca Ac nc cc) (L.take k)) (L.getD k default)) := Lib.hid (by
       rw [← insT_snoc, List.take_add_one, List.getD_eq_getElem?_getD, List.getElem?_eq_getElem hkL]
       rfl)
     have HLN : Hid ((insT (Td.mk c m k0 y0 Aa na ca Ac nc cc) (L.take k)).1.length ≤ 100) := Lib.hid (by
       have h1 := insT_len (Td.mk c m k0 y0 Aa na ca Ac nc cc) (L.take k)
       have h2 := HR.out.2.2.2.2
       rw [List.length_take] at h1
       omega)
     obtain ⟨b, off, e0, hb, d0, d1, d2, d3, d4, d5⟩ := td_cellsG kT rfl (fun _ => rfl) HA.out.2 HF.out.2 hkL
     cases e0
     have HKL := Lib.hid hkL
     clear hkL hb
     generalize hyy : L.getD k default = y at d0 d1 d2 d3 d4 d5 HTS
     have HYY := Lib.hid hyy
     clear hyy
     obtain ⟨yc, yn, yk, yy, yA, yl, ya, yB, yl2, ya2⟩ := y
     generalize insT (Td.mk c m k0 y0 Aa na ca Ac nc cc) (L.take k) = s at HF HTS HLN ⊢
     obtain ⟨acc, d⟩ := s
     dsimp only at d0 d1 d2 d3 d4 d5 HF HTS HLN ⊢
     have hki : (k : Int) < (n : Int) := by omega
     cases d with
     | true =>
       have hle : True := trivial
       by_cases he : yc = c
       · have he' : yc = c := he
         go_wp2
         go_roundw
         case rel =>
           have hs : ins1 (Td.mk c m k0 y0 Aa na ca Ac nc cc) (acc, true) (Td.mk yc yn yk yy yA yl ya yB yl2 ya2) = (acc, true) := by unfold ins1; simp [hle, he]
           exact ⟨k + 1, by go_num, by omega, by rw [HTS.out, hs], Lib.hid (by rw [HTS.out, hs]; exact ⟨HF.out.1, HF.out.2⟩)⟩
         case measure => simp [intOf]; omega
       · have he' : ¬ yc = c := he
         go_wp2_with (first
           | (at_builtin; refine wpList_appT kT (n := 1) rfl _ _ rfl [(Td.mk yc yn yk yy yA yl ya yB yl2 ya2)] rfl rfl (HF.out.1.alloc _) rfl (rd_oneTd kT rfl (fun _ => rfl) wr (Td.mk yc yn yk yy yA yl ya yB yl2 ya2) 62) (fun h => by cases h) (by have := HLN.out; simp; omega) (by rw [World.size_alloc]; have := HF.out.2.size; omega) ?_; intro v4 w4 hr4 hg4; have H4 := Lib.hid (And.intro hr4 (app_step HF.out.1 HF.out.2 hg4)); clear hr4 hg4))
         go_roundw
         case rel =>
           have hs : ins1 (Td.mk c m k0 y0 Aa na ca Ac nc cc) (acc, true) (Td.mk yc yn yk yy yA yl ya yB yl2 ya2) = ((acc ++ [(Td.mk yc yn yk yy yA yl ya yB yl2 ya2)]), true) := by unfold ins1; simp [hle, he]
           exact ⟨k + 1, by go_num, by omega, by rw [HTS.out, hs], Lib.hid (by rw [HTS.out, hs]; exact ⟨H4.out.1, H4.out.2⟩)⟩
         case measure => simp [intOf]; omega
     | false =>
       by_cases hle : c ≤ yc
       · by_cases he : yc = c
         · have he' : yc = c := he
           go_wp2_with (first
             | (refine wpList_load_row rfl 39 _ rfl B1 rfl 39 (rsCs k0 y0 (.slice Aa na ca) (.slice Ac nc cc)) (0, 0) _ k39.out rfl rfl (by kernel_rfl) ?_)
             | (at_builtin; refine wpList_appT kT (n := 1) rfl _ _ rfl [(Td.mk c m k0 y0 Aa na ca Ac nc cc)] rfl rfl (HF.out.1.alloc _) rfl (rd_oneTd kT rfl (fun _ => rfl) wr (Td.mk c m k0 y0 Aa na ca Ac nc cc) 62) (fun h => by cases h) (by have := HLN.out; simp; omega) (by rw [World.size_alloc]; have := HF.out.2.size; omega) ?_; intro v3 w3 hr3 hg3; have H3 := Lib.hid (And.intro hr3 (app_step HF.out.1 HF.out.2 hg3)); clear hr3 hg3 c0 d0 d1 d2 d3 d4 d5; have c0 := (HB.out.2.2.1.on H3.out.2).cell 0; simp only [List.getElem?_toArray, List.getElem?_cons_zero, List.getElem?_cons_succ] at c0; obtain ⟨_, _, e0, _, d0, d1, d2, d3, d4, d5⟩ := td_cellsG kT rfl (fun _ => rfl) HA.out.2 H3.out.2 HKL.out; cases e0; rw [HYY.out] at d0 d1 d2 d3 d4 d5; dsimp only at d0 d1 d2 d3 d4 d5))
           go_roundw
           case rel =>
             have hs : ins1 (Td.mk c m k0 y0 Aa na ca Ac nc cc) (acc, false) (Td.mk yc yn yk yy yA yl ya yB yl2 ya2) = ((acc ++ [(Td.mk c m k0 y0 Aa na ca Ac nc cc)]), true) := by unfold ins1; simp [hle, he]
             exact ⟨k + 1, by go_num, by omega, by rw [HTS.out, hs], Lib.hid (by rw [HTS.out, hs]; exact ⟨H3.out.1, H3.out.2⟩)⟩
           case measure => simp [intOf]; omega
         · have he' : ¬ yc = c := he
           go_wp2_with (first
             | (refine wpList_load_row rfl 39 _ rfl B1 rfl 39 (rsCs k0 y0 (.slice Aa na ca) (.slice Ac nc cc)) (0, 0) _ k39.out rfl rfl (by kernel_rfl) ?_)
             | (at_builtin; refine wpList_appT kT (n := 1) rfl _ _ rfl [(Td.mk c m k0 y0 Aa na ca Ac nc cc)] rfl rfl (HF.out.1.alloc _) rfl (rd_oneTd kT rfl (fun _ => rfl) wr (Td.mk c m k0 y0 Aa na ca Ac nc cc) 62) (fun h => by cases h) (by have := HLN.out; simp; omega) (by rw [World.size_alloc]; have := HF.out.2.size; omega) ?_; intro v3 w3 hr3 hg3; have H3 := Lib.hid (And.intro hr3 (app_step HF.out.1 HF.out.2 hg3)); clear hr3 hg3 c0 d0 d1 d2 d3 d4 d5; have c0 := (HB.out.2.2.1.on H3.out.2).cell 0; simp only [List.getElem?_toArray, List.getElem?_cons_zero, List.getElem?_cons_succ] at c0; obtain ⟨_, _, e0, _, d0, d1, d2, d3, d4, d5⟩ := td_cellsG kT rfl (fun _ => rfl) HA.out.2 H3.out.2 HKL.out; cases e0; rw [HYY.out] at d0 d1 d2 d3 d4 d5; dsimp only at d0 d1 d2 d3 d4 d5)
             | (at_builtin; refine wpList_appT kT (n := 1) rfl _ _ rfl [(Td.mk yc yn yk yy yA yl ya yB yl2 ya2)] rfl rfl (H3.out.1.alloc _) rfl (rd_oneTd kT rfl (fun _ => rfl) w3 (Td.mk yc yn yk yy yA yl ya yB yl2 ya2) 62) (fun h => by cases h) (by have h1 := HLN.out; have h2 := H3.out.1; simp; omega) (by rw [World.size_alloc]; have := H3.out.2.size; omega) ?_; intro v4 w4 hr4 hg4; have H4 := Lib.hid (And.intro hr4 (app_step H3.out.1 H3.out.2 hg4)); clear hr4 hg4))
           go_roundw
           case rel =>
             have hs : ins1 (Td.mk c m k0 y0 Aa na ca Ac nc cc) (acc, false) (Td.mk yc yn yk yy yA yl ya yB yl2 ya2) = (((acc ++ [(Td.mk c m k0 y0 Aa na ca Ac nc cc)]) ++ [(Td.mk yc yn yk yy yA yl ya yB yl2 ya2)]), true) := by unfold ins1; simp [hle, he]
             exact ⟨k + 1, by go_num, by omega, by rw [HTS.out, hs], Lib.hid (by rw [HTS.out, hs]; exact ⟨H4.out.1, H4.out.2⟩)⟩
           case measure => simp [intOf]; omega
       · have he : ¬ yc = c := fun e => hle (by omega)
         go_wp2_with (first
           | (at_builtin; refine wpList_appT kT (n := 1) rfl _ _ rfl [(Td.mk yc yn yk yy yA yl ya yB yl2 ya2)] rfl rfl (HF.out.1.alloc _) rfl (rd_oneTd kT rfl (fun _ => rfl) wr (Td.mk yc yn yk yy yA yl ya yB yl2 ya2) 62) (fun h => by cases h) (by have := HLN.out; simp; omega) (by rw [World.size_alloc]; have := HF.out.2.size; omega) ?_; intro v4 w4 hr4 hg4; have H4 := Lib.hid (And.intro hr4 (app_step HF.out.1 HF.out.2 hg4)); clear hr4 hg4))
         go_roundw
         case rel =>
           have hs : ins1 (Td.mk c m k0 y0 Aa na ca Ac nc cc) (acc, false) (Td.mk yc yn yk yy yA yl ya yB yl2 ya2) = ((acc ++ [(Td.mk yc yn yk yy yA yl ya yB yl2 ya2)]), false) := by unfold ins1; simp [hle, he]
           exact ⟨k + 1, by go_num, by omega, by rw [HTS.out, hs], Lib.hid (by rw [HTS.out, hs]; exact ⟨H4.out.1, H4.out.2⟩)⟩
         case measure => simp [intOf]; omega
   · have hkn : n = k := by omega
     subst hkn
     have HT2 : Hid (L.take n = L) := Lib.hid (by rw [HR.out.2.2.2.1, List.take_length])
     rw [HT2.out] at HF
     rw [HT2.out]
     have HLN : Hid ((insT (Td.mk c m k0 y0 Aa na ca Ac nc cc) L).1.length ≤ 100) := Lib.hid (by
       have h1 := insT_len (Td.mk c m k0 y0 Aa na ca Ac nc cc) L
       have h2 := HR.out.2.2.2.2
       omega)
     have HIL : Hid (insL (Td.mk c m k0 y0 Aa na ca Ac nc cc) L = if (insT (Td.mk c m k0 y0 Aa na ca Ac nc cc) L).2 then (insT (Td.mk c m k0 y0 Aa na ca Ac nc cc) L).1 else (insT (Td.mk c m k0 y0 Aa na ca Ac nc cc) L).1 ++ [(Td.mk c m k0 y0 Aa na ca Ac nc cc)]) := Lib.hid rfl
     generalize insT (Td.mk c m k0 y0 Aa na ca Ac nc cc) L = s at HF HIL HLN ⊢
     obtain ⟨acc, d⟩ := s
     dsimp only at HF HIL HLN ⊢
     cases d with
     | true =>
       obtain ⟨A3, c3, n3, HN3, rfl, _, _⟩ := HF.out.1.rdn
       have f0 := (HB.out.2.2.1.on HF.out.2).frozen 0
       go_wp2
       go_ret
       exact rp_yes rfl HT.out rfl (HB.out.2.2.1.on HF.out.2) rfl HF.out.1 (by rw [HIL.out]; rfl) (by have h1 := HB.out.2.2.2.2; have h2 := HB.out.2.1.lt; omega) HR.out.2.2.1 (HB.out.1.trans (HF.out.2.mono HB.out.1.size))
     | false =>
       go_wp2_with (first
         | (refine wpList_load_row rfl 39 _ rfl B1 rfl 39 (rsCs k0 y0 (.slice Aa na ca) (.slice Ac nc cc)) (0, 0) _ k39.out rfl rfl (by kernel_rfl) ?_)
         | (at_builtin; refine wpList_appT kT (n := 1) rfl _ _ rfl [(Td.mk c m k0 y0 Aa na ca Ac nc cc)] rfl rfl (HF.out.1.alloc _) rfl (rd_oneTd kT rfl (fun _ => rfl) wr (Td.mk c m k0 y0 Aa na ca Ac nc cc) 62) (fun h => by cases h) (by have := HLN.out; simp; omega) (by rw [World.size_alloc]; have := HF.out.2.size; omega) ?_; intro v3 w3 hr3 hg3; have H3 := Lib.hid (And.intro hr3 (app_step HF.out.1 HF.out.2 hg3)); clear hr3 hg3 c0; obtain ⟨A3, c3, n3, HN3, rfl, _, _⟩ := H3.out.1.rdn; have c0 := (HB.out.2.2.1.on H3.out.2).cell 0; simp only [List.getElem?_toArray, List.getElem?_cons_zero, List.getElem?_cons_succ] at c0; have f0 := (HB.out.2.2.1.on H3.out.2).frozen 0))
       go_ret
       exact rp_yes rfl HT.out rfl (HB.out.2.2.1.on H3.out.2) rfl H3.out.1 (by rw [HIL.out]; rfl) (by have h1 := HB.out.2.2.2.2; have h2 := HB.out.2.1.lt; omega) HR.out.2.2.1 (HB.out.1.trans (H3.out.2.mono HB.out.1.size))
theorem refPut_any (rb n a N : Nat) (A : Option Addr) (L : List Td) (T : Tb) (c m k0 : Int) (y0 : Bool) (Aa : Option Addr) (na ca : Nat) (Ac : Option Addr) (nc cc : Nat) (r : Res) (w : World) (hB : Blk w rb 53 #[.slice A n a]) (hrow : RowK kT w (rb + 1) (.slice A n a) L) (hrep : RefRep L T N) (hN : N ≤ 16) (hm : mayR r = true) :
   Calls Try.prog 16 #[.pointer (some ⟨rb, 0, none⟩), .int .u64 c, .int .u64 m, rsVal k0 y0 (.slice Aa na ca) (.slice Ac nc cc)] w (RpOut w rb T N c m r) := by
 cases hT : T c with
 | some z =>
   by_cases hle : m ≤ z.1
   · exact rp_old rb n a N A L T c m k0 y0 Aa na ca Ac nc cc r w hB hrow hrep hN hm z hT hle
   · exact rp_more rb n a N A L T c m k0 y0 Aa na ca Ac nc cc r w hB hrow hrep hN hm z hT hle
 | none =>
   by_cases h6 : N = 16
   · exact rp_full rb n a N A L T c m k0 y0 Aa na ca Ac nc cc r w hB hrow hrep hN hm hT h6
   · exact rp_new rb n a N A L T c m k0 y0 Aa na ca Ac nc cc r w hB hrow hrep hN hm hT (by omega)
end Go.Proofs.Ytidkpdoiblomjaa.Tlv
