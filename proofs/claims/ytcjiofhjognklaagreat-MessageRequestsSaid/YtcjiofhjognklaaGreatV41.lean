/- The operation of bytes. -/
import Derived.Test.YtcjiofhjognklaaGreatV31
namespace Go.Proofs.YtcjiofhjognklaaGreat.Tlv
open Go.RowKit
set_option maxRecDepth 100000
set_option linter.unusedVariables false
set_option linter.unusedSimpArgs false
set_option maxHeartbeats 16000000 in
theorem opOfNo (A : Option Addr) (c : Nat) (l : List Int) (k : Int) (w : World) (hr : Rd w w.heap.size A l) (hby : Byt l) (hn : l.length ≤ 100000000) (hk : (smallV 8 (tk false l 1)).1 = k) (hno : isK k = false) :
   Calls Tryz.prog 10 #[.slice A l.length c] w (OpOfOut w l) := by
 have hb1 : Below w.heap.size w (w.alloc (.cells zCs 27)) := (Below.refl _ _).alloc (Nat.le_refl _) _
 have k1 := Blk.new w 27 zCs
 have HRD := Lib.hid (read_any A c l _ ((hr.below hb1).more hb1.size) hby hn)
 have HB1 := Lib.hid (And.intro hb1 k1)
 have hz1 : w.heap.size < (w.alloc (.cells zCs 27)).heap.size := by rw [World.size_alloc]; omega
 have HZ1 := Lib.hid hz1
 have ht1 := took_smallV (f := false) (tag := 1) (m := 8) hby (by decide) (by decide)
 generalize hsm : smallV 8 (tk false l 1) = S1 at hk ht1
 obtain ⟨k1', f1, r1⟩ := S1
 dsimp only at hk ht1
 have hk2 := hk.symm; clear hk; subst hk2
 have HT1 := Lib.hid ht1
 have HSM := Lib.hid hsm
 have HBY := Lib.hid hby
 obtain ⟨n, hnn⟩ : ∃ n, n = l.length := ⟨_, rfl⟩
 rw [← hnn] at HRD ⊢
 clear hr hby hb1 k1 hn hnn hz1 ht1 hsm
 have HNO := Lib.hid hno
 clear hno
 go_enter Tryz.func10, Tryz.ntmps10
 go_wp2_with fail
 refine HRD.out.mono ?_
 clear HRD
 rintro e w2 ⟨g, rfl, hrs2, hgq, hb2⟩
 have hS := smallN g g false l 1 8 w2 hrs2 (by decide) (by decide)
 rw [HSM.out] at hS
 dsimp only at hS
 have HS := Lib.hid hS
 have hg1 : w.heap.size < g := Nat.lt_of_lt_of_le HZ1.out hgq
 have H2 := Lib.hid (And.intro (HB1.out.1.trans (hb2.mono (Nat.le_of_lt HZ1.out))) (And.intro (HB1.out.2.on hb2) hg1))
 clear hrs2 hgq hb2 hS hg1
 go_upto_region 3 with (first
   | (go_at_call 53; (with_reducible refine HS.out.mono ?_); clear HS; rintro e w3 ⟨rfl, hrs3, hg3⟩; dsimp only; have H3 := Lib.hid (And.intro hrs3 hg3); clear hrs3 hg3)
   | (refine wpList_store_rowTo rfl 27 _ _ rfl rfl w3.heap.size #[.int .i64 k, .string ⟨#[]⟩, .string ⟨#[]⟩, .slice none 0 0, .slice none 0 0, .slice none 0 0, .int .i64 0] rfl rfl 27 zCs (Blk.new w3 27 zCs) (by kernel_rfl) rfl (by kernel_rfl) ?_))
 have hz3 : w.heap.size < w3.heap.size := by have := H2.out.2.2; have := H3.out.1.lt; omega
 have hgl3 := H3.out.1.lt
 have hb3 : Below w3.heap.size w3 ((w3.alloc (.cells zCs 27)).setRow w3.heap.size #[.int .i64 k, .string ⟨#[]⟩, .string ⟨#[]⟩, .slice none 0 0, .slice none 0 0, .slice none 0 0, .int .i64 0]) := below_setRow ((Below.refl _ _).alloc (Nat.le_refl _) (.cells zCs 27)) (Nat.le_refl _) _
 have kO3 : Blk ((w3.alloc (.cells zCs 27)).setRow w3.heap.size #[.int .i64 k, .string ⟨#[]⟩, .string ⟨#[]⟩, .slice none 0 0, .slice none 0 0, .slice none 0 0, .int .i64 0]) w3.heap.size 27 #[.int .i64 k, .string ⟨#[]⟩, .string ⟨#[]⟩, .slice none 0 0, .slice none 0 0, .slice none 0 0, .int .i64 0] := (Blk.new w3 27 zCs).row _
 have hbel3 : Below w.heap.size w w3 := H2.out.1.trans (below_grown H3.out.2 (Nat.le_of_lt H2.out.2.2) H2.out.1.size)
 have kR3 : Blk w3 w.heap.size 27 zCs := H2.out.2.1.grown H3.out.2 (fun e => by injection e with e; have := H2.out.2.2; omega)
 have hbel4 := hbel3.trans (hb3.mono hbel3.size)
 have kR4 := kR3.on hb3
 have hrs4 := H3.out.1.on hb3
 obtain ⟨Bo, hBo⟩ : ∃ Bo, Bo = w3.heap.size := ⟨_, rfl⟩
 have hg4 : g < Bo := by omega
 rw [← hBo] at hbel4 kR4 hrs4 kO3 ⊢
 clear hb3 hbel3 kR3 hz3 hgl3 H3 hBo
 have hn1 := H2.out.2.2
 clear H2 HB1 HZ1
 generalize (w3.alloc (.cells zCs 27)).setRow Bo #[.int .i64 k, .string ⟨#[]⟩, .string ⟨#[]⟩, .slice none 0 0, .slice none 0 0, .slice none 0 0, .int .i64 0] = W4 at hbel4 kR4 hrs4 kO3 ⊢
 have c0 : W4.cell? ⟨Bo, 0, none⟩ = some (.int .i64 k) := kO3.cell 0
 have HB4 := Lib.hid (And.intro hbel4 (And.intro kR4 (And.intro hrs4 (And.intro kO3 (And.intro hn1 hg4)))))
 clear hbel4 kR4 hrs4 kO3 hn1 hg4
 go_upto_region 4 with (first
   | (go_at_call 44; (with_reducible refine (fieldsNo k HNO.out _).mono ?_); rintro e w5 ⟨rfl, hb5⟩; dsimp only; have H5 := Lib.hid hb5; clear hb5 c0)
   | (refine wpList_store_rowTo rfl 83 _ _ rfl rfl w5.heap.size fdZ rfl rfl 83 #[.bool false, .bool false, .bool false, .bool false, .bool false] (Blk.new w5 83 #[.bool false, .bool false, .bool false, .bool false, .bool false]) (by kernel_rfl) rfl (by kernel_rfl) ?_))
 have hb6 : Below w5.heap.size w5 ((w5.alloc (.cells #[.bool false, .bool false, .bool false, .bool false, .bool false] 83)).setRow w5.heap.size fdZ) := below_setRow ((Below.refl _ _).alloc (Nat.le_refl _) (.cells #[.bool false, .bool false, .bool false, .bool false, .bool false] 83)) (Nat.le_refl _) _
 have kF : Blk ((w5.alloc (.cells #[.bool false, .bool false, .bool false, .bool false, .bool false] 83)).setRow w5.heap.size fdZ) w5.heap.size 83 fdZ := (Blk.new w5 83 #[.bool false, .bool false, .bool false, .bool false, .bool false]).row _
 obtain ⟨hbel4, kR4, hrs4, kO4, hn1, hg4⟩ := HB4.out
 have hb46 := H5.out.trans (hb6.mono H5.out.size)
 have hbel6 := hbel4.trans (hb46.mono hbel4.size)
 have hof : Bo < w5.heap.size := by have := (kO4.on H5.out).lt; omega
 obtain ⟨bF, hbF⟩ : ∃ bF, bF = w5.heap.size := ⟨_, rfl⟩
 rw [← hbF] at hb46 hbel6 hof kF ⊢
 have hos := OS.new hbel6 (kR4.on hb46) (kO4.on hb46) kF (hrs4.on hb46) hn1 hg4 hof
 clear hb6 hbel4 kR4 hrs4 kO4 hn1 hg4 hb46 hbel6 hof kF hbF H5 HB4
 generalize (w5.alloc (.cells #[.bool false, .bool false, .bool false, .bool false, .bool false] 83)).setRow bF fdZ = W0 at hos ⊢
 have HX := Lib.hid hos
 have HNN : Hid (∀ o, mayO o = true → l ≠ opB o) := Lib.hid (fin_no (by decide) HT1.out HNO.out)
 clear hos
 go_wp2_with (refine wpList_store_rowTo rfl 27 _ _ rfl rfl w.heap.size zCs rfl rfl 27 zCs HX.out.rr (by kernel_rfl) rfl (by kernel_rfl) ?_)
 obtain ⟨h7, h8, h9⟩ := HX.out.out zCs
 have t0 := h9.cell 0
 have t1 := h9.cell 1
 have t2 := h9.cell 2
 have t3 := h9.cell 3
 have t4 := h9.cell 4
 have t5 := h9.cell 5
 have t6 := h9.cell 6
 have HE2 := Lib.hid h8
 clear h7 h8 h9
 generalize W0.setRow w.heap.size zCs = w7 at t0 t1 t2 t3 t4 t5 t6 HE2 ⊢
 refine bodyPost_ret (v := .tuple #[.agg zCs, .int .i64 4]) ?_ rfl (.inr ⟨HNN.out, rfl, HE2.out⟩)
 simp at t0 t1 t2 t3 t4 t5 t6
 simp [results, Tryz.f10, go_sem, t0, t1, t2, t3, t4, t5, t6]
set_option maxHeartbeats 16000000 in
theorem opOf1 (A : Option Addr) (c : Nat) (l : List Int) (w : World) (hr : Rd w w.heap.size A l) (hby : Byt l) (hn : l.length ≤ 100000000) (hk : (smallV 8 (tk false l 1)).1 = 1) :
   Calls Tryz.prog 10 #[.slice A l.length c] w (OpOfOut w l) := by
 have hb1 : Below w.heap.size w (w.alloc (.cells zCs 27)) := (Below.refl _ _).alloc (Nat.le_refl _) _
 have k1 := Blk.new w 27 zCs
 have HRD := Lib.hid (read_any A c l _ ((hr.below hb1).more hb1.size) hby hn)
 have HB1 := Lib.hid (And.intro hb1 k1)
 have hz1 : w.heap.size < (w.alloc (.cells zCs 27)).heap.size := by rw [World.size_alloc]; omega
 have HZ1 := Lib.hid hz1
 have ht1 := took_smallV (f := false) (tag := 1) (m := 8) hby (by decide) (by decide)
 generalize hsm : smallV 8 (tk false l 1) = S1 at hk ht1
 obtain ⟨k1', f1, r1⟩ := S1
 dsimp only at hk ht1
 subst hk
 have HT1 := Lib.hid ht1
 have HSM := Lib.hid hsm
 have HBY := Lib.hid hby
 obtain ⟨n, hnn⟩ : ∃ n, n = l.length := ⟨_, rfl⟩
 rw [← hnn] at HRD ⊢
 clear hr hby hb1 k1 hn hnn hz1 ht1 hsm
 go_enter Tryz.func10, Tryz.ntmps10
 go_wp2_with fail
 refine HRD.out.mono ?_
 clear HRD
 rintro e w2 ⟨g, rfl, hrs2, hgq, hb2⟩
 have hS := smallN g g false l 1 8 w2 hrs2 (by decide) (by decide)
 rw [HSM.out] at hS
 dsimp only at hS
 have HS := Lib.hid hS
 have hg1 : w.heap.size < g := Nat.lt_of_lt_of_le HZ1.out hgq
 have H2 := Lib.hid (And.intro (HB1.out.1.trans (hb2.mono (Nat.le_of_lt HZ1.out))) (And.intro (HB1.out.2.on hb2) hg1))
 clear hrs2 hgq hb2 hS hg1
 go_upto_region 3 with (first
   | (go_at_call 53; (with_reducible refine HS.out.mono ?_); clear HS; rintro e w3 ⟨rfl, hrs3, hg3⟩; dsimp only; have H3 := Lib.hid (And.intro hrs3 hg3); clear hrs3 hg3)
   | (refine wpList_store_rowTo rfl 27 _ _ rfl rfl w3.heap.size #[.int .i64 1, .string ⟨#[]⟩, .string ⟨#[]⟩, .slice none 0 0, .slice none 0 0, .slice none 0 0, .int .i64 0] rfl rfl 27 zCs (Blk.new w3 27 zCs) (by kernel_rfl) rfl (by kernel_rfl) ?_))
 have hz3 : w.heap.size < w3.heap.size := by have := H2.out.2.2; have := H3.out.1.lt; omega
 have hgl3 := H3.out.1.lt
 have hb3 : Below w3.heap.size w3 ((w3.alloc (.cells zCs 27)).setRow w3.heap.size #[.int .i64 1, .string ⟨#[]⟩, .string ⟨#[]⟩, .slice none 0 0, .slice none 0 0, .slice none 0 0, .int .i64 0]) := below_setRow ((Below.refl _ _).alloc (Nat.le_refl _) (.cells zCs 27)) (Nat.le_refl _) _
 have kO3 : Blk ((w3.alloc (.cells zCs 27)).setRow w3.heap.size #[.int .i64 1, .string ⟨#[]⟩, .string ⟨#[]⟩, .slice none 0 0, .slice none 0 0, .slice none 0 0, .int .i64 0]) w3.heap.size 27 #[.int .i64 1, .string ⟨#[]⟩, .string ⟨#[]⟩, .slice none 0 0, .slice none 0 0, .slice none 0 0, .int .i64 0] := (Blk.new w3 27 zCs).row _
 have hbel3 : Below w.heap.size w w3 := H2.out.1.trans (below_grown H3.out.2 (Nat.le_of_lt H2.out.2.2) H2.out.1.size)
 have kR3 : Blk w3 w.heap.size 27 zCs := H2.out.2.1.grown H3.out.2 (fun e => by injection e with e; have := H2.out.2.2; omega)
 have hbel4 := hbel3.trans (hb3.mono hbel3.size)
 have kR4 := kR3.on hb3
 have hrs4 := H3.out.1.on hb3
 obtain ⟨Bo, hBo⟩ : ∃ Bo, Bo = w3.heap.size := ⟨_, rfl⟩
 have hg4 : g < Bo := by omega
 rw [← hBo] at hbel4 kR4 hrs4 kO3 ⊢
 clear hb3 hbel3 kR3 hz3 hgl3 H3 hBo
 have hn1 := H2.out.2.2
 clear H2 HB1 HZ1
 generalize (w3.alloc (.cells zCs 27)).setRow Bo #[.int .i64 1, .string ⟨#[]⟩, .string ⟨#[]⟩, .slice none 0 0, .slice none 0 0, .slice none 0 0, .int .i64 0] = W4 at hbel4 kR4 hrs4 kO3 ⊢
 have c0 : W4.cell? ⟨Bo, 0, none⟩ = some (.int .i64 1) := kO3.cell 0
 have HB4 := Lib.hid (And.intro hbel4 (And.intro kR4 (And.intro hrs4 (And.intro kO3 (And.intro hn1 hg4)))))
 clear hbel4 kR4 hrs4 kO3 hn1 hg4
 go_upto_region 4 with (first
   | (go_at_call 44; (with_reducible refine (fields1 _).mono ?_); rintro e w5 ⟨rfl, hb5⟩; dsimp only; have H5 := Lib.hid hb5; clear hb5 c0)
   | (refine wpList_store_rowTo rfl 83 _ _ rfl rfl w5.heap.size (fdCs 1) rfl rfl 83 #[.bool false, .bool false, .bool false, .bool false, .bool false] (Blk.new w5 83 #[.bool false, .bool false, .bool false, .bool false, .bool false]) (by kernel_rfl) rfl (by kernel_rfl) ?_))
 have hb6 : Below w5.heap.size w5 ((w5.alloc (.cells #[.bool false, .bool false, .bool false, .bool false, .bool false] 83)).setRow w5.heap.size (fdCs 1)) := below_setRow ((Below.refl _ _).alloc (Nat.le_refl _) (.cells #[.bool false, .bool false, .bool false, .bool false, .bool false] 83)) (Nat.le_refl _) _
 have kF : Blk ((w5.alloc (.cells #[.bool false, .bool false, .bool false, .bool false, .bool false] 83)).setRow w5.heap.size (fdCs 1)) w5.heap.size 83 (fdCs 1) := (Blk.new w5 83 #[.bool false, .bool false, .bool false, .bool false, .bool false]).row _
 obtain ⟨hbel4, kR4, hrs4, kO4, hn1, hg4⟩ := HB4.out
 have hb46 := H5.out.trans (hb6.mono H5.out.size)
 have hbel6 := hbel4.trans (hb46.mono hbel4.size)
 have hof : Bo < w5.heap.size := by have := (kO4.on H5.out).lt; omega
 obtain ⟨bF, hbF⟩ : ∃ bF, bF = w5.heap.size := ⟨_, rfl⟩
 rw [← hbF] at hb46 hbel6 hof kF ⊢
 have hos := OS.new hbel6 (kR4.on hb46) (kO4.on hb46) kF (hrs4.on hb46) hn1 hg4 hof
 clear hb6 hbel4 kR4 hrs4 kO4 hn1 hg4 hb46 hbel6 hof kF hbF H5 HB4
 generalize (w5.alloc (.cells #[.bool false, .bool false, .bool false, .bool false, .bool false] 83)).setRow bF (fdCs 1) = W0 at hos ⊢
 have ff0 : W0.cell? ⟨bF, 0, none⟩ = some (.bool true) := (hos.ff.cell 0).trans rfl
 have ff1 : W0.cell? ⟨bF, 1, none⟩ = some (.bool false) := (hos.ff.cell 1).trans rfl
 have ff2 : W0.cell? ⟨bF, 2, none⟩ = some (.bool true) := (hos.ff.cell 2).trans rfl
 have ff3 : W0.cell? ⟨bF, 3, none⟩ = some (.bool false) := (hos.ff.cell 3).trans rfl
 have ff4 : W0.cell? ⟨bF, 4, none⟩ = some (.bool false) := (hos.ff.cell 4).trans rfl
 have hby1 := hos.rs.byt
 have HC1 : Hid (Calls Tryz.prog 54 #[.pointer (some ⟨g, 0, none⟩), .int .u8 2] W0 fun e w' => e = .returned (.string (sx (u8s ((tk f1 r1 2).1.getD [])))) ∧ RS w' g g (tk f1 r1 2).2.1 (tk f1 r1 2).2.2 ∧ W0.grownBy w' (some g)) := Lib.hid (by
   have h := text_r g g f1 r1 2 W0 hos.rs
   rw [← sx_u8s] at h
   exact h)
 have HT2 := Lib.hid (took_text (f := f1) (tag := 2) hby1 (by decide))
 generalize u8s ((tk f1 r1 2).1.getD []) = s1 at HC1 HT2
 generalize (tk f1 r1 2).2.1 = g1 at HC1 HT2
 generalize (tk f1 r1 2).2.2 = q1 at HC1 HT2
 have HO1 := Lib.hid hos
 clear hos hby1
 go_upto_region 8 with (go_at_call 54; (with_reducible refine HC1.out.mono ?_); clear HC1 ff0 ff1 ff2 ff3 ff4; rintro e V1 ⟨rfl, hrs, hg⟩; dsimp only; have HP1 := Lib.hid (HO1.out.gr hg hrs); clear hrs hg; have ff0 : V1.cell? ⟨bF, 0, none⟩ = some (.bool true) := (HP1.out.ff.cell 0).trans rfl; have fz := HP1.out.oo.frozen 1; have cz : V1.cell? ⟨Bo, 1, none⟩ = some (.string (sx _)) := HP1.out.oo.cell 1)
 clear ff0 fz cz
 have hos := HP1.out.name s1
 generalize V1.setCell ⟨Bo, 1, none⟩ (.string (sx s1)) = W1 at hos ⊢
 clear HP1 HO1
 have ff0 : W1.cell? ⟨bF, 0, none⟩ = some (.bool true) := (hos.ff.cell 0).trans rfl
 have ff1 : W1.cell? ⟨bF, 1, none⟩ = some (.bool false) := (hos.ff.cell 1).trans rfl
 have ff2 : W1.cell? ⟨bF, 2, none⟩ = some (.bool true) := (hos.ff.cell 2).trans rfl
 have ff3 : W1.cell? ⟨bF, 3, none⟩ = some (.bool false) := (hos.ff.cell 3).trans rfl
 have ff4 : W1.cell? ⟨bF, 4, none⟩ = some (.bool false) := (hos.ff.cell 4).trans rfl
 have hby2 := hos.rs.byt
 have HC2 := Lib.hid (takeAttrs_any g g g1 q1 W1 hos.rs)
 have HO2 := Lib.hid hos
 clear hos hby2
 go_upto_region 12 with (go_at_call 55; (with_reducible refine HC2.out.mono ?_); clear HC2 ff0 ff1 ff2 ff3 ff4; rintro e V2 ⟨g2, q2, l2, v2, rfl, hrow, hrs, hg, htk⟩; obtain ⟨Aa, ca, na, rfl, HNa, _⟩ := rdv_len (YtcjiofhjognklaaGreat.RowK.rdv hrow); dsimp only; have HT3 := Lib.hid htk; have HP2 := Lib.hid (HO2.out.gr hg hrs); have HR2 := Lib.hid (YtcjiofhjognklaaGreat.RowK.low hrow HO2.out.bel.size); clear hrs hg htk hrow; have fz := HP2.out.oo.frozen 3; have cz : V2.cell? ⟨Bo, 3, none⟩ = some (.slice none 0 0) := HP2.out.oo.cell 3)
 clear fz cz
 have hos := HP2.out.attrs (.slice Aa na ca) l2 HR2.out
 generalize V2.setCell ⟨Bo, 3, none⟩ (.slice Aa na ca) = W2 at hos ⊢
 clear HP2 HO2 HR2
 have ff0 : W2.cell? ⟨bF, 0, none⟩ = some (.bool true) := (hos.ff.cell 0).trans rfl
 have ff1 : W2.cell? ⟨bF, 1, none⟩ = some (.bool false) := (hos.ff.cell 1).trans rfl
 have ff2 : W2.cell? ⟨bF, 2, none⟩ = some (.bool true) := (hos.ff.cell 2).trans rfl
 have ff3 : W2.cell? ⟨bF, 3, none⟩ = some (.bool false) := (hos.ff.cell 3).trans rfl
 have ff4 : W2.cell? ⟨bF, 4, none⟩ = some (.bool false) := (hos.ff.cell 4).trans rfl
 have HFIN : Hid (Fin1 l (opA 1 s1 l2) g2 q2) := Lib.hid (fin_A (by decide) HT1.out (by simp [fA]) HT2.out HT3.out)
 have HX : ∃ (o : Opn) (va vp vc : Value), Hid (Fin1 l o g2 q2 ∧ OS w g Bo bF (fdCs 1) o va vp vc g2 q2 W2) := ⟨_, _, _, _, Lib.hid ⟨HFIN.out, hos⟩⟩
 clear hos HFIN
 obtain ⟨o, va, vp, vc, HX⟩ := HX
 have d0 : W2.cell? ⟨Bo, 0, none⟩ = some (.int .i64 o.k) := HX.out.2.oo.cell 0
 have d1 : W2.cell? ⟨Bo, 1, none⟩ = some (.string (sx o.name)) := HX.out.2.oo.cell 1
 have d2 : W2.cell? ⟨Bo, 2, none⟩ = some (.string (sx o.dst)) := HX.out.2.oo.cell 2
 have d3 : W2.cell? ⟨Bo, 3, none⟩ = some va := HX.out.2.oo.cell 3
 have d4 : W2.cell? ⟨Bo, 4, none⟩ = some vp := HX.out.2.oo.cell 4
 have d5 : W2.cell? ⟨Bo, 5, none⟩ = some vc := HX.out.2.oo.cell 5
 have d6 : W2.cell? ⟨Bo, 6, none⟩ = some (.int .i64 o.n) := HX.out.2.oo.cell 6
 have HE := Lib.hid (rend_any g g g2 q2 W2 HX.out.2.rs)
 by_cases hgood : g2 = false ∧ q2 = []
 · obtain ⟨rfl, rfl⟩ := hgood
   have HLM := Lib.hid (HX.out.1.gd rfl).lim
   have HMA := mayOp_any o va vp vc W2 HX.out.2.at_ HLM.out
   cases hm : mayO o with
   | true =>
     rw [hm] at HMA
     have HMA := Lib.hid HMA
     have HM := Lib.hid hm
     clear hm
     go_upto_region 19 with (first
       | (go_at_call 59; (with_reducible refine HE.out.mono ?_); clear HE; rintro e wE ⟨⟨n9, rfl, h9⟩, rfl⟩; obtain rfl : n9 = 0 := h9.2 (by simp); clear h9)
       | (go_at_call 13; (with_reducible refine HMA.out.mono ?_); clear HMA d0 d1 d2 d3 d4 d5 d6; rintro e w6 ⟨rfl, hb6⟩; dsimp only; have H6 := Lib.hid (HX.out.2.on hb6); clear hb6))
     go_wp2_with (first
       | (refine wpList_load_row rfl 27 _ rfl Bo rfl 27 (opCs o va vp vc) (0, 0) _ H6.out.oo rfl rfl (by kernel_rfl) ?_)
       | (refine wpList_store_rowTo rfl 27 _ _ rfl rfl w.heap.size (opCs o va vp vc) rfl rfl 27 zCs H6.out.rr (by kernel_rfl) rfl ?c1 ?_; case c1 => exact opCs_one H6.out))
     obtain ⟨h7, h8, h9⟩ := H6.out.out (opCs o va vp vc)
     have t0 := h9.cell 0
     have t1 := h9.cell 1
     have t2 := h9.cell 2
     have t3 := h9.cell 3
     have t4 := h9.cell 4
     have t5 := h9.cell 5
     have t6 := h9.cell 6
     have HE2 := Lib.hid (And.intro h7 h8)
     clear h7 h8 h9
     generalize w6.setRow w.heap.size (opCs o va vp vc) = w7 at t0 t1 t2 t3 t4 t5 t6 HE2 ⊢
     refine bodyPost_ret (v := .tuple #[opVal o va vp vc, .int .i64 0]) ?_ rfl (.inl ⟨o, va, vp, vc, HM.out, HX.out.1.snd rfl rfl, rfl, HE2.out.1, HLM.out, HE2.out.2⟩)
     simp at t0 t1 t2 t3 t4 t5 t6
     simp [results, Tryz.f10, go_sem, t0, t1, t2, t3, t4, t5, t6]
   | false =>
     rw [hm] at HMA
     have HMA := Lib.hid HMA
     have HNO : Hid (∀ o, mayO o = true → l ≠ opB o) := Lib.hid (HX.out.1.none (fun h => by rw [hm] at h; cases h.2.2))
     clear hm
     go_upto_region 18 with (first
       | (go_at_call 59; (with_reducible refine HE.out.mono ?_); clear HE; rintro e wE ⟨⟨n9, rfl, h9⟩, rfl⟩; obtain rfl : n9 = 0 := h9.2 (by simp); clear h9)
       | (go_at_call 13; (with_reducible refine HMA.out.mono ?_); clear HMA d0 d1 d2 d3 d4 d5 d6; rintro e w6 ⟨rfl, hb6⟩; dsimp only; have H6 := Lib.hid (HX.out.2.on hb6); clear hb6))
     go_wp2_with (refine wpList_store_rowTo rfl 27 _ _ rfl rfl w.heap.size zCs rfl rfl 27 zCs H6.out.rr (by kernel_rfl) rfl (by kernel_rfl) ?_)
     obtain ⟨h7, h8, h9⟩ := H6.out.out zCs
     have t0 := h9.cell 0
     have t1 := h9.cell 1
     have t2 := h9.cell 2
     have t3 := h9.cell 3
     have t4 := h9.cell 4
     have t5 := h9.cell 5
     have t6 := h9.cell 6
     have HE2 := Lib.hid h8
     clear h7 h8 h9
     generalize w6.setRow w.heap.size zCs = w7 at t0 t1 t2 t3 t4 t5 t6 HE2 ⊢
     refine bodyPost_ret (v := .tuple #[.agg zCs, .int .i64 4]) ?_ rfl (.inr ⟨HNO.out, rfl, HE2.out⟩)
     simp at t0 t1 t2 t3 t4 t5 t6
     simp [results, Tryz.f10, go_sem, t0, t1, t2, t3, t4, t5, t6]
 · have HNO : Hid (∀ o, mayO o = true → l ≠ opB o) := Lib.hid (HX.out.1.none (fun h => hgood ⟨h.1, h.2.1⟩))
   have HNG := Lib.hid hgood
   clear hgood
   go_upto_region 18 with (go_at_call 59; (with_reducible refine HE.out.mono ?_); clear HE; rintro e wE ⟨⟨n9, rfl, h9⟩, rfl⟩; obtain ⟨hnz, hnz2⟩ := end_nz h9 HNG.out; clear h9)
   go_wp2_with (refine wpList_store_rowTo rfl 27 _ _ rfl rfl w.heap.size zCs rfl rfl 27 zCs HX.out.2.rr (by kernel_rfl) rfl (by kernel_rfl) ?_)
   obtain ⟨h7, h8, h9⟩ := HX.out.2.out zCs
   have t0 := h9.cell 0
   have t1 := h9.cell 1
   have t2 := h9.cell 2
   have t3 := h9.cell 3
   have t4 := h9.cell 4
   have t5 := h9.cell 5
   have t6 := h9.cell 6
   have HE2 := Lib.hid h8
   clear h7 h8 h9 d0 d1 d2 d3 d4 d5 d6
   generalize wE.setRow w.heap.size zCs = w7 at t0 t1 t2 t3 t4 t5 t6 HE2 ⊢
   refine bodyPost_ret (v := .tuple #[.agg zCs, .int .i64 4]) ?_ rfl (.inr ⟨HNO.out, rfl, HE2.out⟩)
   simp at t0 t1 t2 t3 t4 t5 t6
   simp [results, Tryz.f10, go_sem, t0, t1, t2, t3, t4, t5, t6]
set_option maxHeartbeats 16000000 in
theorem opOf2 (A : Option Addr) (c : Nat) (l : List Int) (w : World) (hr : Rd w w.heap.size A l) (hby : Byt l) (hn : l.length ≤ 100000000) (hk : (smallV 8 (tk false l 1)).1 = 2) :
   Calls Tryz.prog 10 #[.slice A l.length c] w (OpOfOut w l) := by
 have hb1 : Below w.heap.size w (w.alloc (.cells zCs 27)) := (Below.refl _ _).alloc (Nat.le_refl _) _
 have k1 := Blk.new w 27 zCs
 have HRD := Lib.hid (read_any A c l _ ((hr.below hb1).more hb1.size) hby hn)
 have HB1 := Lib.hid (And.intro hb1 k1)
 have hz1 : w.heap.size < (w.alloc (.cells zCs 27)).heap.size := by rw [World.size_alloc]; omega
 have HZ1 := Lib.hid hz1
 have ht1 := took_smallV (f := false) (tag := 1) (m := 8) hby (by decide) (by decide)
 generalize hsm : smallV 8 (tk false l 1) = S1 at hk ht1
 obtain ⟨k1', f1, r1⟩ := S1
 dsimp only at hk ht1
 subst hk
 have HT1 := Lib.hid ht1
 have HSM := Lib.hid hsm
 have HBY := Lib.hid hby
 obtain ⟨n, hnn⟩ : ∃ n, n = l.length := ⟨_, rfl⟩
 rw [← hnn] at HRD ⊢
 clear hr hby hb1 k1 hn hnn hz1 ht1 hsm
 go_enter Tryz.func10, Tryz.ntmps10
 go_wp2_with fail
 refine HRD.out.mono ?_
 clear HRD
 rintro e w2 ⟨g, rfl, hrs2, hgq, hb2⟩
 have hS := smallN g g false l 1 8 w2 hrs2 (by decide) (by decide)
 rw [HSM.out] at hS
 dsimp only at hS
 have HS := Lib.hid hS
 have hg1 : w.heap.size < g := Nat.lt_of_lt_of_le HZ1.out hgq
 have H2 := Lib.hid (And.intro (HB1.out.1.trans (hb2.mono (Nat.le_of_lt HZ1.out))) (And.intro (HB1.out.2.on hb2) hg1))
 clear hrs2 hgq hb2 hS hg1
 go_upto_region 3 with (first
   | (go_at_call 53; (with_reducible refine HS.out.mono ?_); clear HS; rintro e w3 ⟨rfl, hrs3, hg3⟩; dsimp only; have H3 := Lib.hid (And.intro hrs3 hg3); clear hrs3 hg3)
   | (refine wpList_store_rowTo rfl 27 _ _ rfl rfl w3.heap.size #[.int .i64 2, .string ⟨#[]⟩, .string ⟨#[]⟩, .slice none 0 0, .slice none 0 0, .slice none 0 0, .int .i64 0] rfl rfl 27 zCs (Blk.new w3 27 zCs) (by kernel_rfl) rfl (by kernel_rfl) ?_))
 have hz3 : w.heap.size < w3.heap.size := by have := H2.out.2.2; have := H3.out.1.lt; omega
 have hgl3 := H3.out.1.lt
 have hb3 : Below w3.heap.size w3 ((w3.alloc (.cells zCs 27)).setRow w3.heap.size #[.int .i64 2, .string ⟨#[]⟩, .string ⟨#[]⟩, .slice none 0 0, .slice none 0 0, .slice none 0 0, .int .i64 0]) := below_setRow ((Below.refl _ _).alloc (Nat.le_refl _) (.cells zCs 27)) (Nat.le_refl _) _
 have kO3 : Blk ((w3.alloc (.cells zCs 27)).setRow w3.heap.size #[.int .i64 2, .string ⟨#[]⟩, .string ⟨#[]⟩, .slice none 0 0, .slice none 0 0, .slice none 0 0, .int .i64 0]) w3.heap.size 27 #[.int .i64 2, .string ⟨#[]⟩, .string ⟨#[]⟩, .slice none 0 0, .slice none 0 0, .slice none 0 0, .int .i64 0] := (Blk.new w3 27 zCs).row _
 have hbel3 : Below w.heap.size w w3 := H2.out.1.trans (below_grown H3.out.2 (Nat.le_of_lt H2.out.2.2) H2.out.1.size)
 have kR3 : Blk w3 w.heap.size 27 zCs := H2.out.2.1.grown H3.out.2 (fun e => by injection e with e; have := H2.out.2.2; omega)
 have hbel4 := hbel3.trans (hb3.mono hbel3.size)
 have kR4 := kR3.on hb3
 have hrs4 := H3.out.1.on hb3
 obtain ⟨Bo, hBo⟩ : ∃ Bo, Bo = w3.heap.size := ⟨_, rfl⟩
 have hg4 : g < Bo := by omega
 rw [← hBo] at hbel4 kR4 hrs4 kO3 ⊢
 clear hb3 hbel3 kR3 hz3 hgl3 H3 hBo
 have hn1 := H2.out.2.2
 clear H2 HB1 HZ1
 generalize (w3.alloc (.cells zCs 27)).setRow Bo #[.int .i64 2, .string ⟨#[]⟩, .string ⟨#[]⟩, .slice none 0 0, .slice none 0 0, .slice none 0 0, .int .i64 0] = W4 at hbel4 kR4 hrs4 kO3 ⊢
 have c0 : W4.cell? ⟨Bo, 0, none⟩ = some (.int .i64 2) := kO3.cell 0
 have HB4 := Lib.hid (And.intro hbel4 (And.intro kR4 (And.intro hrs4 (And.intro kO3 (And.intro hn1 hg4)))))
 clear hbel4 kR4 hrs4 kO3 hn1 hg4
 go_upto_region 4 with (first
   | (go_at_call 44; (with_reducible refine (fields2 _).mono ?_); rintro e w5 ⟨rfl, hb5⟩; dsimp only; have H5 := Lib.hid hb5; clear hb5 c0)
   | (refine wpList_store_rowTo rfl 83 _ _ rfl rfl w5.heap.size (fdCs 2) rfl rfl 83 #[.bool false, .bool false, .bool false, .bool false, .bool false] (Blk.new w5 83 #[.bool false, .bool false, .bool false, .bool false, .bool false]) (by kernel_rfl) rfl (by kernel_rfl) ?_))
 have hb6 : Below w5.heap.size w5 ((w5.alloc (.cells #[.bool false, .bool false, .bool false, .bool false, .bool false] 83)).setRow w5.heap.size (fdCs 2)) := below_setRow ((Below.refl _ _).alloc (Nat.le_refl _) (.cells #[.bool false, .bool false, .bool false, .bool false, .bool false] 83)) (Nat.le_refl _) _
 have kF : Blk ((w5.alloc (.cells #[.bool false, .bool false, .bool false, .bool false, .bool false] 83)).setRow w5.heap.size (fdCs 2)) w5.heap.size 83 (fdCs 2) := (Blk.new w5 83 #[.bool false, .bool false, .bool false, .bool false, .bool false]).row _
 obtain ⟨hbel4, kR4, hrs4, kO4, hn1, hg4⟩ := HB4.out
 have hb46 := H5.out.trans (hb6.mono H5.out.size)
 have hbel6 := hbel4.trans (hb46.mono hbel4.size)
 have hof : Bo < w5.heap.size := by have := (kO4.on H5.out).lt; omega
 obtain ⟨bF, hbF⟩ : ∃ bF, bF = w5.heap.size := ⟨_, rfl⟩
 rw [← hbF] at hb46 hbel6 hof kF ⊢
 have hos := OS.new hbel6 (kR4.on hb46) (kO4.on hb46) kF (hrs4.on hb46) hn1 hg4 hof
 clear hb6 hbel4 kR4 hrs4 kO4 hn1 hg4 hb46 hbel6 hof kF hbF H5 HB4
 generalize (w5.alloc (.cells #[.bool false, .bool false, .bool false, .bool false, .bool false] 83)).setRow bF (fdCs 2) = W0 at hos ⊢
 have ff0 : W0.cell? ⟨bF, 0, none⟩ = some (.bool true) := (hos.ff.cell 0).trans rfl
 have ff1 : W0.cell? ⟨bF, 1, none⟩ = some (.bool false) := (hos.ff.cell 1).trans rfl
 have ff2 : W0.cell? ⟨bF, 2, none⟩ = some (.bool false) := (hos.ff.cell 2).trans rfl
 have ff3 : W0.cell? ⟨bF, 3, none⟩ = some (.bool false) := (hos.ff.cell 3).trans rfl
 have ff4 : W0.cell? ⟨bF, 4, none⟩ = some (.bool false) := (hos.ff.cell 4).trans rfl
 have hby1 := hos.rs.byt
 have HC1 : Hid (Calls Tryz.prog 54 #[.pointer (some ⟨g, 0, none⟩), .int .u8 2] W0 fun e w' => e = .returned (.string (sx (u8s ((tk f1 r1 2).1.getD [])))) ∧ RS w' g g (tk f1 r1 2).2.1 (tk f1 r1 2).2.2 ∧ W0.grownBy w' (some g)) := Lib.hid (by
   have h := text_r g g f1 r1 2 W0 hos.rs
   rw [← sx_u8s] at h
   exact h)
 have HT2 := Lib.hid (took_text (f := f1) (tag := 2) hby1 (by decide))
 generalize u8s ((tk f1 r1 2).1.getD []) = s1 at HC1 HT2
 generalize (tk f1 r1 2).2.1 = g1 at HC1 HT2
 generalize (tk f1 r1 2).2.2 = q1 at HC1 HT2
 have HO1 := Lib.hid hos
 clear hos hby1
 go_upto_region 8 with (go_at_call 54; (with_reducible refine HC1.out.mono ?_); clear HC1 ff0 ff1 ff2 ff3 ff4; rintro e V1 ⟨rfl, hrs, hg⟩; dsimp only; have HP1 := Lib.hid (HO1.out.gr hg hrs); clear hrs hg; have ff0 : V1.cell? ⟨bF, 0, none⟩ = some (.bool true) := (HP1.out.ff.cell 0).trans rfl; have fz := HP1.out.oo.frozen 1; have cz : V1.cell? ⟨Bo, 1, none⟩ = some (.string (sx _)) := HP1.out.oo.cell 1)
 clear ff0 fz cz
 have hos := HP1.out.name s1
 generalize V1.setCell ⟨Bo, 1, none⟩ (.string (sx s1)) = W1 at hos ⊢
 clear HP1 HO1
 have ff0 : W1.cell? ⟨bF, 0, none⟩ = some (.bool true) := (hos.ff.cell 0).trans rfl
 have ff1 : W1.cell? ⟨bF, 1, none⟩ = some (.bool false) := (hos.ff.cell 1).trans rfl
 have ff2 : W1.cell? ⟨bF, 2, none⟩ = some (.bool false) := (hos.ff.cell 2).trans rfl
 have ff3 : W1.cell? ⟨bF, 3, none⟩ = some (.bool false) := (hos.ff.cell 3).trans rfl
 have ff4 : W1.cell? ⟨bF, 4, none⟩ = some (.bool false) := (hos.ff.cell 4).trans rfl
 have HFIN : Hid (Fin1 l (opN 2 s1) g1 q1) := Lib.hid (fin_N (by decide) HT1.out (.inl rfl) HT2.out)
 have HX : ∃ (o : Opn) (va vp vc : Value), Hid (Fin1 l o g1 q1 ∧ OS w g Bo bF (fdCs 2) o va vp vc g1 q1 W1) := ⟨_, _, _, _, Lib.hid ⟨HFIN.out, hos⟩⟩
 clear hos HFIN
 obtain ⟨o, va, vp, vc, HX⟩ := HX
 have d0 : W1.cell? ⟨Bo, 0, none⟩ = some (.int .i64 o.k) := HX.out.2.oo.cell 0
 have d1 : W1.cell? ⟨Bo, 1, none⟩ = some (.string (sx o.name)) := HX.out.2.oo.cell 1
 have d2 : W1.cell? ⟨Bo, 2, none⟩ = some (.string (sx o.dst)) := HX.out.2.oo.cell 2
 have d3 : W1.cell? ⟨Bo, 3, none⟩ = some va := HX.out.2.oo.cell 3
 have d4 : W1.cell? ⟨Bo, 4, none⟩ = some vp := HX.out.2.oo.cell 4
 have d5 : W1.cell? ⟨Bo, 5, none⟩ = some vc := HX.out.2.oo.cell 5
 have d6 : W1.cell? ⟨Bo, 6, none⟩ = some (.int .i64 o.n) := HX.out.2.oo.cell 6
 have HE := Lib.hid (rend_any g g g1 q1 W1 HX.out.2.rs)
 by_cases hgood : g1 = false ∧ q1 = []
 · obtain ⟨rfl, rfl⟩ := hgood
   have HLM := Lib.hid (HX.out.1.gd rfl).lim
   have HMA := mayOp_any o va vp vc W1 HX.out.2.at_ HLM.out
   cases hm : mayO o with
   | true =>
     rw [hm] at HMA
     have HMA := Lib.hid HMA
     have HM := Lib.hid hm
     clear hm
     go_upto_region 19 with (first
       | (go_at_call 59; (with_reducible refine HE.out.mono ?_); clear HE; rintro e wE ⟨⟨n9, rfl, h9⟩, rfl⟩; obtain rfl : n9 = 0 := h9.2 (by simp); clear h9)
       | (go_at_call 13; (with_reducible refine HMA.out.mono ?_); clear HMA d0 d1 d2 d3 d4 d5 d6; rintro e w6 ⟨rfl, hb6⟩; dsimp only; have H6 := Lib.hid (HX.out.2.on hb6); clear hb6))
     go_wp2_with (first
       | (refine wpList_load_row rfl 27 _ rfl Bo rfl 27 (opCs o va vp vc) (0, 0) _ H6.out.oo rfl rfl (by kernel_rfl) ?_)
       | (refine wpList_store_rowTo rfl 27 _ _ rfl rfl w.heap.size (opCs o va vp vc) rfl rfl 27 zCs H6.out.rr (by kernel_rfl) rfl ?c1 ?_; case c1 => exact opCs_one H6.out))
     obtain ⟨h7, h8, h9⟩ := H6.out.out (opCs o va vp vc)
     have t0 := h9.cell 0
     have t1 := h9.cell 1
     have t2 := h9.cell 2
     have t3 := h9.cell 3
     have t4 := h9.cell 4
     have t5 := h9.cell 5
     have t6 := h9.cell 6
     have HE2 := Lib.hid (And.intro h7 h8)
     clear h7 h8 h9
     generalize w6.setRow w.heap.size (opCs o va vp vc) = w7 at t0 t1 t2 t3 t4 t5 t6 HE2 ⊢
     refine bodyPost_ret (v := .tuple #[opVal o va vp vc, .int .i64 0]) ?_ rfl (.inl ⟨o, va, vp, vc, HM.out, HX.out.1.snd rfl rfl, rfl, HE2.out.1, HLM.out, HE2.out.2⟩)
     simp at t0 t1 t2 t3 t4 t5 t6
     simp [results, Tryz.f10, go_sem, t0, t1, t2, t3, t4, t5, t6]
   | false =>
     rw [hm] at HMA
     have HMA := Lib.hid HMA
     have HNO : Hid (∀ o, mayO o = true → l ≠ opB o) := Lib.hid (HX.out.1.none (fun h => by rw [hm] at h; cases h.2.2))
     clear hm
     go_upto_region 18 with (first
       | (go_at_call 59; (with_reducible refine HE.out.mono ?_); clear HE; rintro e wE ⟨⟨n9, rfl, h9⟩, rfl⟩; obtain rfl : n9 = 0 := h9.2 (by simp); clear h9)
       | (go_at_call 13; (with_reducible refine HMA.out.mono ?_); clear HMA d0 d1 d2 d3 d4 d5 d6; rintro e w6 ⟨rfl, hb6⟩; dsimp only; have H6 := Lib.hid (HX.out.2.on hb6); clear hb6))
     go_wp2_with (refine wpList_store_rowTo rfl 27 _ _ rfl rfl w.heap.size zCs rfl rfl 27 zCs H6.out.rr (by kernel_rfl) rfl (by kernel_rfl) ?_)
     obtain ⟨h7, h8, h9⟩ := H6.out.out zCs
     have t0 := h9.cell 0
     have t1 := h9.cell 1
     have t2 := h9.cell 2
     have t3 := h9.cell 3
     have t4 := h9.cell 4
     have t5 := h9.cell 5
     have t6 := h9.cell 6
     have HE2 := Lib.hid h8
     clear h7 h8 h9
     generalize w6.setRow w.heap.size zCs = w7 at t0 t1 t2 t3 t4 t5 t6 HE2 ⊢
     refine bodyPost_ret (v := .tuple #[.agg zCs, .int .i64 4]) ?_ rfl (.inr ⟨HNO.out, rfl, HE2.out⟩)
     simp at t0 t1 t2 t3 t4 t5 t6
     simp [results, Tryz.f10, go_sem, t0, t1, t2, t3, t4, t5, t6]
 · have HNO : Hid (∀ o, mayO o = true → l ≠ opB o) := Lib.hid (HX.out.1.none (fun h => hgood ⟨h.1, h.2.1⟩))
   have HNG := Lib.hid hgood
   clear hgood
   go_upto_region 18 with (go_at_call 59; (with_reducible refine HE.out.mono ?_); clear HE; rintro e wE ⟨⟨n9, rfl, h9⟩, rfl⟩; obtain ⟨hnz, hnz2⟩ := end_nz h9 HNG.out; clear h9)
   go_wp2_with (refine wpList_store_rowTo rfl 27 _ _ rfl rfl w.heap.size zCs rfl rfl 27 zCs HX.out.2.rr (by kernel_rfl) rfl (by kernel_rfl) ?_)
   obtain ⟨h7, h8, h9⟩ := HX.out.2.out zCs
   have t0 := h9.cell 0
   have t1 := h9.cell 1
   have t2 := h9.cell 2
   have t3 := h9.cell 3
   have t4 := h9.cell 4
   have t5 := h9.cell 5
   have t6 := h9.cell 6
   have HE2 := Lib.hid h8
   clear h7 h8 h9 d0 d1 d2 d3 d4 d5 d6
   generalize wE.setRow w.heap.size zCs = w7 at t0 t1 t2 t3 t4 t5 t6 HE2 ⊢
   refine bodyPost_ret (v := .tuple #[.agg zCs, .int .i64 4]) ?_ rfl (.inr ⟨HNO.out, rfl, HE2.out⟩)
   simp at t0 t1 t2 t3 t4 t5 t6
   simp [results, Tryz.f10, go_sem, t0, t1, t2, t3, t4, t5, t6]
set_option maxHeartbeats 16000000 in
theorem opOf3 (A : Option Addr) (c : Nat) (l : List Int) (w : World) (hr : Rd w w.heap.size A l) (hby : Byt l) (hn : l.length ≤ 100000000) (hk : (smallV 8 (tk false l 1)).1 = 3) :
   Calls Tryz.prog 10 #[.slice A l.length c] w (OpOfOut w l) := by
 have hb1 : Below w.heap.size w (w.alloc (.cells zCs 27)) := (Below.refl _ _).alloc (Nat.le_refl _) _
 have k1 := Blk.new w 27 zCs
 have HRD := Lib.hid (read_any A c l _ ((hr.below hb1).more hb1.size) hby hn)
 have HB1 := Lib.hid (And.intro hb1 k1)
 have hz1 : w.heap.size < (w.alloc (.cells zCs 27)).heap.size := by rw [World.size_alloc]; omega
 have HZ1 := Lib.hid hz1
 have ht1 := took_smallV (f := false) (tag := 1) (m := 8) hby (by decide) (by decide)
 generalize hsm : smallV 8 (tk false l 1) = S1 at hk ht1
 obtain ⟨k1', f1, r1⟩ := S1
 dsimp only at hk ht1
 subst hk
 have HT1 := Lib.hid ht1
 have HSM := Lib.hid hsm
 have HBY := Lib.hid hby
 obtain ⟨n, hnn⟩ : ∃ n, n = l.length := ⟨_, rfl⟩
 rw [← hnn] at HRD ⊢
 clear hr hby hb1 k1 hn hnn hz1 ht1 hsm
 go_enter Tryz.func10, Tryz.ntmps10
 go_wp2_with fail
 refine HRD.out.mono ?_
 clear HRD
 rintro e w2 ⟨g, rfl, hrs2, hgq, hb2⟩
 have hS := smallN g g false l 1 8 w2 hrs2 (by decide) (by decide)
 rw [HSM.out] at hS
 dsimp only at hS
 have HS := Lib.hid hS
 have hg1 : w.heap.size < g := Nat.lt_of_lt_of_le HZ1.out hgq
 have H2 := Lib.hid (And.intro (HB1.out.1.trans (hb2.mono (Nat.le_of_lt HZ1.out))) (And.intro (HB1.out.2.on hb2) hg1))
 clear hrs2 hgq hb2 hS hg1
 go_upto_region 3 with (first
   | (go_at_call 53; (with_reducible refine HS.out.mono ?_); clear HS; rintro e w3 ⟨rfl, hrs3, hg3⟩; dsimp only; have H3 := Lib.hid (And.intro hrs3 hg3); clear hrs3 hg3)
   | (refine wpList_store_rowTo rfl 27 _ _ rfl rfl w3.heap.size #[.int .i64 3, .string ⟨#[]⟩, .string ⟨#[]⟩, .slice none 0 0, .slice none 0 0, .slice none 0 0, .int .i64 0] rfl rfl 27 zCs (Blk.new w3 27 zCs) (by kernel_rfl) rfl (by kernel_rfl) ?_))
 have hz3 : w.heap.size < w3.heap.size := by have := H2.out.2.2; have := H3.out.1.lt; omega
 have hgl3 := H3.out.1.lt
 have hb3 : Below w3.heap.size w3 ((w3.alloc (.cells zCs 27)).setRow w3.heap.size #[.int .i64 3, .string ⟨#[]⟩, .string ⟨#[]⟩, .slice none 0 0, .slice none 0 0, .slice none 0 0, .int .i64 0]) := below_setRow ((Below.refl _ _).alloc (Nat.le_refl _) (.cells zCs 27)) (Nat.le_refl _) _
 have kO3 : Blk ((w3.alloc (.cells zCs 27)).setRow w3.heap.size #[.int .i64 3, .string ⟨#[]⟩, .string ⟨#[]⟩, .slice none 0 0, .slice none 0 0, .slice none 0 0, .int .i64 0]) w3.heap.size 27 #[.int .i64 3, .string ⟨#[]⟩, .string ⟨#[]⟩, .slice none 0 0, .slice none 0 0, .slice none 0 0, .int .i64 0] := (Blk.new w3 27 zCs).row _
 have hbel3 : Below w.heap.size w w3 := H2.out.1.trans (below_grown H3.out.2 (Nat.le_of_lt H2.out.2.2) H2.out.1.size)
 have kR3 : Blk w3 w.heap.size 27 zCs := H2.out.2.1.grown H3.out.2 (fun e => by injection e with e; have := H2.out.2.2; omega)
 have hbel4 := hbel3.trans (hb3.mono hbel3.size)
 have kR4 := kR3.on hb3
 have hrs4 := H3.out.1.on hb3
 obtain ⟨Bo, hBo⟩ : ∃ Bo, Bo = w3.heap.size := ⟨_, rfl⟩
 have hg4 : g < Bo := by omega
 rw [← hBo] at hbel4 kR4 hrs4 kO3 ⊢
 clear hb3 hbel3 kR3 hz3 hgl3 H3 hBo
 have hn1 := H2.out.2.2
 clear H2 HB1 HZ1
 generalize (w3.alloc (.cells zCs 27)).setRow Bo #[.int .i64 3, .string ⟨#[]⟩, .string ⟨#[]⟩, .slice none 0 0, .slice none 0 0, .slice none 0 0, .int .i64 0] = W4 at hbel4 kR4 hrs4 kO3 ⊢
 have c0 : W4.cell? ⟨Bo, 0, none⟩ = some (.int .i64 3) := kO3.cell 0
 have HB4 := Lib.hid (And.intro hbel4 (And.intro kR4 (And.intro hrs4 (And.intro kO3 (And.intro hn1 hg4)))))
 clear hbel4 kR4 hrs4 kO3 hn1 hg4
 go_upto_region 4 with (first
   | (go_at_call 44; (with_reducible refine (fields3 _).mono ?_); rintro e w5 ⟨rfl, hb5⟩; dsimp only; have H5 := Lib.hid hb5; clear hb5 c0)
   | (refine wpList_store_rowTo rfl 83 _ _ rfl rfl w5.heap.size (fdCs 3) rfl rfl 83 #[.bool false, .bool false, .bool false, .bool false, .bool false] (Blk.new w5 83 #[.bool false, .bool false, .bool false, .bool false, .bool false]) (by kernel_rfl) rfl (by kernel_rfl) ?_))
 have hb6 : Below w5.heap.size w5 ((w5.alloc (.cells #[.bool false, .bool false, .bool false, .bool false, .bool false] 83)).setRow w5.heap.size (fdCs 3)) := below_setRow ((Below.refl _ _).alloc (Nat.le_refl _) (.cells #[.bool false, .bool false, .bool false, .bool false, .bool false] 83)) (Nat.le_refl _) _
 have kF : Blk ((w5.alloc (.cells #[.bool false, .bool false, .bool false, .bool false, .bool false] 83)).setRow w5.heap.size (fdCs 3)) w5.heap.size 83 (fdCs 3) := (Blk.new w5 83 #[.bool false, .bool false, .bool false, .bool false, .bool false]).row _
 obtain ⟨hbel4, kR4, hrs4, kO4, hn1, hg4⟩ := HB4.out
 have hb46 := H5.out.trans (hb6.mono H5.out.size)
 have hbel6 := hbel4.trans (hb46.mono hbel4.size)
 have hof : Bo < w5.heap.size := by have := (kO4.on H5.out).lt; omega
 obtain ⟨bF, hbF⟩ : ∃ bF, bF = w5.heap.size := ⟨_, rfl⟩
 rw [← hbF] at hb46 hbel6 hof kF ⊢
 have hos := OS.new hbel6 (kR4.on hb46) (kO4.on hb46) kF (hrs4.on hb46) hn1 hg4 hof
 clear hb6 hbel4 kR4 hrs4 kO4 hn1 hg4 hb46 hbel6 hof kF hbF H5 HB4
 generalize (w5.alloc (.cells #[.bool false, .bool false, .bool false, .bool false, .bool false] 83)).setRow bF (fdCs 3) = W0 at hos ⊢
 have ff0 : W0.cell? ⟨bF, 0, none⟩ = some (.bool true) := (hos.ff.cell 0).trans rfl
 have ff1 : W0.cell? ⟨bF, 1, none⟩ = some (.bool false) := (hos.ff.cell 1).trans rfl
 have ff2 : W0.cell? ⟨bF, 2, none⟩ = some (.bool true) := (hos.ff.cell 2).trans rfl
 have ff3 : W0.cell? ⟨bF, 3, none⟩ = some (.bool false) := (hos.ff.cell 3).trans rfl
 have ff4 : W0.cell? ⟨bF, 4, none⟩ = some (.bool false) := (hos.ff.cell 4).trans rfl
 have hby1 := hos.rs.byt
 have HC1 : Hid (Calls Tryz.prog 54 #[.pointer (some ⟨g, 0, none⟩), .int .u8 2] W0 fun e w' => e = .returned (.string (sx (u8s ((tk f1 r1 2).1.getD [])))) ∧ RS w' g g (tk f1 r1 2).2.1 (tk f1 r1 2).2.2 ∧ W0.grownBy w' (some g)) := Lib.hid (by
   have h := text_r g g f1 r1 2 W0 hos.rs
   rw [← sx_u8s] at h
   exact h)
 have HT2 := Lib.hid (took_text (f := f1) (tag := 2) hby1 (by decide))
 generalize u8s ((tk f1 r1 2).1.getD []) = s1 at HC1 HT2
 generalize (tk f1 r1 2).2.1 = g1 at HC1 HT2
 generalize (tk f1 r1 2).2.2 = q1 at HC1 HT2
 have HO1 := Lib.hid hos
 clear hos hby1
 go_upto_region 8 with (go_at_call 54; (with_reducible refine HC1.out.mono ?_); clear HC1 ff0 ff1 ff2 ff3 ff4; rintro e V1 ⟨rfl, hrs, hg⟩; dsimp only; have HP1 := Lib.hid (HO1.out.gr hg hrs); clear hrs hg; have ff0 : V1.cell? ⟨bF, 0, none⟩ = some (.bool true) := (HP1.out.ff.cell 0).trans rfl; have fz := HP1.out.oo.frozen 1; have cz : V1.cell? ⟨Bo, 1, none⟩ = some (.string (sx _)) := HP1.out.oo.cell 1)
 clear ff0 fz cz
 have hos := HP1.out.name s1
 generalize V1.setCell ⟨Bo, 1, none⟩ (.string (sx s1)) = W1 at hos ⊢
 clear HP1 HO1
 have ff0 : W1.cell? ⟨bF, 0, none⟩ = some (.bool true) := (hos.ff.cell 0).trans rfl
 have ff1 : W1.cell? ⟨bF, 1, none⟩ = some (.bool false) := (hos.ff.cell 1).trans rfl
 have ff2 : W1.cell? ⟨bF, 2, none⟩ = some (.bool true) := (hos.ff.cell 2).trans rfl
 have ff3 : W1.cell? ⟨bF, 3, none⟩ = some (.bool false) := (hos.ff.cell 3).trans rfl
 have ff4 : W1.cell? ⟨bF, 4, none⟩ = some (.bool false) := (hos.ff.cell 4).trans rfl
 have hby2 := hos.rs.byt
 have HC2 := Lib.hid (takeAttrs_any g g g1 q1 W1 hos.rs)
 have HO2 := Lib.hid hos
 clear hos hby2
 go_upto_region 12 with (go_at_call 55; (with_reducible refine HC2.out.mono ?_); clear HC2 ff0 ff1 ff2 ff3 ff4; rintro e V2 ⟨g2, q2, l2, v2, rfl, hrow, hrs, hg, htk⟩; obtain ⟨Aa, ca, na, rfl, HNa, _⟩ := rdv_len (YtcjiofhjognklaaGreat.RowK.rdv hrow); dsimp only; have HT3 := Lib.hid htk; have HP2 := Lib.hid (HO2.out.gr hg hrs); have HR2 := Lib.hid (YtcjiofhjognklaaGreat.RowK.low hrow HO2.out.bel.size); clear hrs hg htk hrow; have fz := HP2.out.oo.frozen 3; have cz : V2.cell? ⟨Bo, 3, none⟩ = some (.slice none 0 0) := HP2.out.oo.cell 3)
 clear fz cz
 have hos := HP2.out.attrs (.slice Aa na ca) l2 HR2.out
 generalize V2.setCell ⟨Bo, 3, none⟩ (.slice Aa na ca) = W2 at hos ⊢
 clear HP2 HO2 HR2
 have ff0 : W2.cell? ⟨bF, 0, none⟩ = some (.bool true) := (hos.ff.cell 0).trans rfl
 have ff1 : W2.cell? ⟨bF, 1, none⟩ = some (.bool false) := (hos.ff.cell 1).trans rfl
 have ff2 : W2.cell? ⟨bF, 2, none⟩ = some (.bool true) := (hos.ff.cell 2).trans rfl
 have ff3 : W2.cell? ⟨bF, 3, none⟩ = some (.bool false) := (hos.ff.cell 3).trans rfl
 have ff4 : W2.cell? ⟨bF, 4, none⟩ = some (.bool false) := (hos.ff.cell 4).trans rfl
 have HFIN : Hid (Fin1 l (opA 3 s1 l2) g2 q2) := Lib.hid (fin_A (by decide) HT1.out (by simp [fA]) HT2.out HT3.out)
 have HX : ∃ (o : Opn) (va vp vc : Value), Hid (Fin1 l o g2 q2 ∧ OS w g Bo bF (fdCs 3) o va vp vc g2 q2 W2) := ⟨_, _, _, _, Lib.hid ⟨HFIN.out, hos⟩⟩
 clear hos HFIN
 obtain ⟨o, va, vp, vc, HX⟩ := HX
 have d0 : W2.cell? ⟨Bo, 0, none⟩ = some (.int .i64 o.k) := HX.out.2.oo.cell 0
 have d1 : W2.cell? ⟨Bo, 1, none⟩ = some (.string (sx o.name)) := HX.out.2.oo.cell 1
 have d2 : W2.cell? ⟨Bo, 2, none⟩ = some (.string (sx o.dst)) := HX.out.2.oo.cell 2
 have d3 : W2.cell? ⟨Bo, 3, none⟩ = some va := HX.out.2.oo.cell 3
 have d4 : W2.cell? ⟨Bo, 4, none⟩ = some vp := HX.out.2.oo.cell 4
 have d5 : W2.cell? ⟨Bo, 5, none⟩ = some vc := HX.out.2.oo.cell 5
 have d6 : W2.cell? ⟨Bo, 6, none⟩ = some (.int .i64 o.n) := HX.out.2.oo.cell 6
 have HE := Lib.hid (rend_any g g g2 q2 W2 HX.out.2.rs)
 by_cases hgood : g2 = false ∧ q2 = []
 · obtain ⟨rfl, rfl⟩ := hgood
   have HLM := Lib.hid (HX.out.1.gd rfl).lim
   have HMA := mayOp_any o va vp vc W2 HX.out.2.at_ HLM.out
   cases hm : mayO o with
   | true =>
     rw [hm] at HMA
     have HMA := Lib.hid HMA
     have HM := Lib.hid hm
     clear hm
     go_upto_region 19 with (first
       | (go_at_call 59; (with_reducible refine HE.out.mono ?_); clear HE; rintro e wE ⟨⟨n9, rfl, h9⟩, rfl⟩; obtain rfl : n9 = 0 := h9.2 (by simp); clear h9)
       | (go_at_call 13; (with_reducible refine HMA.out.mono ?_); clear HMA d0 d1 d2 d3 d4 d5 d6; rintro e w6 ⟨rfl, hb6⟩; dsimp only; have H6 := Lib.hid (HX.out.2.on hb6); clear hb6))
     go_wp2_with (first
       | (refine wpList_load_row rfl 27 _ rfl Bo rfl 27 (opCs o va vp vc) (0, 0) _ H6.out.oo rfl rfl (by kernel_rfl) ?_)
       | (refine wpList_store_rowTo rfl 27 _ _ rfl rfl w.heap.size (opCs o va vp vc) rfl rfl 27 zCs H6.out.rr (by kernel_rfl) rfl ?c1 ?_; case c1 => exact opCs_one H6.out))
     obtain ⟨h7, h8, h9⟩ := H6.out.out (opCs o va vp vc)
     have t0 := h9.cell 0
     have t1 := h9.cell 1
     have t2 := h9.cell 2
     have t3 := h9.cell 3
     have t4 := h9.cell 4
     have t5 := h9.cell 5
     have t6 := h9.cell 6
     have HE2 := Lib.hid (And.intro h7 h8)
     clear h7 h8 h9
     generalize w6.setRow w.heap.size (opCs o va vp vc) = w7 at t0 t1 t2 t3 t4 t5 t6 HE2 ⊢
     refine bodyPost_ret (v := .tuple #[opVal o va vp vc, .int .i64 0]) ?_ rfl (.inl ⟨o, va, vp, vc, HM.out, HX.out.1.snd rfl rfl, rfl, HE2.out.1, HLM.out, HE2.out.2⟩)
     simp at t0 t1 t2 t3 t4 t5 t6
     simp [results, Tryz.f10, go_sem, t0, t1, t2, t3, t4, t5, t6]
   | false =>
     rw [hm] at HMA
     have HMA := Lib.hid HMA
     have HNO : Hid (∀ o, mayO o = true → l ≠ opB o) := Lib.hid (HX.out.1.none (fun h => by rw [hm] at h; cases h.2.2))
     clear hm
     go_upto_region 18 with (first
       | (go_at_call 59; (with_reducible refine HE.out.mono ?_); clear HE; rintro e wE ⟨⟨n9, rfl, h9⟩, rfl⟩; obtain rfl : n9 = 0 := h9.2 (by simp); clear h9)
       | (go_at_call 13; (with_reducible refine HMA.out.mono ?_); clear HMA d0 d1 d2 d3 d4 d5 d6; rintro e w6 ⟨rfl, hb6⟩; dsimp only; have H6 := Lib.hid (HX.out.2.on hb6); clear hb6))
     go_wp2_with (refine wpList_store_rowTo rfl 27 _ _ rfl rfl w.heap.size zCs rfl rfl 27 zCs H6.out.rr (by kernel_rfl) rfl (by kernel_rfl) ?_)
     obtain ⟨h7, h8, h9⟩ := H6.out.out zCs
     have t0 := h9.cell 0
     have t1 := h9.cell 1
     have t2 := h9.cell 2
     have t3 := h9.cell 3
     have t4 := h9.cell 4
     have t5 := h9.cell 5
     have t6 := h9.cell 6
     have HE2 := Lib.hid h8
     clear h7 h8 h9
     generalize w6.setRow w.heap.size zCs = w7 at t0 t1 t2 t3 t4 t5 t6 HE2 ⊢
     refine bodyPost_ret (v := .tuple #[.agg zCs, .int .i64 4]) ?_ rfl (.inr ⟨HNO.out, rfl, HE2.out⟩)
     simp at t0 t1 t2 t3 t4 t5 t6
     simp [results, Tryz.f10, go_sem, t0, t1, t2, t3, t4, t5, t6]
 · have HNO : Hid (∀ o, mayO o = true → l ≠ opB o) := Lib.hid (HX.out.1.none (fun h => hgood ⟨h.1, h.2.1⟩))
   have HNG := Lib.hid hgood
   clear hgood
   go_upto_region 18 with (go_at_call 59; (with_reducible refine HE.out.mono ?_); clear HE; rintro e wE ⟨⟨n9, rfl, h9⟩, rfl⟩; obtain ⟨hnz, hnz2⟩ := end_nz h9 HNG.out; clear h9)
   go_wp2_with (refine wpList_store_rowTo rfl 27 _ _ rfl rfl w.heap.size zCs rfl rfl 27 zCs HX.out.2.rr (by kernel_rfl) rfl (by kernel_rfl) ?_)
   obtain ⟨h7, h8, h9⟩ := HX.out.2.out zCs
   have t0 := h9.cell 0
   have t1 := h9.cell 1
   have t2 := h9.cell 2
   have t3 := h9.cell 3
   have t4 := h9.cell 4
   have t5 := h9.cell 5
   have t6 := h9.cell 6
   have HE2 := Lib.hid h8
   clear h7 h8 h9 d0 d1 d2 d3 d4 d5 d6
   generalize wE.setRow w.heap.size zCs = w7 at t0 t1 t2 t3 t4 t5 t6 HE2 ⊢
   refine bodyPost_ret (v := .tuple #[.agg zCs, .int .i64 4]) ?_ rfl (.inr ⟨HNO.out, rfl, HE2.out⟩)
   simp at t0 t1 t2 t3 t4 t5 t6
   simp [results, Tryz.f10, go_sem, t0, t1, t2, t3, t4, t5, t6]
set_option maxHeartbeats 16000000 in
theorem opOf4 (A : Option Addr) (c : Nat) (l : List Int) (w : World) (hr : Rd w w.heap.size A l) (hby : Byt l) (hn : l.length ≤ 100000000) (hk : (smallV 8 (tk false l 1)).1 = 4) :
   Calls Tryz.prog 10 #[.slice A l.length c] w (OpOfOut w l) := by
 have hb1 : Below w.heap.size w (w.alloc (.cells zCs 27)) := (Below.refl _ _).alloc (Nat.le_refl _) _
 have k1 := Blk.new w 27 zCs
 have HRD := Lib.hid (read_any A c l _ ((hr.below hb1).more hb1.size) hby hn)
 have HB1 := Lib.hid (And.intro hb1 k1)
 have hz1 : w.heap.size < (w.alloc (.cells zCs 27)).heap.size := by rw [World.size_alloc]; omega
 have HZ1 := Lib.hid hz1
 have ht1 := took_smallV (f := false) (tag := 1) (m := 8) hby (by decide) (by decide)
 generalize hsm : smallV 8 (tk false l 1) = S1 at hk ht1
 obtain ⟨k1', f1, r1⟩ := S1
 dsimp only at hk ht1
 subst hk
 have HT1 := Lib.hid ht1
 have HSM := Lib.hid hsm
 have HBY := Lib.hid hby
 obtain ⟨n, hnn⟩ : ∃ n, n = l.length := ⟨_, rfl⟩
 rw [← hnn] at HRD ⊢
 clear hr hby hb1 k1 hn hnn hz1 ht1 hsm
 go_enter Tryz.func10, Tryz.ntmps10
 go_wp2_with fail
 refine HRD.out.mono ?_
 clear HRD
 rintro e w2 ⟨g, rfl, hrs2, hgq, hb2⟩
 have hS := smallN g g false l 1 8 w2 hrs2 (by decide) (by decide)
 rw [HSM.out] at hS
 dsimp only at hS
 have HS := Lib.hid hS
 have hg1 : w.heap.size < g := Nat.lt_of_lt_of_le HZ1.out hgq
 have H2 := Lib.hid (And.intro (HB1.out.1.trans (hb2.mono (Nat.le_of_lt HZ1.out))) (And.intro (HB1.out.2.on hb2) hg1))
 clear hrs2 hgq hb2 hS hg1
 go_upto_region 3 with (first
   | (go_at_call 53; (with_reducible refine HS.out.mono ?_); clear HS; rintro e w3 ⟨rfl, hrs3, hg3⟩; dsimp only; have H3 := Lib.hid (And.intro hrs3 hg3); clear hrs3 hg3)
   | (refine wpList_store_rowTo rfl 27 _ _ rfl rfl w3.heap.size #[.int .i64 4, .string ⟨#[]⟩, .string ⟨#[]⟩, .slice none 0 0, .slice none 0 0, .slice none 0 0, .int .i64 0] rfl rfl 27 zCs (Blk.new w3 27 zCs) (by kernel_rfl) rfl (by kernel_rfl) ?_))
 have hz3 : w.heap.size < w3.heap.size := by have := H2.out.2.2; have := H3.out.1.lt; omega
 have hgl3 := H3.out.1.lt
 have hb3 : Below w3.heap.size w3 ((w3.alloc (.cells zCs 27)).setRow w3.heap.size #[.int .i64 4, .string ⟨#[]⟩, .string ⟨#[]⟩, .slice none 0 0, .slice none 0 0, .slice none 0 0, .int .i64 0]) := below_setRow ((Below.refl _ _).alloc (Nat.le_refl _) (.cells zCs 27)) (Nat.le_refl _) _
 have kO3 : Blk ((w3.alloc (.cells zCs 27)).setRow w3.heap.size #[.int .i64 4, .string ⟨#[]⟩, .string ⟨#[]⟩, .slice none 0 0, .slice none 0 0, .slice none 0 0, .int .i64 0]) w3.heap.size 27 #[.int .i64 4, .string ⟨#[]⟩, .string ⟨#[]⟩, .slice none 0 0, .slice none 0 0, .slice none 0 0, .int .i64 0] := (Blk.new w3 27 zCs).row _
 have hbel3 : Below w.heap.size w w3 := H2.out.1.trans (below_grown H3.out.2 (Nat.le_of_lt H2.out.2.2) H2.out.1.size)
 have kR3 : Blk w3 w.heap.size 27 zCs := H2.out.2.1.grown H3.out.2 (fun e => by injection e with e; have := H2.out.2.2; omega)
 have hbel4 := hbel3.trans (hb3.mono hbel3.size)
 have kR4 := kR3.on hb3
 have hrs4 := H3.out.1.on hb3
 obtain ⟨Bo, hBo⟩ : ∃ Bo, Bo = w3.heap.size := ⟨_, rfl⟩
 have hg4 : g < Bo := by omega
 rw [← hBo] at hbel4 kR4 hrs4 kO3 ⊢
 clear hb3 hbel3 kR3 hz3 hgl3 H3 hBo
 have hn1 := H2.out.2.2
 clear H2 HB1 HZ1
 generalize (w3.alloc (.cells zCs 27)).setRow Bo #[.int .i64 4, .string ⟨#[]⟩, .string ⟨#[]⟩, .slice none 0 0, .slice none 0 0, .slice none 0 0, .int .i64 0] = W4 at hbel4 kR4 hrs4 kO3 ⊢
 have c0 : W4.cell? ⟨Bo, 0, none⟩ = some (.int .i64 4) := kO3.cell 0
 have HB4 := Lib.hid (And.intro hbel4 (And.intro kR4 (And.intro hrs4 (And.intro kO3 (And.intro hn1 hg4)))))
 clear hbel4 kR4 hrs4 kO3 hn1 hg4
 go_upto_region 4 with (first
   | (go_at_call 44; (with_reducible refine (fields4 _).mono ?_); rintro e w5 ⟨rfl, hb5⟩; dsimp only; have H5 := Lib.hid hb5; clear hb5 c0)
   | (refine wpList_store_rowTo rfl 83 _ _ rfl rfl w5.heap.size (fdCs 4) rfl rfl 83 #[.bool false, .bool false, .bool false, .bool false, .bool false] (Blk.new w5 83 #[.bool false, .bool false, .bool false, .bool false, .bool false]) (by kernel_rfl) rfl (by kernel_rfl) ?_))
 have hb6 : Below w5.heap.size w5 ((w5.alloc (.cells #[.bool false, .bool false, .bool false, .bool false, .bool false] 83)).setRow w5.heap.size (fdCs 4)) := below_setRow ((Below.refl _ _).alloc (Nat.le_refl _) (.cells #[.bool false, .bool false, .bool false, .bool false, .bool false] 83)) (Nat.le_refl _) _
 have kF : Blk ((w5.alloc (.cells #[.bool false, .bool false, .bool false, .bool false, .bool false] 83)).setRow w5.heap.size (fdCs 4)) w5.heap.size 83 (fdCs 4) := (Blk.new w5 83 #[.bool false, .bool false, .bool false, .bool false, .bool false]).row _
 obtain ⟨hbel4, kR4, hrs4, kO4, hn1, hg4⟩ := HB4.out
 have hb46 := H5.out.trans (hb6.mono H5.out.size)
 have hbel6 := hbel4.trans (hb46.mono hbel4.size)
 have hof : Bo < w5.heap.size := by have := (kO4.on H5.out).lt; omega
 obtain ⟨bF, hbF⟩ : ∃ bF, bF = w5.heap.size := ⟨_, rfl⟩
 rw [← hbF] at hb46 hbel6 hof kF ⊢
 have hos := OS.new hbel6 (kR4.on hb46) (kO4.on hb46) kF (hrs4.on hb46) hn1 hg4 hof
 clear hb6 hbel4 kR4 hrs4 kO4 hn1 hg4 hb46 hbel6 hof kF hbF H5 HB4
 generalize (w5.alloc (.cells #[.bool false, .bool false, .bool false, .bool false, .bool false] 83)).setRow bF (fdCs 4) = W0 at hos ⊢
 have ff0 : W0.cell? ⟨bF, 0, none⟩ = some (.bool true) := (hos.ff.cell 0).trans rfl
 have ff1 : W0.cell? ⟨bF, 1, none⟩ = some (.bool true) := (hos.ff.cell 1).trans rfl
 have ff2 : W0.cell? ⟨bF, 2, none⟩ = some (.bool false) := (hos.ff.cell 2).trans rfl
 have ff3 : W0.cell? ⟨bF, 3, none⟩ = some (.bool false) := (hos.ff.cell 3).trans rfl
 have ff4 : W0.cell? ⟨bF, 4, none⟩ = some (.bool false) := (hos.ff.cell 4).trans rfl
 have hby1 := hos.rs.byt
 have HC1 : Hid (Calls Tryz.prog 54 #[.pointer (some ⟨g, 0, none⟩), .int .u8 2] W0 fun e w' => e = .returned (.string (sx (u8s ((tk f1 r1 2).1.getD [])))) ∧ RS w' g g (tk f1 r1 2).2.1 (tk f1 r1 2).2.2 ∧ W0.grownBy w' (some g)) := Lib.hid (by
   have h := text_r g g f1 r1 2 W0 hos.rs
   rw [← sx_u8s] at h
   exact h)
 have HT2 := Lib.hid (took_text (f := f1) (tag := 2) hby1 (by decide))
 generalize u8s ((tk f1 r1 2).1.getD []) = s1 at HC1 HT2
 generalize (tk f1 r1 2).2.1 = g1 at HC1 HT2
 generalize (tk f1 r1 2).2.2 = q1 at HC1 HT2
 have HO1 := Lib.hid hos
 clear hos hby1
 go_upto_region 8 with (go_at_call 54; (with_reducible refine HC1.out.mono ?_); clear HC1 ff0 ff1 ff2 ff3 ff4; rintro e V1 ⟨rfl, hrs, hg⟩; dsimp only; have HP1 := Lib.hid (HO1.out.gr hg hrs); clear hrs hg; have ff0 : V1.cell? ⟨bF, 0, none⟩ = some (.bool true) := (HP1.out.ff.cell 0).trans rfl; have fz := HP1.out.oo.frozen 1; have cz : V1.cell? ⟨Bo, 1, none⟩ = some (.string (sx _)) := HP1.out.oo.cell 1)
 clear ff0 fz cz
 have hos := HP1.out.name s1
 generalize V1.setCell ⟨Bo, 1, none⟩ (.string (sx s1)) = W1 at hos ⊢
 clear HP1 HO1
 have ff0 : W1.cell? ⟨bF, 0, none⟩ = some (.bool true) := (hos.ff.cell 0).trans rfl
 have ff1 : W1.cell? ⟨bF, 1, none⟩ = some (.bool true) := (hos.ff.cell 1).trans rfl
 have ff2 : W1.cell? ⟨bF, 2, none⟩ = some (.bool false) := (hos.ff.cell 2).trans rfl
 have ff3 : W1.cell? ⟨bF, 3, none⟩ = some (.bool false) := (hos.ff.cell 3).trans rfl
 have ff4 : W1.cell? ⟨bF, 4, none⟩ = some (.bool false) := (hos.ff.cell 4).trans rfl
 have hby2 := hos.rs.byt
 have HC2 : Hid (Calls Tryz.prog 54 #[.pointer (some ⟨g, 0, none⟩), .int .u8 3] W1 fun e w' => e = .returned (.string (sx (u8s ((tk g1 q1 3).1.getD [])))) ∧ RS w' g g (tk g1 q1 3).2.1 (tk g1 q1 3).2.2 ∧ W1.grownBy w' (some g)) := Lib.hid (by
   have h := text_r g g g1 q1 3 W1 hos.rs
   rw [← sx_u8s] at h
   exact h)
 have HT3 := Lib.hid (took_text (f := g1) (tag := 3) hby2 (by decide))
 generalize u8s ((tk g1 q1 3).1.getD []) = s2 at HC2 HT3
 generalize (tk g1 q1 3).2.1 = g2 at HC2 HT3
 generalize (tk g1 q1 3).2.2 = q2 at HC2 HT3
 have HO2 := Lib.hid hos
 clear hos hby2
 go_upto_region 10 with (go_at_call 54; (with_reducible refine HC2.out.mono ?_); clear HC2 ff0 ff1 ff2 ff3 ff4; rintro e V2 ⟨rfl, hrs, hg⟩; dsimp only; have HP2 := Lib.hid (HO2.out.gr hg hrs); clear hrs hg; have ff0 : V2.cell? ⟨bF, 0, none⟩ = some (.bool true) := (HP2.out.ff.cell 0).trans rfl; have fz := HP2.out.oo.frozen 2; have cz : V2.cell? ⟨Bo, 2, none⟩ = some (.string (sx _)) := HP2.out.oo.cell 2)
 clear ff0 fz cz
 have hos := HP2.out.dst s2
 generalize V2.setCell ⟨Bo, 2, none⟩ (.string (sx s2)) = W2 at hos ⊢
 clear HP2 HO2
 have ff0 : W2.cell? ⟨bF, 0, none⟩ = some (.bool true) := (hos.ff.cell 0).trans rfl
 have ff1 : W2.cell? ⟨bF, 1, none⟩ = some (.bool true) := (hos.ff.cell 1).trans rfl
 have ff2 : W2.cell? ⟨bF, 2, none⟩ = some (.bool false) := (hos.ff.cell 2).trans rfl
 have ff3 : W2.cell? ⟨bF, 3, none⟩ = some (.bool false) := (hos.ff.cell 3).trans rfl
 have ff4 : W2.cell? ⟨bF, 4, none⟩ = some (.bool false) := (hos.ff.cell 4).trans rfl
 have HFIN : Hid (Fin1 l (opR 4 s1 s2) g2 q2) := Lib.hid (fin_R (by decide) HT1.out rfl HT2.out HT3.out)
 have HX : ∃ (o : Opn) (va vp vc : Value), Hid (Fin1 l o g2 q2 ∧ OS w g Bo bF (fdCs 4) o va vp vc g2 q2 W2) := ⟨_, _, _, _, Lib.hid ⟨HFIN.out, hos⟩⟩
 clear hos HFIN
 obtain ⟨o, va, vp, vc, HX⟩ := HX
 have d0 : W2.cell? ⟨Bo, 0, none⟩ = some (.int .i64 o.k) := HX.out.2.oo.cell 0
 have d1 : W2.cell? ⟨Bo, 1, none⟩ = some (.string (sx o.name)) := HX.out.2.oo.cell 1
 have d2 : W2.cell? ⟨Bo, 2, none⟩ = some (.string (sx o.dst)) := HX.out.2.oo.cell 2
 have d3 : W2.cell? ⟨Bo, 3, none⟩ = some va := HX.out.2.oo.cell 3
 have d4 : W2.cell? ⟨Bo, 4, none⟩ = some vp := HX.out.2.oo.cell 4
 have d5 : W2.cell? ⟨Bo, 5, none⟩ = some vc := HX.out.2.oo.cell 5
 have d6 : W2.cell? ⟨Bo, 6, none⟩ = some (.int .i64 o.n) := HX.out.2.oo.cell 6
 have HE := Lib.hid (rend_any g g g2 q2 W2 HX.out.2.rs)
 by_cases hgood : g2 = false ∧ q2 = []
 · obtain ⟨rfl, rfl⟩ := hgood
   have HLM := Lib.hid (HX.out.1.gd rfl).lim
   have HMA := mayOp_any o va vp vc W2 HX.out.2.at_ HLM.out
   cases hm : mayO o with
   | true =>
     rw [hm] at HMA
     have HMA := Lib.hid HMA
     have HM := Lib.hid hm
     clear hm
     go_upto_region 19 with (first
       | (go_at_call 59; (with_reducible refine HE.out.mono ?_); clear HE; rintro e wE ⟨⟨n9, rfl, h9⟩, rfl⟩; obtain rfl : n9 = 0 := h9.2 (by simp); clear h9)
       | (go_at_call 13; (with_reducible refine HMA.out.mono ?_); clear HMA d0 d1 d2 d3 d4 d5 d6; rintro e w6 ⟨rfl, hb6⟩; dsimp only; have H6 := Lib.hid (HX.out.2.on hb6); clear hb6))
     go_wp2_with (first
       | (refine wpList_load_row rfl 27 _ rfl Bo rfl 27 (opCs o va vp vc) (0, 0) _ H6.out.oo rfl rfl (by kernel_rfl) ?_)
       | (refine wpList_store_rowTo rfl 27 _ _ rfl rfl w.heap.size (opCs o va vp vc) rfl rfl 27 zCs H6.out.rr (by kernel_rfl) rfl ?c1 ?_; case c1 => exact opCs_one H6.out))
     obtain ⟨h7, h8, h9⟩ := H6.out.out (opCs o va vp vc)
     have t0 := h9.cell 0
     have t1 := h9.cell 1
     have t2 := h9.cell 2
     have t3 := h9.cell 3
     have t4 := h9.cell 4
     have t5 := h9.cell 5
     have t6 := h9.cell 6
     have HE2 := Lib.hid (And.intro h7 h8)
     clear h7 h8 h9
     generalize w6.setRow w.heap.size (opCs o va vp vc) = w7 at t0 t1 t2 t3 t4 t5 t6 HE2 ⊢
     refine bodyPost_ret (v := .tuple #[opVal o va vp vc, .int .i64 0]) ?_ rfl (.inl ⟨o, va, vp, vc, HM.out, HX.out.1.snd rfl rfl, rfl, HE2.out.1, HLM.out, HE2.out.2⟩)
     simp at t0 t1 t2 t3 t4 t5 t6
     simp [results, Tryz.f10, go_sem, t0, t1, t2, t3, t4, t5, t6]
   | false =>
     rw [hm] at HMA
     have HMA := Lib.hid HMA
     have HNO : Hid (∀ o, mayO o = true → l ≠ opB o) := Lib.hid (HX.out.1.none (fun h => by rw [hm] at h; cases h.2.2))
     clear hm
     go_upto_region 18 with (first
       | (go_at_call 59; (with_reducible refine HE.out.mono ?_); clear HE; rintro e wE ⟨⟨n9, rfl, h9⟩, rfl⟩; obtain rfl : n9 = 0 := h9.2 (by simp); clear h9)
       | (go_at_call 13; (with_reducible refine HMA.out.mono ?_); clear HMA d0 d1 d2 d3 d4 d5 d6; rintro e w6 ⟨rfl, hb6⟩; dsimp only; have H6 := Lib.hid (HX.out.2.on hb6); clear hb6))
     go_wp2_with (refine wpList_store_rowTo rfl 27 _ _ rfl rfl w.heap.size zCs rfl rfl 27 zCs H6.out.rr (by kernel_rfl) rfl (by kernel_rfl) ?_)
     obtain ⟨h7, h8, h9⟩ := H6.out.out zCs
     have t0 := h9.cell 0
     have t1 := h9.cell 1
     have t2 := h9.cell 2
     have t3 := h9.cell 3
     have t4 := h9.cell 4
     have t5 := h9.cell 5
     have t6 := h9.cell 6
     have HE2 := Lib.hid h8
     clear h7 h8 h9
     generalize w6.setRow w.heap.size zCs = w7 at t0 t1 t2 t3 t4 t5 t6 HE2 ⊢
     refine bodyPost_ret (v := .tuple #[.agg zCs, .int .i64 4]) ?_ rfl (.inr ⟨HNO.out, rfl, HE2.out⟩)
     simp at t0 t1 t2 t3 t4 t5 t6
     simp [results, Tryz.f10, go_sem, t0, t1, t2, t3, t4, t5, t6]
 · have HNO : Hid (∀ o, mayO o = true → l ≠ opB o) := Lib.hid (HX.out.1.none (fun h => hgood ⟨h.1, h.2.1⟩))
   have HNG := Lib.hid hgood
   clear hgood
   go_upto_region 18 with (go_at_call 59; (with_reducible refine HE.out.mono ?_); clear HE; rintro e wE ⟨⟨n9, rfl, h9⟩, rfl⟩; obtain ⟨hnz, hnz2⟩ := end_nz h9 HNG.out; clear h9)
   go_wp2_with (refine wpList_store_rowTo rfl 27 _ _ rfl rfl w.heap.size zCs rfl rfl 27 zCs HX.out.2.rr (by kernel_rfl) rfl (by kernel_rfl) ?_)
   obtain ⟨h7, h8, h9⟩ := HX.out.2.out zCs
   have t0 := h9.cell 0
   have t1 := h9.cell 1
   have t2 := h9.cell 2
   have t3 := h9.cell 3
   have t4 := h9.cell 4
   have t5 := h9.cell 5
   have t6 := h9.cell 6
   have HE2 := Lib.hid h8
   clear h7 h8 h9 d0 d1 d2 d3 d4 d5 d6
   generalize wE.setRow w.heap.size zCs = w7 at t0 t1 t2 t3 t4 t5 t6 HE2 ⊢
   refine bodyPost_ret (v := .tuple #[.agg zCs, .int .i64 4]) ?_ rfl (.inr ⟨HNO.out, rfl, HE2.out⟩)
   simp at t0 t1 t2 t3 t4 t5 t6
   simp [results, Tryz.f10, go_sem, t0, t1, t2, t3, t4, t5, t6]
end Go.Proofs.YtcjiofhjognklaaGreat.Tlv
