/- An operation with what its kind names alone. -/
import Derived.Test.YtniaijgejljjbaaGreatY23
namespace Go.Proofs.YtniaijgejljjbaaGreat.Tlv
open Go.RowKit
set_option maxRecDepth 100000
set_option linter.unusedVariables false
set_option linter.unusedSimpArgs false
abbrev nilV : Value := .slice none 0 0
set_option maxHeartbeats 8000000 in
theorem bare0 (o : Opn) (k : Int) (va vp vc : Value) (w : World) (ho : OpAt w o va vp vc) (hk : o.k = k) (hno : isK k = false) :
   Calls Tryz.prog 48 #[opVal o va vp vc] w fun e w' => e = .returned (.tuple #[opVal (o0 k) nilV nilV nilV, .bool false]) ∧ Below w.heap.size w w' := by
 obtain ⟨Aa, ca, na, rfl, _, _⟩ := rdv_len ho.a
 obtain ⟨Ap, cp, np, rfl⟩ := ho.p.len
 obtain ⟨Ac, cc, nc, rfl, _⟩ := ho.c.len
 have hb1 : Below w.heap.size w (((w.alloc (.cells (opCs o (.slice Aa na ca) (.slice Ap np cp) (.slice Ac nc cc)) 44)).alloc (.cells zCs 44))) := ((Below.refl _ _).alloc (Nat.le_refl _) _).alloc (by simp) _
 have kX := (Blk.new w 44 (opCs o (.slice Aa na ca) (.slice Ap np cp) (.slice Ac nc cc))).alloc (.cells zCs 44)
 have kR := Blk.new (w.alloc (.cells (opCs o (.slice Aa na ca) (.slice Ap np cp) (.slice Ac nc cc)) 44)) 44 zCs
 rw [World.size_alloc] at kR
 have HK := Lib.hid hk
 obtain ⟨n1, n2, n3, n4, n5, n6, n7, n8⟩ := notK hno
 have H1 := Lib.hid (And.intro hb1 (And.intro kX kR))
 clear hb1 kX kR hk ho hno
 go_enter Tryz.func48, Tryz.ntmps48
 go_upto_region 1 with fail
 obtain ⟨R, hR⟩ : ∃ R, R = w.heap.size + 1 := ⟨_, rfl⟩
 rw [← hR] at H1 ⊢
 have HR := Lib.hid (show w.heap.size < R by omega)
 clear hR
 generalize ((w.alloc (.cells (opCs o (.slice Aa na ca) (.slice Ap np cp) (.slice Ac nc cc)) 44)).alloc (.cells zCs 44)) = W1 at H1 ⊢
 have c0 : W1.cell? ⟨w.heap.size, 0, none⟩ = some (.int .i64 k) := by rw [← HK.out]; exact H1.out.2.1.cell 0
 go_upto_region 2 with (refine wpList_store_rowTo rfl 44 _ _ rfl rfl W1.heap.size #[.int .i64 k, .string ⟨#[]⟩, .string ⟨#[]⟩, .slice none 0 0, .slice none 0 0, .slice none 0 0, .int .i64 0] rfl rfl 44 zCs (Blk.new W1 44 zCs) (by kernel_rfl) rfl (by kernel_rfl) ?_)
 have hb2 : Below W1.heap.size W1 ((W1.alloc (.cells zCs 44)).setRow W1.heap.size #[.int .i64 k, .string ⟨#[]⟩, .string ⟨#[]⟩, .slice none 0 0, .slice none 0 0, .slice none 0 0, .int .i64 0]) := below_setRow ((Below.refl _ _).alloc (Nat.le_refl _) (.cells zCs 44)) (Nat.le_refl _) _
 have kB : Blk ((W1.alloc (.cells zCs 44)).setRow W1.heap.size #[.int .i64 k, .string ⟨#[]⟩, .string ⟨#[]⟩, .slice none 0 0, .slice none 0 0, .slice none 0 0, .int .i64 0]) W1.heap.size 44 #[.int .i64 k, .string ⟨#[]⟩, .string ⟨#[]⟩, .slice none 0 0, .slice none 0 0, .slice none 0 0, .int .i64 0] := (Blk.new W1 44 zCs).row _
 have h2 := And.intro (H1.out.1.trans (hb2.mono H1.out.1.size)) (And.intro (H1.out.2.1.on hb2) (And.intro (H1.out.2.2.on hb2) kB))
 have hRb := H1.out.2.2.lt
 obtain ⟨b, hb⟩ : ∃ b, b = W1.heap.size := ⟨_, rfl⟩
 rw [← hb] at h2 hRb ⊢
 clear hb2 kB hb c0
 have HRB := Lib.hid hRb
 clear hRb
 generalize (W1.alloc (.cells zCs 44)).setRow b #[.int .i64 k, .string ⟨#[]⟩, .string ⟨#[]⟩, .slice none 0 0, .slice none 0 0, .slice none 0 0, .int .i64 0] = W2 at h2 ⊢
 have H2 := Lib.hid h2
 clear h2 H1
 have c0 : W2.cell? ⟨w.heap.size, 0, none⟩ = some (.int .i64 k) := by rw [← HK.out]; exact H2.out.2.1.cell 0
 go_upto_region 3 with fail
 have H3 : Hid (Below w.heap.size w W2 ∧ Blk W2 R 44 zCs ∧ Blk W2 b 44 (opCs (o0 k) nilV nilV nilV)) := Lib.hid ⟨H2.out.1, H2.out.2.2.1, H2.out.2.2.2⟩
 obtain ⟨wd, hwd⟩ : ∃ wd, wd = W2 := ⟨_, rfl⟩
 rw [← hwd] at H3 ⊢
 clear hwd c0
 go_wp2_with (first
   | (refine wpList_load_row rfl 44 _ rfl b rfl 44 (opCs (o0 k) nilV nilV nilV) (0, 0) _ H3.out.2.2 rfl rfl (by kernel_rfl) ?_)
   | (refine wpList_store_rowTo rfl 44 _ _ rfl rfl R (opCs (o0 k) nilV nilV nilV) rfl rfl 44 zCs H3.out.2.1 (by kernel_rfl) rfl (by kernel_rfl) ?_))
 have h9 := H3.out.2.1.row (opCs (o0 k) nilV nilV nilV)
 have hb9 := below_setRow H3.out.1 (Nat.le_of_lt HR.out) (opCs (o0 k) nilV nilV nilV)
 have t0 := h9.cell 0
 have t1 := h9.cell 1
 have t2 := h9.cell 2
 have t3 := h9.cell 3
 have t4 := h9.cell 4
 have t5 := h9.cell 5
 have t6 := h9.cell 6
 have HE := Lib.hid hb9
 clear h9 hb9
 generalize wd.setRow R (opCs (o0 k) nilV nilV nilV) = w7 at t0 t1 t2 t3 t4 t5 t6 HE ⊢
 refine bodyPost_ret (v := .tuple #[opVal (o0 k) nilV nilV nilV, .bool false]) ?_ rfl ⟨rfl, HE.out⟩
 simp at t0 t1 t2 t3 t4 t5 t6
 simp [results, Tryz.f48, go_sem, t0, t1, t2, t3, t4, t5, t6]
set_option maxHeartbeats 8000000 in
theorem bare1 (o : Opn) (va vp vc : Value) (w : World) (ho : OpAt w o va vp vc) (hk : o.k = 1) :
   Calls Tryz.prog 48 #[opVal o va vp vc] w fun e w' => e = .returned (.tuple #[opVal (opA 1 o.name o.attrs) va nilV nilV, .bool true]) ∧ Below w.heap.size w w' := by
 obtain ⟨Aa, ca, na, rfl, _, _⟩ := rdv_len ho.a
 obtain ⟨Ap, cp, np, rfl⟩ := ho.p.len
 obtain ⟨Ac, cc, nc, rfl, _⟩ := ho.c.len
 have hb1 : Below w.heap.size w (((w.alloc (.cells (opCs o (.slice Aa na ca) (.slice Ap np cp) (.slice Ac nc cc)) 44)).alloc (.cells zCs 44))) := ((Below.refl _ _).alloc (Nat.le_refl _) _).alloc (by simp) _
 have kX := (Blk.new w 44 (opCs o (.slice Aa na ca) (.slice Ap np cp) (.slice Ac nc cc))).alloc (.cells zCs 44)
 have kR := Blk.new (w.alloc (.cells (opCs o (.slice Aa na ca) (.slice Ap np cp) (.slice Ac nc cc)) 44)) 44 zCs
 rw [World.size_alloc] at kR
 have HK := Lib.hid hk
 have H1 := Lib.hid (And.intro hb1 (And.intro kX kR))
 clear hb1 kX kR hk ho
 go_enter Tryz.func48, Tryz.ntmps48
 go_upto_region 1 with fail
 obtain ⟨R, hR⟩ : ∃ R, R = w.heap.size + 1 := ⟨_, rfl⟩
 rw [← hR] at H1 ⊢
 have HR := Lib.hid (show w.heap.size < R by omega)
 clear hR
 generalize ((w.alloc (.cells (opCs o (.slice Aa na ca) (.slice Ap np cp) (.slice Ac nc cc)) 44)).alloc (.cells zCs 44)) = W1 at H1 ⊢
 have c0 : W1.cell? ⟨w.heap.size, 0, none⟩ = some (.int .i64 1) := by rw [← HK.out]; exact H1.out.2.1.cell 0
 go_upto_region 2 with (refine wpList_store_rowTo rfl 44 _ _ rfl rfl W1.heap.size #[.int .i64 1, .string ⟨#[]⟩, .string ⟨#[]⟩, .slice none 0 0, .slice none 0 0, .slice none 0 0, .int .i64 0] rfl rfl 44 zCs (Blk.new W1 44 zCs) (by kernel_rfl) rfl (by kernel_rfl) ?_)
 have hb2 : Below W1.heap.size W1 ((W1.alloc (.cells zCs 44)).setRow W1.heap.size #[.int .i64 1, .string ⟨#[]⟩, .string ⟨#[]⟩, .slice none 0 0, .slice none 0 0, .slice none 0 0, .int .i64 0]) := below_setRow ((Below.refl _ _).alloc (Nat.le_refl _) (.cells zCs 44)) (Nat.le_refl _) _
 have kB : Blk ((W1.alloc (.cells zCs 44)).setRow W1.heap.size #[.int .i64 1, .string ⟨#[]⟩, .string ⟨#[]⟩, .slice none 0 0, .slice none 0 0, .slice none 0 0, .int .i64 0]) W1.heap.size 44 #[.int .i64 1, .string ⟨#[]⟩, .string ⟨#[]⟩, .slice none 0 0, .slice none 0 0, .slice none 0 0, .int .i64 0] := (Blk.new W1 44 zCs).row _
 have h2 := And.intro (H1.out.1.trans (hb2.mono H1.out.1.size)) (And.intro (H1.out.2.1.on hb2) (And.intro (H1.out.2.2.on hb2) kB))
 have hRb := H1.out.2.2.lt
 obtain ⟨b, hb⟩ : ∃ b, b = W1.heap.size := ⟨_, rfl⟩
 rw [← hb] at h2 hRb ⊢
 clear hb2 kB hb c0
 have HRB := Lib.hid hRb
 clear hRb
 generalize (W1.alloc (.cells zCs 44)).setRow b #[.int .i64 1, .string ⟨#[]⟩, .string ⟨#[]⟩, .slice none 0 0, .slice none 0 0, .slice none 0 0, .int .i64 0] = W2 at h2 ⊢
 have H2 := Lib.hid h2
 clear h2 H1
 have c0 : W2.cell? ⟨w.heap.size, 0, none⟩ = some (.int .i64 1) := by rw [← HK.out]; exact H2.out.2.1.cell 0
 go_upto_region 7 with fail
 have c1 : W2.cell? ⟨w.heap.size, 1, none⟩ = some (.string (sx o.name)) := H2.out.2.1.cell 1
 have c3 : W2.cell? ⟨w.heap.size, 3, none⟩ = some (.slice Aa na ca) := H2.out.2.1.cell 3
 have hne : b ≠ w.heap.size := by have := HR.out; have := HRB.out; omega
 have z1 : W2.cell? ⟨b, 1, none⟩ = some (.string ⟨#[]⟩) := H2.out.2.2.2.cell 1
 have y1 := H2.out.2.2.2.frozen 1
 have z3 : W2.cell? ⟨b, 3, none⟩ = some (.slice none 0 0) := H2.out.2.2.2.cell 3
 have y3 := H2.out.2.2.2.frozen 3
 have H3 : Hid (Below w.heap.size w (((W2).setCell ⟨b, 1, none⟩ (.string (sx o.name))).setCell ⟨b, 3, none⟩ (.slice Aa na ca)).drew ∧ Blk (((W2).setCell ⟨b, 1, none⟩ (.string (sx o.name))).setCell ⟨b, 3, none⟩ (.slice Aa na ca)).drew R 44 zCs ∧ Blk (((W2).setCell ⟨b, 1, none⟩ (.string (sx o.name))).setCell ⟨b, 3, none⟩ (.slice Aa na ca)).drew b 44 (opCs (opA 1 o.name o.attrs) (.slice Aa na ca) nilV nilV)) := Lib.hid ⟨below_drew (((H2.out.1).setCell (p := ⟨b, 1, none⟩) (show w.heap.size ≤ b by have := HR.out; have := HRB.out; omega) _).setCell (p := ⟨b, 3, none⟩) (show w.heap.size ≤ b by have := HR.out; have := HRB.out; omega) _), (((H2.out.2.2.1).far (p := ⟨b, 1, none⟩) (show R ≠ b by have := HRB.out; omega) _).far (p := ⟨b, 3, none⟩) (show R ≠ b by have := HRB.out; omega) _).drew, (((H2.out.2.2.2).set_ 1 _).set_ 3 _).drew⟩
 go_region_law fail
 all_goals (
 clear c0 c1 c3 hne z1 y1 z3 y3
 generalize (((W2).setCell ⟨b, 1, none⟩ (.string (sx o.name))).setCell ⟨b, 3, none⟩ (.slice Aa na ca)).drew = wd at H3 ⊢
 go_wp2_with (first
   | (refine wpList_load_row rfl 44 _ rfl b rfl 44 (opCs (opA 1 o.name o.attrs) (.slice Aa na ca) nilV nilV) (0, 0) _ H3.out.2.2 rfl rfl (by kernel_rfl) ?_)
   | (refine wpList_store_rowTo rfl 44 _ _ rfl rfl R (opCs (opA 1 o.name o.attrs) (.slice Aa na ca) nilV nilV) rfl rfl 44 zCs H3.out.2.1 (by kernel_rfl) rfl (by kernel_rfl) ?_))
 have h9 := H3.out.2.1.row (opCs (opA 1 o.name o.attrs) (.slice Aa na ca) nilV nilV)
 have hb9 := below_setRow H3.out.1 (Nat.le_of_lt HR.out) (opCs (opA 1 o.name o.attrs) (.slice Aa na ca) nilV nilV)
 have t0 := h9.cell 0
 have t1 := h9.cell 1
 have t2 := h9.cell 2
 have t3 := h9.cell 3
 have t4 := h9.cell 4
 have t5 := h9.cell 5
 have t6 := h9.cell 6
 have HE := Lib.hid hb9
 clear h9 hb9
 generalize wd.setRow R (opCs (opA 1 o.name o.attrs) (.slice Aa na ca) nilV nilV) = w7 at t0 t1 t2 t3 t4 t5 t6 HE ⊢
 refine bodyPost_ret (v := .tuple #[opVal (opA 1 o.name o.attrs) (.slice Aa na ca) nilV nilV, .bool true]) ?_ rfl ⟨rfl, HE.out⟩
 simp at t0 t1 t2 t3 t4 t5 t6
 simp [results, Tryz.f48, go_sem, t0, t1, t2, t3, t4, t5, t6])
set_option maxHeartbeats 8000000 in
theorem bare2 (o : Opn) (va vp vc : Value) (w : World) (ho : OpAt w o va vp vc) (hk : o.k = 2) :
   Calls Tryz.prog 48 #[opVal o va vp vc] w fun e w' => e = .returned (.tuple #[opVal (opN 2 o.name) nilV nilV nilV, .bool true]) ∧ Below w.heap.size w w' := by
 obtain ⟨Aa, ca, na, rfl, _, _⟩ := rdv_len ho.a
 obtain ⟨Ap, cp, np, rfl⟩ := ho.p.len
 obtain ⟨Ac, cc, nc, rfl, _⟩ := ho.c.len
 have hb1 : Below w.heap.size w (((w.alloc (.cells (opCs o (.slice Aa na ca) (.slice Ap np cp) (.slice Ac nc cc)) 44)).alloc (.cells zCs 44))) := ((Below.refl _ _).alloc (Nat.le_refl _) _).alloc (by simp) _
 have kX := (Blk.new w 44 (opCs o (.slice Aa na ca) (.slice Ap np cp) (.slice Ac nc cc))).alloc (.cells zCs 44)
 have kR := Blk.new (w.alloc (.cells (opCs o (.slice Aa na ca) (.slice Ap np cp) (.slice Ac nc cc)) 44)) 44 zCs
 rw [World.size_alloc] at kR
 have HK := Lib.hid hk
 have H1 := Lib.hid (And.intro hb1 (And.intro kX kR))
 clear hb1 kX kR hk ho
 go_enter Tryz.func48, Tryz.ntmps48
 go_upto_region 1 with fail
 obtain ⟨R, hR⟩ : ∃ R, R = w.heap.size + 1 := ⟨_, rfl⟩
 rw [← hR] at H1 ⊢
 have HR := Lib.hid (show w.heap.size < R by omega)
 clear hR
 generalize ((w.alloc (.cells (opCs o (.slice Aa na ca) (.slice Ap np cp) (.slice Ac nc cc)) 44)).alloc (.cells zCs 44)) = W1 at H1 ⊢
 have c0 : W1.cell? ⟨w.heap.size, 0, none⟩ = some (.int .i64 2) := by rw [← HK.out]; exact H1.out.2.1.cell 0
 go_upto_region 2 with (refine wpList_store_rowTo rfl 44 _ _ rfl rfl W1.heap.size #[.int .i64 2, .string ⟨#[]⟩, .string ⟨#[]⟩, .slice none 0 0, .slice none 0 0, .slice none 0 0, .int .i64 0] rfl rfl 44 zCs (Blk.new W1 44 zCs) (by kernel_rfl) rfl (by kernel_rfl) ?_)
 have hb2 : Below W1.heap.size W1 ((W1.alloc (.cells zCs 44)).setRow W1.heap.size #[.int .i64 2, .string ⟨#[]⟩, .string ⟨#[]⟩, .slice none 0 0, .slice none 0 0, .slice none 0 0, .int .i64 0]) := below_setRow ((Below.refl _ _).alloc (Nat.le_refl _) (.cells zCs 44)) (Nat.le_refl _) _
 have kB : Blk ((W1.alloc (.cells zCs 44)).setRow W1.heap.size #[.int .i64 2, .string ⟨#[]⟩, .string ⟨#[]⟩, .slice none 0 0, .slice none 0 0, .slice none 0 0, .int .i64 0]) W1.heap.size 44 #[.int .i64 2, .string ⟨#[]⟩, .string ⟨#[]⟩, .slice none 0 0, .slice none 0 0, .slice none 0 0, .int .i64 0] := (Blk.new W1 44 zCs).row _
 have h2 := And.intro (H1.out.1.trans (hb2.mono H1.out.1.size)) (And.intro (H1.out.2.1.on hb2) (And.intro (H1.out.2.2.on hb2) kB))
 have hRb := H1.out.2.2.lt
 obtain ⟨b, hb⟩ : ∃ b, b = W1.heap.size := ⟨_, rfl⟩
 rw [← hb] at h2 hRb ⊢
 clear hb2 kB hb c0
 have HRB := Lib.hid hRb
 clear hRb
 generalize (W1.alloc (.cells zCs 44)).setRow b #[.int .i64 2, .string ⟨#[]⟩, .string ⟨#[]⟩, .slice none 0 0, .slice none 0 0, .slice none 0 0, .int .i64 0] = W2 at h2 ⊢
 have H2 := Lib.hid h2
 clear h2 H1
 have c0 : W2.cell? ⟨w.heap.size, 0, none⟩ = some (.int .i64 2) := by rw [← HK.out]; exact H2.out.2.1.cell 0
 go_upto_region 10 with fail
 have c1 : W2.cell? ⟨w.heap.size, 1, none⟩ = some (.string (sx o.name)) := H2.out.2.1.cell 1
 have hne : b ≠ w.heap.size := by have := HR.out; have := HRB.out; omega
 have z1 : W2.cell? ⟨b, 1, none⟩ = some (.string ⟨#[]⟩) := H2.out.2.2.2.cell 1
 have y1 := H2.out.2.2.2.frozen 1
 go_upto_region 17 with fail
 clear z1 y1 c0 c1 hne
 have H3 : Hid (Below w.heap.size w (W2.setCell ⟨b, 1, none⟩ (.string (sx o.name))) ∧ Blk (W2.setCell ⟨b, 1, none⟩ (.string (sx o.name))) R 44 zCs ∧ Blk (W2.setCell ⟨b, 1, none⟩ (.string (sx o.name))) b 44 (opCs (opN 2 o.name) nilV nilV nilV)) := Lib.hid ⟨H2.out.1.setCell (p := ⟨b, 1, none⟩) (show w.heap.size ≤ b by have := HR.out; have := HRB.out; omega) _, H2.out.2.2.1.far (p := ⟨b, 1, none⟩) (show R ≠ b by have := HRB.out; omega) _, H2.out.2.2.2.set_ 1 _⟩
 generalize W2.setCell ⟨b, 1, none⟩ (.string (sx o.name)) = wd at H3 ⊢
 go_wp2_with (first
   | (refine wpList_load_row rfl 44 _ rfl b rfl 44 (opCs (opN 2 o.name) nilV nilV nilV) (0, 0) _ H3.out.2.2 rfl rfl (by kernel_rfl) ?_)
   | (refine wpList_store_rowTo rfl 44 _ _ rfl rfl R (opCs (opN 2 o.name) nilV nilV nilV) rfl rfl 44 zCs H3.out.2.1 (by kernel_rfl) rfl (by kernel_rfl) ?_))
 have h9 := H3.out.2.1.row (opCs (opN 2 o.name) nilV nilV nilV)
 have hb9 := below_setRow H3.out.1 (Nat.le_of_lt HR.out) (opCs (opN 2 o.name) nilV nilV nilV)
 have t0 := h9.cell 0
 have t1 := h9.cell 1
 have t2 := h9.cell 2
 have t3 := h9.cell 3
 have t4 := h9.cell 4
 have t5 := h9.cell 5
 have t6 := h9.cell 6
 have HE := Lib.hid hb9
 clear h9 hb9
 generalize wd.setRow R (opCs (opN 2 o.name) nilV nilV nilV) = w7 at t0 t1 t2 t3 t4 t5 t6 HE ⊢
 refine bodyPost_ret (v := .tuple #[opVal (opN 2 o.name) nilV nilV nilV, .bool true]) ?_ rfl ⟨rfl, HE.out⟩
 simp at t0 t1 t2 t3 t4 t5 t6
 simp [results, Tryz.f48, go_sem, t0, t1, t2, t3, t4, t5, t6]
set_option maxHeartbeats 8000000 in
theorem bare3 (o : Opn) (va vp vc : Value) (w : World) (ho : OpAt w o va vp vc) (hk : o.k = 3) :
   Calls Tryz.prog 48 #[opVal o va vp vc] w fun e w' => e = .returned (.tuple #[opVal (opA 3 o.name o.attrs) va nilV nilV, .bool true]) ∧ Below w.heap.size w w' := by
 obtain ⟨Aa, ca, na, rfl, _, _⟩ := rdv_len ho.a
 obtain ⟨Ap, cp, np, rfl⟩ := ho.p.len
 obtain ⟨Ac, cc, nc, rfl, _⟩ := ho.c.len
 have hb1 : Below w.heap.size w (((w.alloc (.cells (opCs o (.slice Aa na ca) (.slice Ap np cp) (.slice Ac nc cc)) 44)).alloc (.cells zCs 44))) := ((Below.refl _ _).alloc (Nat.le_refl _) _).alloc (by simp) _
 have kX := (Blk.new w 44 (opCs o (.slice Aa na ca) (.slice Ap np cp) (.slice Ac nc cc))).alloc (.cells zCs 44)
 have kR := Blk.new (w.alloc (.cells (opCs o (.slice Aa na ca) (.slice Ap np cp) (.slice Ac nc cc)) 44)) 44 zCs
 rw [World.size_alloc] at kR
 have HK := Lib.hid hk
 have H1 := Lib.hid (And.intro hb1 (And.intro kX kR))
 clear hb1 kX kR hk ho
 go_enter Tryz.func48, Tryz.ntmps48
 go_upto_region 1 with fail
 obtain ⟨R, hR⟩ : ∃ R, R = w.heap.size + 1 := ⟨_, rfl⟩
 rw [← hR] at H1 ⊢
 have HR := Lib.hid (show w.heap.size < R by omega)
 clear hR
 generalize ((w.alloc (.cells (opCs o (.slice Aa na ca) (.slice Ap np cp) (.slice Ac nc cc)) 44)).alloc (.cells zCs 44)) = W1 at H1 ⊢
 have c0 : W1.cell? ⟨w.heap.size, 0, none⟩ = some (.int .i64 3) := by rw [← HK.out]; exact H1.out.2.1.cell 0
 go_upto_region 2 with (refine wpList_store_rowTo rfl 44 _ _ rfl rfl W1.heap.size #[.int .i64 3, .string ⟨#[]⟩, .string ⟨#[]⟩, .slice none 0 0, .slice none 0 0, .slice none 0 0, .int .i64 0] rfl rfl 44 zCs (Blk.new W1 44 zCs) (by kernel_rfl) rfl (by kernel_rfl) ?_)
 have hb2 : Below W1.heap.size W1 ((W1.alloc (.cells zCs 44)).setRow W1.heap.size #[.int .i64 3, .string ⟨#[]⟩, .string ⟨#[]⟩, .slice none 0 0, .slice none 0 0, .slice none 0 0, .int .i64 0]) := below_setRow ((Below.refl _ _).alloc (Nat.le_refl _) (.cells zCs 44)) (Nat.le_refl _) _
 have kB : Blk ((W1.alloc (.cells zCs 44)).setRow W1.heap.size #[.int .i64 3, .string ⟨#[]⟩, .string ⟨#[]⟩, .slice none 0 0, .slice none 0 0, .slice none 0 0, .int .i64 0]) W1.heap.size 44 #[.int .i64 3, .string ⟨#[]⟩, .string ⟨#[]⟩, .slice none 0 0, .slice none 0 0, .slice none 0 0, .int .i64 0] := (Blk.new W1 44 zCs).row _
 have h2 := And.intro (H1.out.1.trans (hb2.mono H1.out.1.size)) (And.intro (H1.out.2.1.on hb2) (And.intro (H1.out.2.2.on hb2) kB))
 have hRb := H1.out.2.2.lt
 obtain ⟨b, hb⟩ : ∃ b, b = W1.heap.size := ⟨_, rfl⟩
 rw [← hb] at h2 hRb ⊢
 clear hb2 kB hb c0
 have HRB := Lib.hid hRb
 clear hRb
 generalize (W1.alloc (.cells zCs 44)).setRow b #[.int .i64 3, .string ⟨#[]⟩, .string ⟨#[]⟩, .slice none 0 0, .slice none 0 0, .slice none 0 0, .int .i64 0] = W2 at h2 ⊢
 have H2 := Lib.hid h2
 clear h2 H1
 have c0 : W2.cell? ⟨w.heap.size, 0, none⟩ = some (.int .i64 3) := by rw [← HK.out]; exact H2.out.2.1.cell 0
 go_upto_region 7 with fail
 have c1 : W2.cell? ⟨w.heap.size, 1, none⟩ = some (.string (sx o.name)) := H2.out.2.1.cell 1
 have c3 : W2.cell? ⟨w.heap.size, 3, none⟩ = some (.slice Aa na ca) := H2.out.2.1.cell 3
 have hne : b ≠ w.heap.size := by have := HR.out; have := HRB.out; omega
 have z1 : W2.cell? ⟨b, 1, none⟩ = some (.string ⟨#[]⟩) := H2.out.2.2.2.cell 1
 have y1 := H2.out.2.2.2.frozen 1
 have z3 : W2.cell? ⟨b, 3, none⟩ = some (.slice none 0 0) := H2.out.2.2.2.cell 3
 have y3 := H2.out.2.2.2.frozen 3
 have H3 : Hid (Below w.heap.size w (((W2).setCell ⟨b, 1, none⟩ (.string (sx o.name))).setCell ⟨b, 3, none⟩ (.slice Aa na ca)).drew ∧ Blk (((W2).setCell ⟨b, 1, none⟩ (.string (sx o.name))).setCell ⟨b, 3, none⟩ (.slice Aa na ca)).drew R 44 zCs ∧ Blk (((W2).setCell ⟨b, 1, none⟩ (.string (sx o.name))).setCell ⟨b, 3, none⟩ (.slice Aa na ca)).drew b 44 (opCs (opA 3 o.name o.attrs) (.slice Aa na ca) nilV nilV)) := Lib.hid ⟨below_drew (((H2.out.1).setCell (p := ⟨b, 1, none⟩) (show w.heap.size ≤ b by have := HR.out; have := HRB.out; omega) _).setCell (p := ⟨b, 3, none⟩) (show w.heap.size ≤ b by have := HR.out; have := HRB.out; omega) _), (((H2.out.2.2.1).far (p := ⟨b, 1, none⟩) (show R ≠ b by have := HRB.out; omega) _).far (p := ⟨b, 3, none⟩) (show R ≠ b by have := HRB.out; omega) _).drew, (((H2.out.2.2.2).set_ 1 _).set_ 3 _).drew⟩
 go_region_law fail
 all_goals (
 clear c0 c1 c3 hne z1 y1 z3 y3
 generalize (((W2).setCell ⟨b, 1, none⟩ (.string (sx o.name))).setCell ⟨b, 3, none⟩ (.slice Aa na ca)).drew = wd at H3 ⊢
 go_wp2_with (first
   | (refine wpList_load_row rfl 44 _ rfl b rfl 44 (opCs (opA 3 o.name o.attrs) (.slice Aa na ca) nilV nilV) (0, 0) _ H3.out.2.2 rfl rfl (by kernel_rfl) ?_)
   | (refine wpList_store_rowTo rfl 44 _ _ rfl rfl R (opCs (opA 3 o.name o.attrs) (.slice Aa na ca) nilV nilV) rfl rfl 44 zCs H3.out.2.1 (by kernel_rfl) rfl (by kernel_rfl) ?_))
 have h9 := H3.out.2.1.row (opCs (opA 3 o.name o.attrs) (.slice Aa na ca) nilV nilV)
 have hb9 := below_setRow H3.out.1 (Nat.le_of_lt HR.out) (opCs (opA 3 o.name o.attrs) (.slice Aa na ca) nilV nilV)
 have t0 := h9.cell 0
 have t1 := h9.cell 1
 have t2 := h9.cell 2
 have t3 := h9.cell 3
 have t4 := h9.cell 4
 have t5 := h9.cell 5
 have t6 := h9.cell 6
 have HE := Lib.hid hb9
 clear h9 hb9
 generalize wd.setRow R (opCs (opA 3 o.name o.attrs) (.slice Aa na ca) nilV nilV) = w7 at t0 t1 t2 t3 t4 t5 t6 HE ⊢
 refine bodyPost_ret (v := .tuple #[opVal (opA 3 o.name o.attrs) (.slice Aa na ca) nilV nilV, .bool true]) ?_ rfl ⟨rfl, HE.out⟩
 simp at t0 t1 t2 t3 t4 t5 t6
 simp [results, Tryz.f48, go_sem, t0, t1, t2, t3, t4, t5, t6])
set_option maxHeartbeats 8000000 in
theorem bare4 (o : Opn) (va vp vc : Value) (w : World) (ho : OpAt w o va vp vc) (hk : o.k = 4) :
   Calls Tryz.prog 48 #[opVal o va vp vc] w fun e w' => e = .returned (.tuple #[opVal (opR 4 o.name o.dst) nilV nilV nilV, .bool true]) ∧ Below w.heap.size w w' := by
 obtain ⟨Aa, ca, na, rfl, _, _⟩ := rdv_len ho.a
 obtain ⟨Ap, cp, np, rfl⟩ := ho.p.len
 obtain ⟨Ac, cc, nc, rfl, _⟩ := ho.c.len
 have hb1 : Below w.heap.size w (((w.alloc (.cells (opCs o (.slice Aa na ca) (.slice Ap np cp) (.slice Ac nc cc)) 44)).alloc (.cells zCs 44))) := ((Below.refl _ _).alloc (Nat.le_refl _) _).alloc (by simp) _
 have kX := (Blk.new w 44 (opCs o (.slice Aa na ca) (.slice Ap np cp) (.slice Ac nc cc))).alloc (.cells zCs 44)
 have kR := Blk.new (w.alloc (.cells (opCs o (.slice Aa na ca) (.slice Ap np cp) (.slice Ac nc cc)) 44)) 44 zCs
 rw [World.size_alloc] at kR
 have HK := Lib.hid hk
 have H1 := Lib.hid (And.intro hb1 (And.intro kX kR))
 clear hb1 kX kR hk ho
 go_enter Tryz.func48, Tryz.ntmps48
 go_upto_region 1 with fail
 obtain ⟨R, hR⟩ : ∃ R, R = w.heap.size + 1 := ⟨_, rfl⟩
 rw [← hR] at H1 ⊢
 have HR := Lib.hid (show w.heap.size < R by omega)
 clear hR
 generalize ((w.alloc (.cells (opCs o (.slice Aa na ca) (.slice Ap np cp) (.slice Ac nc cc)) 44)).alloc (.cells zCs 44)) = W1 at H1 ⊢
 have c0 : W1.cell? ⟨w.heap.size, 0, none⟩ = some (.int .i64 4) := by rw [← HK.out]; exact H1.out.2.1.cell 0
 go_upto_region 2 with (refine wpList_store_rowTo rfl 44 _ _ rfl rfl W1.heap.size #[.int .i64 4, .string ⟨#[]⟩, .string ⟨#[]⟩, .slice none 0 0, .slice none 0 0, .slice none 0 0, .int .i64 0] rfl rfl 44 zCs (Blk.new W1 44 zCs) (by kernel_rfl) rfl (by kernel_rfl) ?_)
 have hb2 : Below W1.heap.size W1 ((W1.alloc (.cells zCs 44)).setRow W1.heap.size #[.int .i64 4, .string ⟨#[]⟩, .string ⟨#[]⟩, .slice none 0 0, .slice none 0 0, .slice none 0 0, .int .i64 0]) := below_setRow ((Below.refl _ _).alloc (Nat.le_refl _) (.cells zCs 44)) (Nat.le_refl _) _
 have kB : Blk ((W1.alloc (.cells zCs 44)).setRow W1.heap.size #[.int .i64 4, .string ⟨#[]⟩, .string ⟨#[]⟩, .slice none 0 0, .slice none 0 0, .slice none 0 0, .int .i64 0]) W1.heap.size 44 #[.int .i64 4, .string ⟨#[]⟩, .string ⟨#[]⟩, .slice none 0 0, .slice none 0 0, .slice none 0 0, .int .i64 0] := (Blk.new W1 44 zCs).row _
 have h2 := And.intro (H1.out.1.trans (hb2.mono H1.out.1.size)) (And.intro (H1.out.2.1.on hb2) (And.intro (H1.out.2.2.on hb2) kB))
 have hRb := H1.out.2.2.lt
 obtain ⟨b, hb⟩ : ∃ b, b = W1.heap.size := ⟨_, rfl⟩
 rw [← hb] at h2 hRb ⊢
 clear hb2 kB hb c0
 have HRB := Lib.hid hRb
 clear hRb
 generalize (W1.alloc (.cells zCs 44)).setRow b #[.int .i64 4, .string ⟨#[]⟩, .string ⟨#[]⟩, .slice none 0 0, .slice none 0 0, .slice none 0 0, .int .i64 0] = W2 at h2 ⊢
 have H2 := Lib.hid h2
 clear h2 H1
 have c0 : W2.cell? ⟨w.heap.size, 0, none⟩ = some (.int .i64 4) := by rw [← HK.out]; exact H2.out.2.1.cell 0
 go_upto_region 12 with fail
 have c1 : W2.cell? ⟨w.heap.size, 1, none⟩ = some (.string (sx o.name)) := H2.out.2.1.cell 1
 have c2 : W2.cell? ⟨w.heap.size, 2, none⟩ = some (.string (sx o.dst)) := H2.out.2.1.cell 2
 have hne : b ≠ w.heap.size := by have := HR.out; have := HRB.out; omega
 have z1 : W2.cell? ⟨b, 1, none⟩ = some (.string ⟨#[]⟩) := H2.out.2.2.2.cell 1
 have y1 := H2.out.2.2.2.frozen 1
 have z2 : W2.cell? ⟨b, 2, none⟩ = some (.string ⟨#[]⟩) := H2.out.2.2.2.cell 2
 have y2 := H2.out.2.2.2.frozen 2
 have H3 : Hid (Below w.heap.size w (((W2).setCell ⟨b, 1, none⟩ (.string (sx o.name))).setCell ⟨b, 2, none⟩ (.string (sx o.dst))).drew ∧ Blk (((W2).setCell ⟨b, 1, none⟩ (.string (sx o.name))).setCell ⟨b, 2, none⟩ (.string (sx o.dst))).drew R 44 zCs ∧ Blk (((W2).setCell ⟨b, 1, none⟩ (.string (sx o.name))).setCell ⟨b, 2, none⟩ (.string (sx o.dst))).drew b 44 (opCs (opR 4 o.name o.dst) nilV nilV nilV)) := Lib.hid ⟨below_drew (((H2.out.1).setCell (p := ⟨b, 1, none⟩) (show w.heap.size ≤ b by have := HR.out; have := HRB.out; omega) _).setCell (p := ⟨b, 2, none⟩) (show w.heap.size ≤ b by have := HR.out; have := HRB.out; omega) _), (((H2.out.2.2.1).far (p := ⟨b, 1, none⟩) (show R ≠ b by have := HRB.out; omega) _).far (p := ⟨b, 2, none⟩) (show R ≠ b by have := HRB.out; omega) _).drew, (((H2.out.2.2.2).set_ 1 _).set_ 2 _).drew⟩
 go_region_law fail
 all_goals (
 clear c0 c1 c2 hne z1 y1 z2 y2
 generalize (((W2).setCell ⟨b, 1, none⟩ (.string (sx o.name))).setCell ⟨b, 2, none⟩ (.string (sx o.dst))).drew = wd at H3 ⊢
 go_wp2_with (first
   | (refine wpList_load_row rfl 44 _ rfl b rfl 44 (opCs (opR 4 o.name o.dst) nilV nilV nilV) (0, 0) _ H3.out.2.2 rfl rfl (by kernel_rfl) ?_)
   | (refine wpList_store_rowTo rfl 44 _ _ rfl rfl R (opCs (opR 4 o.name o.dst) nilV nilV nilV) rfl rfl 44 zCs H3.out.2.1 (by kernel_rfl) rfl (by kernel_rfl) ?_))
 have h9 := H3.out.2.1.row (opCs (opR 4 o.name o.dst) nilV nilV nilV)
 have hb9 := below_setRow H3.out.1 (Nat.le_of_lt HR.out) (opCs (opR 4 o.name o.dst) nilV nilV nilV)
 have t0 := h9.cell 0
 have t1 := h9.cell 1
 have t2 := h9.cell 2
 have t3 := h9.cell 3
 have t4 := h9.cell 4
 have t5 := h9.cell 5
 have t6 := h9.cell 6
 have HE := Lib.hid hb9
 clear h9 hb9
 generalize wd.setRow R (opCs (opR 4 o.name o.dst) nilV nilV nilV) = w7 at t0 t1 t2 t3 t4 t5 t6 HE ⊢
 refine bodyPost_ret (v := .tuple #[opVal (opR 4 o.name o.dst) nilV nilV nilV, .bool true]) ?_ rfl ⟨rfl, HE.out⟩
 simp at t0 t1 t2 t3 t4 t5 t6
 simp [results, Tryz.f48, go_sem, t0, t1, t2, t3, t4, t5, t6])
set_option maxHeartbeats 8000000 in
theorem bare5 (o : Opn) (va vp vc : Value) (w : World) (ho : OpAt w o va vp vc) (hk : o.k = 5) :
   Calls Tryz.prog 48 #[opVal o va vp vc] w fun e w' => e = .returned (.tuple #[opVal (opA 5 o.name o.attrs) va nilV nilV, .bool true]) ∧ Below w.heap.size w w' := by
 obtain ⟨Aa, ca, na, rfl, _, _⟩ := rdv_len ho.a
 obtain ⟨Ap, cp, np, rfl⟩ := ho.p.len
 obtain ⟨Ac, cc, nc, rfl, _⟩ := ho.c.len
 have hb1 : Below w.heap.size w (((w.alloc (.cells (opCs o (.slice Aa na ca) (.slice Ap np cp) (.slice Ac nc cc)) 44)).alloc (.cells zCs 44))) := ((Below.refl _ _).alloc (Nat.le_refl _) _).alloc (by simp) _
 have kX := (Blk.new w 44 (opCs o (.slice Aa na ca) (.slice Ap np cp) (.slice Ac nc cc))).alloc (.cells zCs 44)
 have kR := Blk.new (w.alloc (.cells (opCs o (.slice Aa na ca) (.slice Ap np cp) (.slice Ac nc cc)) 44)) 44 zCs
 rw [World.size_alloc] at kR
 have HK := Lib.hid hk
 have H1 := Lib.hid (And.intro hb1 (And.intro kX kR))
 clear hb1 kX kR hk ho
 go_enter Tryz.func48, Tryz.ntmps48
 go_upto_region 1 with fail
 obtain ⟨R, hR⟩ : ∃ R, R = w.heap.size + 1 := ⟨_, rfl⟩
 rw [← hR] at H1 ⊢
 have HR := Lib.hid (show w.heap.size < R by omega)
 clear hR
 generalize ((w.alloc (.cells (opCs o (.slice Aa na ca) (.slice Ap np cp) (.slice Ac nc cc)) 44)).alloc (.cells zCs 44)) = W1 at H1 ⊢
 have c0 : W1.cell? ⟨w.heap.size, 0, none⟩ = some (.int .i64 5) := by rw [← HK.out]; exact H1.out.2.1.cell 0
 go_upto_region 2 with (refine wpList_store_rowTo rfl 44 _ _ rfl rfl W1.heap.size #[.int .i64 5, .string ⟨#[]⟩, .string ⟨#[]⟩, .slice none 0 0, .slice none 0 0, .slice none 0 0, .int .i64 0] rfl rfl 44 zCs (Blk.new W1 44 zCs) (by kernel_rfl) rfl (by kernel_rfl) ?_)
 have hb2 : Below W1.heap.size W1 ((W1.alloc (.cells zCs 44)).setRow W1.heap.size #[.int .i64 5, .string ⟨#[]⟩, .string ⟨#[]⟩, .slice none 0 0, .slice none 0 0, .slice none 0 0, .int .i64 0]) := below_setRow ((Below.refl _ _).alloc (Nat.le_refl _) (.cells zCs 44)) (Nat.le_refl _) _
 have kB : Blk ((W1.alloc (.cells zCs 44)).setRow W1.heap.size #[.int .i64 5, .string ⟨#[]⟩, .string ⟨#[]⟩, .slice none 0 0, .slice none 0 0, .slice none 0 0, .int .i64 0]) W1.heap.size 44 #[.int .i64 5, .string ⟨#[]⟩, .string ⟨#[]⟩, .slice none 0 0, .slice none 0 0, .slice none 0 0, .int .i64 0] := (Blk.new W1 44 zCs).row _
 have h2 := And.intro (H1.out.1.trans (hb2.mono H1.out.1.size)) (And.intro (H1.out.2.1.on hb2) (And.intro (H1.out.2.2.on hb2) kB))
 have hRb := H1.out.2.2.lt
 obtain ⟨b, hb⟩ : ∃ b, b = W1.heap.size := ⟨_, rfl⟩
 rw [← hb] at h2 hRb ⊢
 clear hb2 kB hb c0
 have HRB := Lib.hid hRb
 clear hRb
 generalize (W1.alloc (.cells zCs 44)).setRow b #[.int .i64 5, .string ⟨#[]⟩, .string ⟨#[]⟩, .slice none 0 0, .slice none 0 0, .slice none 0 0, .int .i64 0] = W2 at h2 ⊢
 have H2 := Lib.hid h2
 clear h2 H1
 have c0 : W2.cell? ⟨w.heap.size, 0, none⟩ = some (.int .i64 5) := by rw [← HK.out]; exact H2.out.2.1.cell 0
 go_upto_region 7 with fail
 have c1 : W2.cell? ⟨w.heap.size, 1, none⟩ = some (.string (sx o.name)) := H2.out.2.1.cell 1
 have c3 : W2.cell? ⟨w.heap.size, 3, none⟩ = some (.slice Aa na ca) := H2.out.2.1.cell 3
 have hne : b ≠ w.heap.size := by have := HR.out; have := HRB.out; omega
 have z1 : W2.cell? ⟨b, 1, none⟩ = some (.string ⟨#[]⟩) := H2.out.2.2.2.cell 1
 have y1 := H2.out.2.2.2.frozen 1
 have z3 : W2.cell? ⟨b, 3, none⟩ = some (.slice none 0 0) := H2.out.2.2.2.cell 3
 have y3 := H2.out.2.2.2.frozen 3
 have H3 : Hid (Below w.heap.size w (((W2).setCell ⟨b, 1, none⟩ (.string (sx o.name))).setCell ⟨b, 3, none⟩ (.slice Aa na ca)).drew ∧ Blk (((W2).setCell ⟨b, 1, none⟩ (.string (sx o.name))).setCell ⟨b, 3, none⟩ (.slice Aa na ca)).drew R 44 zCs ∧ Blk (((W2).setCell ⟨b, 1, none⟩ (.string (sx o.name))).setCell ⟨b, 3, none⟩ (.slice Aa na ca)).drew b 44 (opCs (opA 5 o.name o.attrs) (.slice Aa na ca) nilV nilV)) := Lib.hid ⟨below_drew (((H2.out.1).setCell (p := ⟨b, 1, none⟩) (show w.heap.size ≤ b by have := HR.out; have := HRB.out; omega) _).setCell (p := ⟨b, 3, none⟩) (show w.heap.size ≤ b by have := HR.out; have := HRB.out; omega) _), (((H2.out.2.2.1).far (p := ⟨b, 1, none⟩) (show R ≠ b by have := HRB.out; omega) _).far (p := ⟨b, 3, none⟩) (show R ≠ b by have := HRB.out; omega) _).drew, (((H2.out.2.2.2).set_ 1 _).set_ 3 _).drew⟩
 go_region_law fail
 all_goals (
 clear c0 c1 c3 hne z1 y1 z3 y3
 generalize (((W2).setCell ⟨b, 1, none⟩ (.string (sx o.name))).setCell ⟨b, 3, none⟩ (.slice Aa na ca)).drew = wd at H3 ⊢
 go_wp2_with (first
   | (refine wpList_load_row rfl 44 _ rfl b rfl 44 (opCs (opA 5 o.name o.attrs) (.slice Aa na ca) nilV nilV) (0, 0) _ H3.out.2.2 rfl rfl (by kernel_rfl) ?_)
   | (refine wpList_store_rowTo rfl 44 _ _ rfl rfl R (opCs (opA 5 o.name o.attrs) (.slice Aa na ca) nilV nilV) rfl rfl 44 zCs H3.out.2.1 (by kernel_rfl) rfl (by kernel_rfl) ?_))
 have h9 := H3.out.2.1.row (opCs (opA 5 o.name o.attrs) (.slice Aa na ca) nilV nilV)
 have hb9 := below_setRow H3.out.1 (Nat.le_of_lt HR.out) (opCs (opA 5 o.name o.attrs) (.slice Aa na ca) nilV nilV)
 have t0 := h9.cell 0
 have t1 := h9.cell 1
 have t2 := h9.cell 2
 have t3 := h9.cell 3
 have t4 := h9.cell 4
 have t5 := h9.cell 5
 have t6 := h9.cell 6
 have HE := Lib.hid hb9
 clear h9 hb9
 generalize wd.setRow R (opCs (opA 5 o.name o.attrs) (.slice Aa na ca) nilV nilV) = w7 at t0 t1 t2 t3 t4 t5 t6 HE ⊢
 refine bodyPost_ret (v := .tuple #[opVal (opA 5 o.name o.attrs) (.slice Aa na ca) nilV nilV, .bool true]) ?_ rfl ⟨rfl, HE.out⟩
 simp at t0 t1 t2 t3 t4 t5 t6
 simp [results, Tryz.f48, go_sem, t0, t1, t2, t3, t4, t5, t6])
set_option maxHeartbeats 8000000 in
theorem bare6 (o : Opn) (va vp vc : Value) (w : World) (ho : OpAt w o va vp vc) (hk : o.k = 6) :
   Calls Tryz.prog 48 #[opVal o va vp vc] w fun e w' => e = .returned (.tuple #[opVal (opN 6 o.name) nilV nilV nilV, .bool true]) ∧ Below w.heap.size w w' := by
 obtain ⟨Aa, ca, na, rfl, _, _⟩ := rdv_len ho.a
 obtain ⟨Ap, cp, np, rfl⟩ := ho.p.len
 obtain ⟨Ac, cc, nc, rfl, _⟩ := ho.c.len
 have hb1 : Below w.heap.size w (((w.alloc (.cells (opCs o (.slice Aa na ca) (.slice Ap np cp) (.slice Ac nc cc)) 44)).alloc (.cells zCs 44))) := ((Below.refl _ _).alloc (Nat.le_refl _) _).alloc (by simp) _
 have kX := (Blk.new w 44 (opCs o (.slice Aa na ca) (.slice Ap np cp) (.slice Ac nc cc))).alloc (.cells zCs 44)
 have kR := Blk.new (w.alloc (.cells (opCs o (.slice Aa na ca) (.slice Ap np cp) (.slice Ac nc cc)) 44)) 44 zCs
 rw [World.size_alloc] at kR
 have HK := Lib.hid hk
 have H1 := Lib.hid (And.intro hb1 (And.intro kX kR))
 clear hb1 kX kR hk ho
 go_enter Tryz.func48, Tryz.ntmps48
 go_upto_region 1 with fail
 obtain ⟨R, hR⟩ : ∃ R, R = w.heap.size + 1 := ⟨_, rfl⟩
 rw [← hR] at H1 ⊢
 have HR := Lib.hid (show w.heap.size < R by omega)
 clear hR
 generalize ((w.alloc (.cells (opCs o (.slice Aa na ca) (.slice Ap np cp) (.slice Ac nc cc)) 44)).alloc (.cells zCs 44)) = W1 at H1 ⊢
 have c0 : W1.cell? ⟨w.heap.size, 0, none⟩ = some (.int .i64 6) := by rw [← HK.out]; exact H1.out.2.1.cell 0
 go_upto_region 2 with (refine wpList_store_rowTo rfl 44 _ _ rfl rfl W1.heap.size #[.int .i64 6, .string ⟨#[]⟩, .string ⟨#[]⟩, .slice none 0 0, .slice none 0 0, .slice none 0 0, .int .i64 0] rfl rfl 44 zCs (Blk.new W1 44 zCs) (by kernel_rfl) rfl (by kernel_rfl) ?_)
 have hb2 : Below W1.heap.size W1 ((W1.alloc (.cells zCs 44)).setRow W1.heap.size #[.int .i64 6, .string ⟨#[]⟩, .string ⟨#[]⟩, .slice none 0 0, .slice none 0 0, .slice none 0 0, .int .i64 0]) := below_setRow ((Below.refl _ _).alloc (Nat.le_refl _) (.cells zCs 44)) (Nat.le_refl _) _
 have kB : Blk ((W1.alloc (.cells zCs 44)).setRow W1.heap.size #[.int .i64 6, .string ⟨#[]⟩, .string ⟨#[]⟩, .slice none 0 0, .slice none 0 0, .slice none 0 0, .int .i64 0]) W1.heap.size 44 #[.int .i64 6, .string ⟨#[]⟩, .string ⟨#[]⟩, .slice none 0 0, .slice none 0 0, .slice none 0 0, .int .i64 0] := (Blk.new W1 44 zCs).row _
 have h2 := And.intro (H1.out.1.trans (hb2.mono H1.out.1.size)) (And.intro (H1.out.2.1.on hb2) (And.intro (H1.out.2.2.on hb2) kB))
 have hRb := H1.out.2.2.lt
 obtain ⟨b, hb⟩ : ∃ b, b = W1.heap.size := ⟨_, rfl⟩
 rw [← hb] at h2 hRb ⊢
 clear hb2 kB hb c0
 have HRB := Lib.hid hRb
 clear hRb
 generalize (W1.alloc (.cells zCs 44)).setRow b #[.int .i64 6, .string ⟨#[]⟩, .string ⟨#[]⟩, .slice none 0 0, .slice none 0 0, .slice none 0 0, .int .i64 0] = W2 at h2 ⊢
 have H2 := Lib.hid h2
 clear h2 H1
 have c0 : W2.cell? ⟨w.heap.size, 0, none⟩ = some (.int .i64 6) := by rw [← HK.out]; exact H2.out.2.1.cell 0
 go_upto_region 10 with fail
 have c1 : W2.cell? ⟨w.heap.size, 1, none⟩ = some (.string (sx o.name)) := H2.out.2.1.cell 1
 have hne : b ≠ w.heap.size := by have := HR.out; have := HRB.out; omega
 have z1 : W2.cell? ⟨b, 1, none⟩ = some (.string ⟨#[]⟩) := H2.out.2.2.2.cell 1
 have y1 := H2.out.2.2.2.frozen 1
 go_upto_region 17 with fail
 clear z1 y1 c0 c1 hne
 have H3 : Hid (Below w.heap.size w (W2.setCell ⟨b, 1, none⟩ (.string (sx o.name))) ∧ Blk (W2.setCell ⟨b, 1, none⟩ (.string (sx o.name))) R 44 zCs ∧ Blk (W2.setCell ⟨b, 1, none⟩ (.string (sx o.name))) b 44 (opCs (opN 6 o.name) nilV nilV nilV)) := Lib.hid ⟨H2.out.1.setCell (p := ⟨b, 1, none⟩) (show w.heap.size ≤ b by have := HR.out; have := HRB.out; omega) _, H2.out.2.2.1.far (p := ⟨b, 1, none⟩) (show R ≠ b by have := HRB.out; omega) _, H2.out.2.2.2.set_ 1 _⟩
 generalize W2.setCell ⟨b, 1, none⟩ (.string (sx o.name)) = wd at H3 ⊢
 go_wp2_with (first
   | (refine wpList_load_row rfl 44 _ rfl b rfl 44 (opCs (opN 6 o.name) nilV nilV nilV) (0, 0) _ H3.out.2.2 rfl rfl (by kernel_rfl) ?_)
   | (refine wpList_store_rowTo rfl 44 _ _ rfl rfl R (opCs (opN 6 o.name) nilV nilV nilV) rfl rfl 44 zCs H3.out.2.1 (by kernel_rfl) rfl (by kernel_rfl) ?_))
 have h9 := H3.out.2.1.row (opCs (opN 6 o.name) nilV nilV nilV)
 have hb9 := below_setRow H3.out.1 (Nat.le_of_lt HR.out) (opCs (opN 6 o.name) nilV nilV nilV)
 have t0 := h9.cell 0
 have t1 := h9.cell 1
 have t2 := h9.cell 2
 have t3 := h9.cell 3
 have t4 := h9.cell 4
 have t5 := h9.cell 5
 have t6 := h9.cell 6
 have HE := Lib.hid hb9
 clear h9 hb9
 generalize wd.setRow R (opCs (opN 6 o.name) nilV nilV nilV) = w7 at t0 t1 t2 t3 t4 t5 t6 HE ⊢
 refine bodyPost_ret (v := .tuple #[opVal (opN 6 o.name) nilV nilV nilV, .bool true]) ?_ rfl ⟨rfl, HE.out⟩
 simp at t0 t1 t2 t3 t4 t5 t6
 simp [results, Tryz.f48, go_sem, t0, t1, t2, t3, t4, t5, t6]
set_option maxHeartbeats 8000000 in
theorem bare7 (o : Opn) (va vp vc : Value) (w : World) (ho : OpAt w o va vp vc) (hk : o.k = 7) :
   Calls Tryz.prog 48 #[opVal o va vp vc] w fun e w' => e = .returned (.tuple #[opVal (opP 7 o.parts o.cur o.n) nilV vp vc, .bool true]) ∧ Below w.heap.size w w' := by
 obtain ⟨Aa, ca, na, rfl, _, _⟩ := rdv_len ho.a
 obtain ⟨Ap, cp, np, rfl⟩ := ho.p.len
 obtain ⟨Ac, cc, nc, rfl, _⟩ := ho.c.len
 have hb1 : Below w.heap.size w (((w.alloc (.cells (opCs o (.slice Aa na ca) (.slice Ap np cp) (.slice Ac nc cc)) 44)).alloc (.cells zCs 44))) := ((Below.refl _ _).alloc (Nat.le_refl _) _).alloc (by simp) _
 have kX := (Blk.new w 44 (opCs o (.slice Aa na ca) (.slice Ap np cp) (.slice Ac nc cc))).alloc (.cells zCs 44)
 have kR := Blk.new (w.alloc (.cells (opCs o (.slice Aa na ca) (.slice Ap np cp) (.slice Ac nc cc)) 44)) 44 zCs
 rw [World.size_alloc] at kR
 have HK := Lib.hid hk
 have H1 := Lib.hid (And.intro hb1 (And.intro kX kR))
 clear hb1 kX kR hk ho
 go_enter Tryz.func48, Tryz.ntmps48
 go_upto_region 1 with fail
 obtain ⟨R, hR⟩ : ∃ R, R = w.heap.size + 1 := ⟨_, rfl⟩
 rw [← hR] at H1 ⊢
 have HR := Lib.hid (show w.heap.size < R by omega)
 clear hR
 generalize ((w.alloc (.cells (opCs o (.slice Aa na ca) (.slice Ap np cp) (.slice Ac nc cc)) 44)).alloc (.cells zCs 44)) = W1 at H1 ⊢
 have c0 : W1.cell? ⟨w.heap.size, 0, none⟩ = some (.int .i64 7) := by rw [← HK.out]; exact H1.out.2.1.cell 0
 go_upto_region 2 with (refine wpList_store_rowTo rfl 44 _ _ rfl rfl W1.heap.size #[.int .i64 7, .string ⟨#[]⟩, .string ⟨#[]⟩, .slice none 0 0, .slice none 0 0, .slice none 0 0, .int .i64 0] rfl rfl 44 zCs (Blk.new W1 44 zCs) (by kernel_rfl) rfl (by kernel_rfl) ?_)
 have hb2 : Below W1.heap.size W1 ((W1.alloc (.cells zCs 44)).setRow W1.heap.size #[.int .i64 7, .string ⟨#[]⟩, .string ⟨#[]⟩, .slice none 0 0, .slice none 0 0, .slice none 0 0, .int .i64 0]) := below_setRow ((Below.refl _ _).alloc (Nat.le_refl _) (.cells zCs 44)) (Nat.le_refl _) _
 have kB : Blk ((W1.alloc (.cells zCs 44)).setRow W1.heap.size #[.int .i64 7, .string ⟨#[]⟩, .string ⟨#[]⟩, .slice none 0 0, .slice none 0 0, .slice none 0 0, .int .i64 0]) W1.heap.size 44 #[.int .i64 7, .string ⟨#[]⟩, .string ⟨#[]⟩, .slice none 0 0, .slice none 0 0, .slice none 0 0, .int .i64 0] := (Blk.new W1 44 zCs).row _
 have h2 := And.intro (H1.out.1.trans (hb2.mono H1.out.1.size)) (And.intro (H1.out.2.1.on hb2) (And.intro (H1.out.2.2.on hb2) kB))
 have hRb := H1.out.2.2.lt
 obtain ⟨b, hb⟩ : ∃ b, b = W1.heap.size := ⟨_, rfl⟩
 rw [← hb] at h2 hRb ⊢
 clear hb2 kB hb c0
 have HRB := Lib.hid hRb
 clear hRb
 generalize (W1.alloc (.cells zCs 44)).setRow b #[.int .i64 7, .string ⟨#[]⟩, .string ⟨#[]⟩, .slice none 0 0, .slice none 0 0, .slice none 0 0, .int .i64 0] = W2 at h2 ⊢
 have H2 := Lib.hid h2
 clear h2 H1
 have c0 : W2.cell? ⟨w.heap.size, 0, none⟩ = some (.int .i64 7) := by rw [← HK.out]; exact H2.out.2.1.cell 0
 go_upto_region 14 with fail
 have c4 : W2.cell? ⟨w.heap.size, 4, none⟩ = some (.slice Ap np cp) := H2.out.2.1.cell 4
 have c5 : W2.cell? ⟨w.heap.size, 5, none⟩ = some (.slice Ac nc cc) := H2.out.2.1.cell 5
 have c6 : W2.cell? ⟨w.heap.size, 6, none⟩ = some (.int .i64 o.n) := H2.out.2.1.cell 6
 have hne : b ≠ w.heap.size := by have := HR.out; have := HRB.out; omega
 have z4 : W2.cell? ⟨b, 4, none⟩ = some (.slice none 0 0) := H2.out.2.2.2.cell 4
 have y4 := H2.out.2.2.2.frozen 4
 have z5 : W2.cell? ⟨b, 5, none⟩ = some (.slice none 0 0) := H2.out.2.2.2.cell 5
 have y5 := H2.out.2.2.2.frozen 5
 have z6 : W2.cell? ⟨b, 6, none⟩ = some (.int .i64 0) := H2.out.2.2.2.cell 6
 have y6 := H2.out.2.2.2.frozen 6
 have H3 : Hid (Below w.heap.size w ((((W2).setCell ⟨b, 4, none⟩ (.slice Ap np cp)).setCell ⟨b, 5, none⟩ (.slice Ac nc cc)).setCell ⟨b, 6, none⟩ (.int .i64 o.n)).drew ∧ Blk ((((W2).setCell ⟨b, 4, none⟩ (.slice Ap np cp)).setCell ⟨b, 5, none⟩ (.slice Ac nc cc)).setCell ⟨b, 6, none⟩ (.int .i64 o.n)).drew R 44 zCs ∧ Blk ((((W2).setCell ⟨b, 4, none⟩ (.slice Ap np cp)).setCell ⟨b, 5, none⟩ (.slice Ac nc cc)).setCell ⟨b, 6, none⟩ (.int .i64 o.n)).drew b 44 (opCs (opP 7 o.parts o.cur o.n) nilV (.slice Ap np cp) (.slice Ac nc cc))) := Lib.hid ⟨below_drew ((((H2.out.1).setCell (p := ⟨b, 4, none⟩) (show w.heap.size ≤ b by have := HR.out; have := HRB.out; omega) _).setCell (p := ⟨b, 5, none⟩) (show w.heap.size ≤ b by have := HR.out; have := HRB.out; omega) _).setCell (p := ⟨b, 6, none⟩) (show w.heap.size ≤ b by have := HR.out; have := HRB.out; omega) _), ((((H2.out.2.2.1).far (p := ⟨b, 4, none⟩) (show R ≠ b by have := HRB.out; omega) _).far (p := ⟨b, 5, none⟩) (show R ≠ b by have := HRB.out; omega) _).far (p := ⟨b, 6, none⟩) (show R ≠ b by have := HRB.out; omega) _).drew, ((((H2.out.2.2.2).set_ 4 _).set_ 5 _).set_ 6 _).drew⟩
 go_region_law fail
 all_goals (
 clear c0 c4 c5 c6 hne z4 y4 z5 y5 z6 y6
 generalize ((((W2).setCell ⟨b, 4, none⟩ (.slice Ap np cp)).setCell ⟨b, 5, none⟩ (.slice Ac nc cc)).setCell ⟨b, 6, none⟩ (.int .i64 o.n)).drew = wd at H3 ⊢
 go_wp2_with (first
   | (refine wpList_load_row rfl 44 _ rfl b rfl 44 (opCs (opP 7 o.parts o.cur o.n) nilV (.slice Ap np cp) (.slice Ac nc cc)) (0, 0) _ H3.out.2.2 rfl rfl (by kernel_rfl) ?_)
   | (refine wpList_store_rowTo rfl 44 _ _ rfl rfl R (opCs (opP 7 o.parts o.cur o.n) nilV (.slice Ap np cp) (.slice Ac nc cc)) rfl rfl 44 zCs H3.out.2.1 (by kernel_rfl) rfl (by kernel_rfl) ?_))
 have h9 := H3.out.2.1.row (opCs (opP 7 o.parts o.cur o.n) nilV (.slice Ap np cp) (.slice Ac nc cc))
 have hb9 := below_setRow H3.out.1 (Nat.le_of_lt HR.out) (opCs (opP 7 o.parts o.cur o.n) nilV (.slice Ap np cp) (.slice Ac nc cc))
 have t0 := h9.cell 0
 have t1 := h9.cell 1
 have t2 := h9.cell 2
 have t3 := h9.cell 3
 have t4 := h9.cell 4
 have t5 := h9.cell 5
 have t6 := h9.cell 6
 have HE := Lib.hid hb9
 clear h9 hb9
 generalize wd.setRow R (opCs (opP 7 o.parts o.cur o.n) nilV (.slice Ap np cp) (.slice Ac nc cc)) = w7 at t0 t1 t2 t3 t4 t5 t6 HE ⊢
 refine bodyPost_ret (v := .tuple #[opVal (opP 7 o.parts o.cur o.n) nilV (.slice Ap np cp) (.slice Ac nc cc), .bool true]) ?_ rfl ⟨rfl, HE.out⟩
 simp at t0 t1 t2 t3 t4 t5 t6
 simp [results, Tryz.f48, go_sem, t0, t1, t2, t3, t4, t5, t6])
set_option maxHeartbeats 8000000 in
theorem bare8 (o : Opn) (va vp vc : Value) (w : World) (ho : OpAt w o va vp vc) (hk : o.k = 8) :
   Calls Tryz.prog 48 #[opVal o va vp vc] w fun e w' => e = .returned (.tuple #[opVal (opG 8 o.cur o.n) nilV nilV vc, .bool true]) ∧ Below w.heap.size w w' := by
 obtain ⟨Aa, ca, na, rfl, _, _⟩ := rdv_len ho.a
 obtain ⟨Ap, cp, np, rfl⟩ := ho.p.len
 obtain ⟨Ac, cc, nc, rfl, _⟩ := ho.c.len
 have hb1 : Below w.heap.size w (((w.alloc (.cells (opCs o (.slice Aa na ca) (.slice Ap np cp) (.slice Ac nc cc)) 44)).alloc (.cells zCs 44))) := ((Below.refl _ _).alloc (Nat.le_refl _) _).alloc (by simp) _
 have kX := (Blk.new w 44 (opCs o (.slice Aa na ca) (.slice Ap np cp) (.slice Ac nc cc))).alloc (.cells zCs 44)
 have kR := Blk.new (w.alloc (.cells (opCs o (.slice Aa na ca) (.slice Ap np cp) (.slice Ac nc cc)) 44)) 44 zCs
 rw [World.size_alloc] at kR
 have HK := Lib.hid hk
 have H1 := Lib.hid (And.intro hb1 (And.intro kX kR))
 clear hb1 kX kR hk ho
 go_enter Tryz.func48, Tryz.ntmps48
 go_upto_region 1 with fail
 obtain ⟨R, hR⟩ : ∃ R, R = w.heap.size + 1 := ⟨_, rfl⟩
 rw [← hR] at H1 ⊢
 have HR := Lib.hid (show w.heap.size < R by omega)
 clear hR
 generalize ((w.alloc (.cells (opCs o (.slice Aa na ca) (.slice Ap np cp) (.slice Ac nc cc)) 44)).alloc (.cells zCs 44)) = W1 at H1 ⊢
 have c0 : W1.cell? ⟨w.heap.size, 0, none⟩ = some (.int .i64 8) := by rw [← HK.out]; exact H1.out.2.1.cell 0
 go_upto_region 2 with (refine wpList_store_rowTo rfl 44 _ _ rfl rfl W1.heap.size #[.int .i64 8, .string ⟨#[]⟩, .string ⟨#[]⟩, .slice none 0 0, .slice none 0 0, .slice none 0 0, .int .i64 0] rfl rfl 44 zCs (Blk.new W1 44 zCs) (by kernel_rfl) rfl (by kernel_rfl) ?_)
 have hb2 : Below W1.heap.size W1 ((W1.alloc (.cells zCs 44)).setRow W1.heap.size #[.int .i64 8, .string ⟨#[]⟩, .string ⟨#[]⟩, .slice none 0 0, .slice none 0 0, .slice none 0 0, .int .i64 0]) := below_setRow ((Below.refl _ _).alloc (Nat.le_refl _) (.cells zCs 44)) (Nat.le_refl _) _
 have kB : Blk ((W1.alloc (.cells zCs 44)).setRow W1.heap.size #[.int .i64 8, .string ⟨#[]⟩, .string ⟨#[]⟩, .slice none 0 0, .slice none 0 0, .slice none 0 0, .int .i64 0]) W1.heap.size 44 #[.int .i64 8, .string ⟨#[]⟩, .string ⟨#[]⟩, .slice none 0 0, .slice none 0 0, .slice none 0 0, .int .i64 0] := (Blk.new W1 44 zCs).row _
 have h2 := And.intro (H1.out.1.trans (hb2.mono H1.out.1.size)) (And.intro (H1.out.2.1.on hb2) (And.intro (H1.out.2.2.on hb2) kB))
 have hRb := H1.out.2.2.lt
 obtain ⟨b, hb⟩ : ∃ b, b = W1.heap.size := ⟨_, rfl⟩
 rw [← hb] at h2 hRb ⊢
 clear hb2 kB hb c0
 have HRB := Lib.hid hRb
 clear hRb
 generalize (W1.alloc (.cells zCs 44)).setRow b #[.int .i64 8, .string ⟨#[]⟩, .string ⟨#[]⟩, .slice none 0 0, .slice none 0 0, .slice none 0 0, .int .i64 0] = W2 at h2 ⊢
 have H2 := Lib.hid h2
 clear h2 H1
 have c0 : W2.cell? ⟨w.heap.size, 0, none⟩ = some (.int .i64 8) := by rw [← HK.out]; exact H2.out.2.1.cell 0
 go_upto_region 16 with fail
 have c5 : W2.cell? ⟨w.heap.size, 5, none⟩ = some (.slice Ac nc cc) := H2.out.2.1.cell 5
 have c6 : W2.cell? ⟨w.heap.size, 6, none⟩ = some (.int .i64 o.n) := H2.out.2.1.cell 6
 have hne : b ≠ w.heap.size := by have := HR.out; have := HRB.out; omega
 have z5 : W2.cell? ⟨b, 5, none⟩ = some (.slice none 0 0) := H2.out.2.2.2.cell 5
 have y5 := H2.out.2.2.2.frozen 5
 have z6 : W2.cell? ⟨b, 6, none⟩ = some (.int .i64 0) := H2.out.2.2.2.cell 6
 have y6 := H2.out.2.2.2.frozen 6
 have H3 : Hid (Below w.heap.size w (((W2).setCell ⟨b, 5, none⟩ (.slice Ac nc cc)).setCell ⟨b, 6, none⟩ (.int .i64 o.n)).drew ∧ Blk (((W2).setCell ⟨b, 5, none⟩ (.slice Ac nc cc)).setCell ⟨b, 6, none⟩ (.int .i64 o.n)).drew R 44 zCs ∧ Blk (((W2).setCell ⟨b, 5, none⟩ (.slice Ac nc cc)).setCell ⟨b, 6, none⟩ (.int .i64 o.n)).drew b 44 (opCs (opG 8 o.cur o.n) nilV nilV (.slice Ac nc cc))) := Lib.hid ⟨below_drew (((H2.out.1).setCell (p := ⟨b, 5, none⟩) (show w.heap.size ≤ b by have := HR.out; have := HRB.out; omega) _).setCell (p := ⟨b, 6, none⟩) (show w.heap.size ≤ b by have := HR.out; have := HRB.out; omega) _), (((H2.out.2.2.1).far (p := ⟨b, 5, none⟩) (show R ≠ b by have := HRB.out; omega) _).far (p := ⟨b, 6, none⟩) (show R ≠ b by have := HRB.out; omega) _).drew, (((H2.out.2.2.2).set_ 5 _).set_ 6 _).drew⟩
 go_region_law fail
 all_goals (
 clear c0 c5 c6 hne z5 y5 z6 y6
 generalize (((W2).setCell ⟨b, 5, none⟩ (.slice Ac nc cc)).setCell ⟨b, 6, none⟩ (.int .i64 o.n)).drew = wd at H3 ⊢
 go_wp2_with (first
   | (refine wpList_load_row rfl 44 _ rfl b rfl 44 (opCs (opG 8 o.cur o.n) nilV nilV (.slice Ac nc cc)) (0, 0) _ H3.out.2.2 rfl rfl (by kernel_rfl) ?_)
   | (refine wpList_store_rowTo rfl 44 _ _ rfl rfl R (opCs (opG 8 o.cur o.n) nilV nilV (.slice Ac nc cc)) rfl rfl 44 zCs H3.out.2.1 (by kernel_rfl) rfl (by kernel_rfl) ?_))
 have h9 := H3.out.2.1.row (opCs (opG 8 o.cur o.n) nilV nilV (.slice Ac nc cc))
 have hb9 := below_setRow H3.out.1 (Nat.le_of_lt HR.out) (opCs (opG 8 o.cur o.n) nilV nilV (.slice Ac nc cc))
 have t0 := h9.cell 0
 have t1 := h9.cell 1
 have t2 := h9.cell 2
 have t3 := h9.cell 3
 have t4 := h9.cell 4
 have t5 := h9.cell 5
 have t6 := h9.cell 6
 have HE := Lib.hid hb9
 clear h9 hb9
 generalize wd.setRow R (opCs (opG 8 o.cur o.n) nilV nilV (.slice Ac nc cc)) = w7 at t0 t1 t2 t3 t4 t5 t6 HE ⊢
 refine bodyPost_ret (v := .tuple #[opVal (opG 8 o.cur o.n) nilV nilV (.slice Ac nc cc), .bool true]) ?_ rfl ⟨rfl, HE.out⟩
 simp at t0 t1 t2 t3 t4 t5 t6
 simp [results, Tryz.f48, go_sem, t0, t1, t2, t3, t4, t5, t6])
def bareO (o : Opn) : Opn := if fA o.k = true then opA o.k o.name o.attrs else if fT o.k = true then opR o.k o.name o.dst else if fN o.k = true then opN o.k o.name else if fP o.k = true then opP o.k o.parts o.cur o.n else if fG o.k = true then opG o.k o.cur o.n else o0 o.k
theorem nilA (w : World) : YtniaijgejljjbaaGreat.RdV w nilV [] := YtniaijgejljjbaaGreat.RdV.nil w
theorem bare_any (o : Opn) (va vp vc : Value) (w : World) (ho : OpAt w o va vp vc) :
   Calls Tryz.prog 48 #[opVal o va vp vc] w fun e w' => ∃ va' vp' vc', e = .returned (.tuple #[opVal (bareO o) va' vp' vc', .bool (isK o.k)]) ∧ OpAt w' (bareO o) va' vp' vc' ∧ Below w.heap.size w w' := by
 rcases kinds o.k with h | h | h | h | h | h | h | h | h
 · have e : bareO o = opA 1 o.name o.attrs := by unfold bareO; rw [h]; simp [fA, fT, fN, fP, fG]
   have e2 : isK o.k = true := by rw [h]; decide
   rw [e, e2]
   refine (bare1 o va vp vc w ho h).mono ?_
   rintro e w' ⟨rfl, h1⟩
   exact ⟨_, _, _, rfl, ⟨YtniaijgejljjbaaGreat.RdV.on ho.a h1, RdP.nil _, RdC.nil _⟩, h1⟩
 · have e : bareO o = opN 2 o.name := by unfold bareO; rw [h]; simp [fA, fT, fN, fP, fG]
   have e2 : isK o.k = true := by rw [h]; decide
   rw [e, e2]
   refine (bare2 o va vp vc w ho h).mono ?_
   rintro e w' ⟨rfl, h1⟩
   exact ⟨_, _, _, rfl, ⟨nilA _, RdP.nil _, RdC.nil _⟩, h1⟩
 · have e : bareO o = opA 3 o.name o.attrs := by unfold bareO; rw [h]; simp [fA, fT, fN, fP, fG]
   have e2 : isK o.k = true := by rw [h]; decide
   rw [e, e2]
   refine (bare3 o va vp vc w ho h).mono ?_
   rintro e w' ⟨rfl, h1⟩
   exact ⟨_, _, _, rfl, ⟨YtniaijgejljjbaaGreat.RdV.on ho.a h1, RdP.nil _, RdC.nil _⟩, h1⟩
 · have e : bareO o = opR 4 o.name o.dst := by unfold bareO; rw [h]; simp [fA, fT, fN, fP, fG]
   have e2 : isK o.k = true := by rw [h]; decide
   rw [e, e2]
   refine (bare4 o va vp vc w ho h).mono ?_
   rintro e w' ⟨rfl, h1⟩
   exact ⟨_, _, _, rfl, ⟨nilA _, RdP.nil _, RdC.nil _⟩, h1⟩
 · have e : bareO o = opA 5 o.name o.attrs := by unfold bareO; rw [h]; simp [fA, fT, fN, fP, fG]
   have e2 : isK o.k = true := by rw [h]; decide
   rw [e, e2]
   refine (bare5 o va vp vc w ho h).mono ?_
   rintro e w' ⟨rfl, h1⟩
   exact ⟨_, _, _, rfl, ⟨YtniaijgejljjbaaGreat.RdV.on ho.a h1, RdP.nil _, RdC.nil _⟩, h1⟩
 · have e : bareO o = opN 6 o.name := by unfold bareO; rw [h]; simp [fA, fT, fN, fP, fG]
   have e2 : isK o.k = true := by rw [h]; decide
   rw [e, e2]
   refine (bare6 o va vp vc w ho h).mono ?_
   rintro e w' ⟨rfl, h1⟩
   exact ⟨_, _, _, rfl, ⟨nilA _, RdP.nil _, RdC.nil _⟩, h1⟩
 · have e : bareO o = opP 7 o.parts o.cur o.n := by unfold bareO; rw [h]; simp [fA, fT, fN, fP, fG]
   have e2 : isK o.k = true := by rw [h]; decide
   rw [e, e2]
   refine (bare7 o va vp vc w ho h).mono ?_
   rintro e w' ⟨rfl, h1⟩
   exact ⟨_, _, _, rfl, ⟨nilA _, ho.p.on h1, ho.c.on h1⟩, h1⟩
 · have e : bareO o = opG 8 o.cur o.n := by unfold bareO; rw [h]; simp [fA, fT, fN, fP, fG]
   have e2 : isK o.k = true := by rw [h]; decide
   rw [e, e2]
   refine (bare8 o va vp vc w ho h).mono ?_
   rintro e w' ⟨rfl, h1⟩
   exact ⟨_, _, _, rfl, ⟨nilA _, RdP.nil _, ho.c.on h1⟩, h1⟩
 · obtain ⟨n1, n2, n3, n4, n5, n6, n7, n8⟩ := notK h
   have e : bareO o = o0 o.k := by unfold bareO; simp [fA, fT, fN, fP, fG, n1, n2, n3, n4, n5, n6, n7, n8]
   rw [e, h]
   refine (bare0 o o.k va vp vc w ho rfl h).mono ?_
   rintro e w' ⟨rfl, h1⟩
   exact ⟨_, _, _, rfl, ⟨nilA _, RdP.nil _, RdC.nil _⟩, h1⟩
end Go.Proofs.YtniaijgejljjbaaGreat.Tlv
