/- An item of a request; one more in a log. -/
import Derived.Test.YtniaijgejljjbaaY39
namespace Go.Proofs.Ytniaijgejljjbaa.Tlv
open Go.RowKit
set_option maxRecDepth 100000
set_option linter.unusedVariables false
set_option linter.unusedSimpArgs false
abbrev itCs (c n : Int) (o : Opn) (va vp vc : Value) (s : Int) : Array Value := #[.int .u64 c, .int .u64 n, .int .i64 o.k, .string (sx o.name), .string (sx o.dst), va, vp, vc, .int .i64 o.n, .int .i64 s]
abbrev itZ : Array Value := #[.int .u64 0, .int .u64 0, .int .i64 0, .string ⟨#[]⟩, .string ⟨#[]⟩, .slice none 0 0, .slice none 0 0, .slice none 0 0, .int .i64 0, .int .i64 0]
abbrev itA (x : Rq) : Value := .agg (itCs x.c x.n x.o x.va x.vp x.vc (szQ x.c x.n x.o : Nat))
def ItOut (m : Mq) (w : World) (e : Ending) (w' : World) : Prop := ∃ x : Rq, x.m = m ∧ e = .returned (.tuple #[itA x, .int .i64 0]) ∧ OpOwn w' w.heap.size x.o x.va x.vp x.vc ∧ Below w.heap.size w w'
set_option maxHeartbeats 16000000 in
theorem itemOf_yes (c n : Int) (o : Opn) (va vp vc : Value) (w : World) (hg : Mq.Good ⟨c, n, o⟩) (ho : OpAt w o va vp vc) : Calls Try.prog 26 #[rqVal c n o va vp vc] w (ItOut ⟨c, n, o⟩ w) := by
 have HOR := Lib.hid (And.intro ho hg)
 obtain ⟨Aa, ca, na, rfl, _, _⟩ := rdv_len ho.a
 obtain ⟨Ap, cp, np, rfl⟩ := ho.p.len
 obtain ⟨Ac, cc, nc, rfl, _⟩ := ho.c.len
 clear ho hg
 have hb1 := (Below.refl w.heap.size w).alloc (Nat.le_refl _) (.cells (rqCs c n o (.slice Aa na ca) (.slice Ap np cp) (.slice Ac nc cc)) 42)
 have hb2 := hb1.alloc hb1.size (.cells itZ 66)
 have k0 := (Blk.new w 42 (rqCs c n o (.slice Aa na ca) (.slice Ap np cp) (.slice Ac nc cc))).alloc (.cells itZ 66)
 have k1 := Blk.new (w.alloc (.cells (rqCs c n o (.slice Aa na ca) (.slice Ap np cp) (.slice Ac nc cc)) 42)) 66 itZ
 rw [World.size_alloc] at k1
 have hsz : ((w.alloc (.cells (rqCs c n o (.slice Aa na ca) (.slice Ap np cp) (.slice Ac nc cc)) 42)).alloc (.cells itZ 66)).heap.size = w.heap.size + 1 + 1 := by simp
 obtain ⟨B1, hB1⟩ : ∃ b, b = w.heap.size := ⟨_, rfl⟩
 have H0 := Lib.hid (And.intro hb2 (And.intro (hB1 ▸ k0) (And.intro (hB1 ▸ k1) (hB1 ▸ hsz))))
 clear hb1 hb2 k0 k1 hsz
 go_enter Try.func26, Try.ntmps26
 go_upto_region 1 with fail
 rw [← hB1]
 generalize (w.alloc (.cells (rqCs c n o (.slice Aa na ca) (.slice Ap np cp) (.slice Ac nc cc)) 42)).alloc (.cells #[.int .u64 0, .int .u64 0, .int .i64 0, .string ⟨#[]⟩, .string ⟨#[]⟩, .slice none 0 0, .slice none 0 0, .slice none 0 0, .int .i64 0, .int .i64 0] 66) = W0 at H0 ⊢
 have HBB := Lib.hid hB1
 clear hB1
 have HR := Lib.hid (reqBytes_yes c n o _ _ _ W0 HOR.out.2.ok.c HOR.out.2.ok.n (HOR.out.1.on H0.out.1) HOR.out.2.ok.lim HOR.out.2.may)
 go_upto_region 4 with (first
   | (refine wpList_load_row rfl 42 _ rfl B1 rfl 42 (rqCs c n o (.slice Aa na ca) (.slice Ap np cp) (.slice Ac nc cc)) (0, 0) _ H0.out.2.1 rfl rfl (by kernel_rfl) ?_)
   | (go_at_call 40; (with_reducible refine HR.out.mono ?_); clear HR; rintro e w1 ⟨A1, n1, c1, rfl, hn1, _, hb1⟩; dsimp only; have H1 := Lib.hid (And.intro hn1 hb1); clear hn1 hb1))
 have HC := Lib.hid (copyRq c n o _ _ _ w1 (HOR.out.1.on (H0.out.1.trans (H1.out.2.mono H0.out.1.size))) HOR.out.2.ok.lim HOR.out.2.ok.cur)
 have hn1 : n1 ≤ 300000 := by rw [H1.out.1]; exact rqB_few HOR.out.2.may
 go_wp2_with (first
   | (refine wpList_load_row rfl 42 _ rfl B1 rfl 42 (rqCs c n o (.slice Aa na ca) (.slice Ap np cp) (.slice Ac nc cc)) (0, 0) _ (H0.out.2.1.on H1.out.2) rfl rfl (by kernel_rfl) ?_)
   | (go_at_call 37; (with_reducible refine HC.out.mono ?_); clear HC; rintro e w2 ⟨A2, n2, c2, A3, n3, c3, A4, n4, c4, rfl, hown, hb2⟩; dsimp only; have H2 := Lib.hid (And.intro hown hb2); clear hown hb2)
   | (refine wpList_buildTo rfl 66 _ rfl (some 18) rfl (itCs c n o (.slice A2 n2 c2) (.slice A3 n3 c3) (.slice A4 n4 c4) n1) (by kernel_rfl) ?_)
   | (refine wpList_store_rowTo rfl 66 _ _ rfl rfl (B1 + 1) (itCs c n o (.slice A2 n2 c2) (.slice A3 n3 c3) (.slice A4 n4 c4) n1) rfl rfl 66 itZ (H0.out.2.2.1.on (H1.out.2.trans (H2.out.2.mono H1.out.2.size))) (by kernel_rfl) rfl (by kernel_rfl) ?_))
 have hbX := H1.out.2.trans (H2.out.2.mono H1.out.2.size)
 have h9 := (H0.out.2.2.1.on hbX).row (itCs c n o (.slice A2 n2 c2) (.slice A3 n3 c3) (.slice A4 n4 c4) n1)
 have h8 := below_setRow (H0.out.1.trans (hbX.mono H0.out.1.size)) (show w.heap.size ≤ B1 + 1 by have := HBB.out; omega) (itCs c n o (.slice A2 n2 c2) (.slice A3 n3 c3) (.slice A4 n4 c4) n1)
 have h7 : OpOwn (w2.setRow (B1 + 1) (itCs c n o (.slice A2 n2 c2) (.slice A3 n3 c3) (.slice A4 n4 c4) n1)) w1.heap.size o (.slice A2 n2 c2) (.slice A3 n3 c3) (.slice A4 n4 c4) := H2.out.1.keep fun k h1 h2 => setRow_other _ _ k _ (by have := H0.out.2.2.2; have := H1.out.2.size; omega)
 have t0 := h9.cell 0
 have t1 := h9.cell 1
 have t2 := h9.cell 2
 have t3 := h9.cell 3
 have t4 := h9.cell 4
 have t5 := h9.cell 5
 have t6 := h9.cell 6
 have t7 := h9.cell 7
 have t8 := h9.cell 8
 have t9 := h9.cell 9
 have HF := Lib.hid (And.intro (h7.low (Nat.le_trans H0.out.1.size H1.out.2.size)) h8)
 clear h7 h8 h9 hbX
 generalize w2.setRow (B1 + 1) (itCs c n o (.slice A2 n2 c2) (.slice A3 n3 c3) (.slice A4 n4 c4) n1) = w5 at t0 t1 t2 t3 t4 t5 t6 t7 t8 t9 HF ⊢
 refine bodyPost_ret (v := .tuple #[.agg (itCs c n o (.slice A2 n2 c2) (.slice A3 n3 c3) (.slice A4 n4 c4) n1), .int .i64 0]) ?_ rfl ⟨⟨c, n, o, A2, n2, c2, A3, n3, c3, A4, n4, c4⟩, rfl, ?_, HF.out.1, HF.out.2⟩
 · simp at t0 t1 t2 t3 t4 t5 t6 t7 t8 t9
   simp [results, Try.f26, go_sem, t0, t1, t2, t3, t4, t5, t6, t7, t8, t9]
 · show _ = Ending.returned (.tuple #[.agg (itCs c n o (.slice A2 n2 c2) (.slice A3 n3 c3) (.slice A4 n4 c4) (szQ c n o : Nat)), .int .i64 0])
   rw [show szQ c n o = n1 from H1.out.1.symm]
set_option maxHeartbeats 16000000 in
theorem itemOf_no (c n : Int) (o : Opn) (va vp vc : Value) (w : World) (hg : Lim o) (ho : OpAt w o va vp vc) (hm : mayO o = false) : Calls Try.prog 26 #[rqVal c n o va vp vc] w fun e w' => e = .returned (.tuple #[.agg itZ, .int .i64 2]) ∧ Below w.heap.size w w' := by
 have HOR := Lib.hid (And.intro ho (And.intro hg hm))
 clear hm
 obtain ⟨Aa, ca, na, rfl, _, _⟩ := rdv_len ho.a
 obtain ⟨Ap, cp, np, rfl⟩ := ho.p.len
 obtain ⟨Ac, cc, nc, rfl, _⟩ := ho.c.len
 clear ho hg
 have hb1 := (Below.refl w.heap.size w).alloc (Nat.le_refl _) (.cells (rqCs c n o (.slice Aa na ca) (.slice Ap np cp) (.slice Ac nc cc)) 42)
 have hb2 := hb1.alloc hb1.size (.cells itZ 66)
 have k0 := (Blk.new w 42 (rqCs c n o (.slice Aa na ca) (.slice Ap np cp) (.slice Ac nc cc))).alloc (.cells itZ 66)
 have k1 := Blk.new (w.alloc (.cells (rqCs c n o (.slice Aa na ca) (.slice Ap np cp) (.slice Ac nc cc)) 42)) 66 itZ
 rw [World.size_alloc] at k1
 have hsz : ((w.alloc (.cells (rqCs c n o (.slice Aa na ca) (.slice Ap np cp) (.slice Ac nc cc)) 42)).alloc (.cells itZ 66)).heap.size = w.heap.size + 1 + 1 := by simp
 obtain ⟨B1, hB1⟩ : ∃ b, b = w.heap.size := ⟨_, rfl⟩
 have H0 := Lib.hid (And.intro hb2 (And.intro (hB1 ▸ k0) (And.intro (hB1 ▸ k1) (hB1 ▸ hsz))))
 clear hb1 hb2 k0 k1 hsz
 go_enter Try.func26, Try.ntmps26
 go_upto_region 1 with fail
 rw [← hB1]
 generalize (w.alloc (.cells (rqCs c n o (.slice Aa na ca) (.slice Ap np cp) (.slice Ac nc cc)) 42)).alloc (.cells #[.int .u64 0, .int .u64 0, .int .i64 0, .string ⟨#[]⟩, .string ⟨#[]⟩, .slice none 0 0, .slice none 0 0, .slice none 0 0, .int .i64 0, .int .i64 0] 66) = W0 at H0 ⊢
 have HBB := Lib.hid hB1
 clear hB1
 have HR := Lib.hid (reqBytes_no c n o _ _ _ W0 (HOR.out.1.on H0.out.1) HOR.out.2.1 HOR.out.2.2)
 go_wp2_with (first
   | (refine wpList_load_row rfl 42 _ rfl B1 rfl 42 (rqCs c n o (.slice Aa na ca) (.slice Ap np cp) (.slice Ac nc cc)) (0, 0) _ H0.out.2.1 rfl rfl (by kernel_rfl) ?_)
   | (go_at_call 40; (with_reducible refine HR.out.mono ?_); clear HR; rintro e w1 ⟨rfl, hb1⟩; dsimp only; have H1 := Lib.hid hb1; clear hb1)
   | (refine wpList_buildTo rfl 66 _ rfl (some 13) rfl itZ (by kernel_rfl) ?_)
   | (refine wpList_store_rowTo rfl 66 _ _ rfl rfl (B1 + 1) itZ rfl rfl 66 itZ (H0.out.2.2.1.on H1.out) (by kernel_rfl) rfl (by kernel_rfl) ?_))
 have h9 := (H0.out.2.2.1.on H1.out).row itZ
 have h8 := below_setRow (H0.out.1.trans (H1.out.mono H0.out.1.size)) (show w.heap.size ≤ B1 + 1 by have := HBB.out; omega) itZ
 have t0 := h9.cell 0
 have t1 := h9.cell 1
 have t2 := h9.cell 2
 have t3 := h9.cell 3
 have t4 := h9.cell 4
 have t5 := h9.cell 5
 have t6 := h9.cell 6
 have t7 := h9.cell 7
 have t8 := h9.cell 8
 have t9 := h9.cell 9
 have HF := Lib.hid h8
 clear h8 h9
 generalize w1.setRow (B1 + 1) itZ = w5 at t0 t1 t2 t3 t4 t5 t6 t7 t8 t9 HF ⊢
 refine bodyPost_ret (v := .tuple #[.agg itZ, .int .i64 2]) ?_ rfl ⟨rfl, HF.out⟩
 simp at t0 t1 t2 t3 t4 t5 t6 t7 t8 t9
 simp [results, Try.f26, go_sem, t0, t1, t2, t3, t4, t5, t6, t7, t8, t9]
theorem OffK.typ {α : Type} [Inhabited α] {K : Kind α} {w w' : World} {base : Nat} {A : Option Addr} {n c : Nat} {l : List α} (h : OffK K w base A n c l) (hA : AppKept K w w' A n c) {t b : Nat} {cs : Array Value} (hk : Blk w b t cs) (ht : t ≠ K.e) : Blk w' b t cs :=
 hA.typ (fun a e => by
   obtain ⟨b, off, cur, rfl, _, h2, _⟩ := h.blk a e
   exact ⟨cur, h2⟩) hk ht
theorem OffK.lt {α : Type} [Inhabited α] {K : Kind α} {w : World} {base : Nat} {A : Option Addr} {n c : Nat} {l : List α} (h : OffK K w base A n c l) : ∀ k, (Value.slice A n c).ownBlock = some k → base ≤ k ∧ k < w.heap.size := fun k hk => by
 cases A with
 | none => simp [Value.ownBlock] at hk
 | some a =>
   obtain ⟨b, off, cur, rfl, h1, h2, _⟩ := h.blk a rfl
   have : b = k := by simpa [Value.ownBlock] using hk
   subst this
   exact ⟨h1, h2.lt⟩
set_option maxHeartbeats 8000000 in
theorem put_full (n0 g B : Nat) (P : List Rq) (x : Rq) (w : World) (h : LogP n0 w g B P) (hn0 : n0 ≤ w.heap.size) (hgx : x.m.Good) (hl : P.length ≤ 1000) (hs : 2097152 < sumM (means P) + x.m.sz) :
   Calls Try.prog 27 #[.pointer (some ⟨g, 0, none⟩), itA x] w fun e w' => e = .returned (.int .i64 10) ∧ Below w.heap.size w w' := by
 obtain ⟨xc, xn, xo, Aa, la, ca, Ap, lp, cp, Ac, lc, cc⟩ := x
 obtain ⟨⟨A, n, c, hk, hO⟩, hown, hlow, hgood⟩ := h
 obtain ⟨q, hq⟩ : ∃ q, q = sumM (means P) := ⟨_, rfl⟩
 obtain ⟨s, hsz⟩ : ∃ s, s = szQ xc xn xo := ⟨_, rfl⟩
 have hs0 : 2097152 < q + s := by rw [hq, hsz]; exact hs
 have hnl := hO.len
 have hn1 : n ≤ 1000 := by omega
 have hsf : s ≤ 300000 := by rw [hsz]; exact hgx.few
 have hqf : q ≤ 300000000 := by rw [hq]; have := sumM_few hgood; rw [means_len] at this; omega
 show Calls Try.prog 27 #[.pointer (some ⟨g, 0, none⟩), .agg (itCs xc xn xo (.slice Aa la ca) (.slice Ap lp cp) (.slice Ac lc cc) (szQ xc xn xo : Nat))] w _
 rw [← hsz]
 have hfr1 : FrT n0 TP w (w.alloc (.cells (itCs xc xn xo (.slice Aa la ca) (.slice Ap lp cp) (.slice Ac lc cc) s) 66)) := (FrT.refl hn0).alloc hn0 _
 have hk1 := hk.alloc (.cells (itCs xc xn xo (.slice Aa la ca) (.slice Ap lp cp) (.slice Ac lc cc) s) 66)
 rw [← hq] at hk1
 have hO1 := hO.alloc (.cells (itCs xc xn xo (.slice Aa la ca) (.slice Ap lp cp) (.slice Ac lc cc) s) 66)
 have kI1 := Blk.new w 66 (itCs xc xn xo (.slice Aa la ca) (.slice Ap lp cp) (.slice Ac lc cc) s)
 have c2 : (w.alloc (.cells (itCs xc xn xo (.slice Aa la ca) (.slice Ap lp cp) (.slice Ac lc cc) s) 66)).cell? ⟨g, 2, none⟩ = some (.slice A n c) := hk1.cell 2
 have c3 : (w.alloc (.cells (itCs xc xn xo (.slice Aa la ca) (.slice Ap lp cp) (.slice Ac lc cc) s) 66)).cell? ⟨g, 3, none⟩ = some (.int .i64 q) := hk1.cell 3
 have f2 := hk1.frozen 2
 have d1 : ((n : Int) == 4096) = false := by simp; omega
 have d2 : decide ((2097152 : Int) < (q : Int) + (s : Int)) = true := by simp; omega
 have d3 : decide (2097152 < q + s) = true := by simp; omega
 have hb1 : Below w.heap.size w (w.alloc (.cells (itCs xc xn xo (.slice Aa la ca) (.slice Ap lp cp) (.slice Ac lc cc) s) 66)) := (Below.refl _ _).alloc (Nat.le_refl _) _
 have HB := Lib.hid hb1
 clear hfr1 hk1 hO1 kI1 hk hO hown hlow hgood hq hsz hs hgx hnl hl hb1 hn0
 go_enter Try.func27, Try.ntmps27
 go_wp2_with fail
 go_quiet (fail)
 go_wp2
 go_ret
 exact ⟨rfl, below_drewN HB.out _⟩
set_option maxHeartbeats 8000000 in
theorem put_ok (n0 g B : Nat) (P : List Rq) (x : Rq) (w : World) (h : LogP n0 w g B P) (hn0 : n0 ≤ w.heap.size) (hx : OpOwn w n0 x.o x.va x.vp x.vc) (hgx : x.m.Good) (hl : P.length ≤ 1000) (hs : sumM (means P) + x.m.sz ≤ 2097152) :
   Calls Try.prog 27 #[.pointer (some ⟨g, 0, none⟩), itA x] w fun e w' => e = .returned (.int .i64 0) ∧ LogP n0 w' g B (P ++ [x]) ∧ FrT n0 TP w w' := by
 obtain ⟨xc, xn, xo, Aa, la, ca, Ap, lp, cp, Ac, lc, cc⟩ := x
 obtain ⟨⟨A, n, c, hk, hO⟩, hown, hlow, hgood⟩ := h
 obtain ⟨q, hq⟩ : ∃ q, q = sumM (means P) := ⟨_, rfl⟩
 obtain ⟨s, hsz⟩ : ∃ s, s = szQ xc xn xo := ⟨_, rfl⟩
 have hs0 : q + s ≤ 2097152 := by rw [hq, hsz]; exact hs
 have hnl := hO.len
 have hn1 : n ≤ 1000 := by omega
 have hsf : s ≤ 300000 := by rw [hsz]; exact hgx.few
 have hqf : q ≤ 300000000 := by rw [hq]; have := sumM_few hgood; rw [means_len] at this; omega
 show Calls Try.prog 27 #[.pointer (some ⟨g, 0, none⟩), .agg (itCs xc xn xo (.slice Aa la ca) (.slice Ap lp cp) (.slice Ac lc cc) (szQ xc xn xo : Nat))] w _
 rw [← hsz]
 have hfr1 : FrT n0 TP w (w.alloc (.cells (itCs xc xn xo (.slice Aa la ca) (.slice Ap lp cp) (.slice Ac lc cc) s) 66)) := (FrT.refl hn0).alloc hn0 _
 have hk1 := hk.alloc (.cells (itCs xc xn xo (.slice Aa la ca) (.slice Ap lp cp) (.slice Ac lc cc) s) 66)
 rw [← hq] at hk1
 have hO1 := hO.alloc (.cells (itCs xc xn xo (.slice Aa la ca) (.slice Ap lp cp) (.slice Ac lc cc) s) 66)
 have kI1 := Blk.new w 66 (itCs xc xn xo (.slice Aa la ca) (.slice Ap lp cp) (.slice Ac lc cc) s)
 have c2 : (w.alloc (.cells (itCs xc xn xo (.slice Aa la ca) (.slice Ap lp cp) (.slice Ac lc cc) s) 66)).cell? ⟨g, 2, none⟩ = some (.slice A n c) := hk1.cell 2
 have c3 : (w.alloc (.cells (itCs xc xn xo (.slice Aa la ca) (.slice Ap lp cp) (.slice Ac lc cc) s) 66)).cell? ⟨g, 3, none⟩ = some (.int .i64 q) := hk1.cell 3
 have f2 := hk1.frozen 2
 have d1 : ((n : Int) == 4096) = false := by simp; omega
 have d2 : decide ((2097152 : Int) < (q : Int) + (s : Int)) = false := by simp; omega
 have d3 : decide (2097152 < q + s) = false := by simp; omega
 have HX := Lib.hid (And.intro hk1 (And.intro hO1 (And.intro kI1 hfr1)))
 have HY := Lib.hid (And.intro hown (And.intro hx (And.intro hgood hgx)))
 have HQ := Lib.hid (And.intro hq hsz)
 have HN := Lib.hid hnl
 have hgne : w.heap.size ≠ g := by have := hk.lt; omega
 have HLT := Lib.hid (fun k (hk : (Value.slice A n c).ownBlock = some k) => (hO.lt k hk).2)
 have hln : n + 1 ≤ 1000000000 := by omega
 clear hfr1 hk1 hO1 kI1 hk hO hown hgood hq hsz hs hx hgx hnl hl
 go_enter Try.func27, Try.ntmps27
 go_wp2_with fail
 go_quiet (fail)
 go_wp2_with fail
 obtain ⟨W1, hW1, hk1, hO1, kI, hfr⟩ : ∃ W1, W1 = (w.alloc (.cells (itCs xc xn xo (.slice Aa la ca) (.slice Ap lp cp) (.slice Ac lc cc) s) 66)).drewN nq ∧ Blk W1 g 54 #[.bool true, .int .u64 B, .slice A n c, .int .i64 q] ∧ OffK kIt W1 n0 A n c P ∧ Blk W1 w.heap.size 66 (itCs xc xn xo (.slice Aa la ca) (.slice Ap lp cp) (.slice Ac lc cc) s) ∧ FrT n0 TP w W1 := ⟨_, rfl, HX.out.1, HX.out.2.1.on (below_drewN (Below.refl _ _) _), HX.out.2.2.1, HX.out.2.2.2.drewN _⟩
 rw [← hW1]
 clear hW1 c2 c3 f2 HX
 have e2 := hk1.cell 2
 have e3 := hk1.cell 3
 have ge2 := hk1.frozen 2
 have i0 := kI.cell 0
 have i1 := kI.cell 1
 have i2 := kI.cell 2
 have i3 := kI.cell 3
 have i4 := kI.cell 4
 have i5 := kI.cell 5
 have i6 := kI.cell 6
 have i7 := kI.cell 7
 have i8 := kI.cell 8
 have i9 := kI.cell 9
 simp only [List.getElem?_toArray, List.getElem?_cons_zero, List.getElem?_cons_succ] at e2 e3 i0 i1 i2 i3 i4 i5 i6 i7 i8 i9
 have HK := Lib.hid (And.intro hk1 (And.intro hO1 (And.intro kI hfr)))
 have hbW : n0 ≤ ((W1.alloc (.cells (itCs xc xn xo (.slice Aa la ca) (.slice Ap lp cp) (.slice Ac lc cc) s) 66)).drew).heap.size := by show n0 ≤ (W1.alloc _).heap.size; have := hfr.bel.size; simp; omega
 clear hk1 hO1 kI hfr
 have e2' : (W1.alloc (.cells (itCs xc xn xo (.slice Aa la ca) (.slice Ap lp cp) (.slice Ac lc cc) s) 66)).cell? ⟨g, 2, none⟩ = some (.slice A n c) := (HK.out.1.alloc _).cell 2
 have HOW : Hid (OffK kIt ((W1.alloc (.cells (itCs xc xn xo (.slice Aa la ca) (.slice Ap lp cp) (.slice Ac lc cc) s) 66)).drew) n0 A n c P) := Lib.hid (HK.out.2.1.alloc _).drew
 have HBI : Hid (Blk ((W1.alloc (.cells (itCs xc xn xo (.slice Aa la ca) (.slice Ap lp cp) (.slice Ac lc cc) s) 66)).drew) W1.heap.size 66 (kIt.cs (⟨xc, xn, xo, Aa, la, ca, Ap, lp, cp, Ac, lc, cc⟩ : Rq)).toArray) := Lib.hid (by
   show Blk ((W1.alloc (.cells (itCs xc xn xo (.slice Aa la ca) (.slice Ap lp cp) (.slice Ac lc cc) s) 66)).drew) W1.heap.size 66 #[.int .u64 xc, .int .u64 xn, .int .i64 xo.k, .string (sx xo.name), .string (sx xo.dst), .slice Aa la ca, .slice Ap lp cp, .slice Ac lc cc, .int .i64 xo.n, .int .i64 (szQ xc xn xo : Nat)]
   rw [← HQ.out.2]
   exact Blk.drew (Blk.new W1 66 (itCs xc xn xo (.slice Aa la ca) (.slice Ap lp cp) (.slice Ac lc cc) s)))
 go_region_law ((refine step_appO kIt (w := (W1.alloc (.cells (itCs xc xn xo (.slice Aa la ca) (.slice Ap lp cp) (.slice Ac lc cc) s) 66)).drew) (base := n0) (A := A) (n := n) (c := c) (l := P) (by rfl) _ _ (by rfl) (by rfl) HOW.out (⟨xc, xn, xo, Aa, la, ca, Ap, lp, cp, Ac, lc, cc⟩ : Rq) (b := W1.heap.size) (cc := 1) (by rfl) HBI.out hln hbW ?_; intro A8 n8 c8 w8 HN8 hO8 hA8; have k8 := HOW.out.typ hA8 (Blk.drew (HK.out.1.alloc (.cells (itCs xc xn xo (.slice Aa la ca) (.slice Ap lp cp) (.slice Ac lc cc) s) 66))) (by decide); have e8 := k8.cell 2; have g8 := k8.frozen 2; have H8 := Lib.hid (And.intro hO8 (And.intro hA8 k8)); clear hO8 hA8 k8))
 all_goals
   have hkS : Blk (w8.setCell ⟨g, 2, none⟩ (.slice A8 n8 c8)) g 54 #[.bool true, .int .u64 B, .slice A8 n8 c8, .int .i64 q] := H8.out.2.2.set_ 2 (.slice A8 n8 c8)
   have hOS := H8.out.1.setFar (i := 2) H8.out.2.2 (by decide) (.slice A8 n8 c8)
   have hfS : FrT n0 TP w (w8.setCell ⟨g, 2, none⟩ (.slice A8 n8 c8)) := (((HK.out.2.2.2.alloc hn0 _).drew).app HOW.out H8.out.2.1 (.inr rfl) hn0).set H8.out.2.2 (.inl rfl) hlow _
   have kI8 := Blk.far (p := ⟨g, 2, none⟩) (Blk.grown (Blk.drew (HK.out.2.2.1.alloc (.cells (itCs xc xn xo (.slice Aa la ca) (.slice Ap lp cp) (.slice Ac lc cc) s) 66))) H8.out.2.1.grown (fun e => absurd (HLT.out _ e.symm) (Nat.lt_irrefl _))) hgne (.slice A8 n8 c8)
   generalize w8.setCell ⟨g, 2, none⟩ (.slice A8 n8 c8) = W2 at hkS hOS kI8 hfS ⊢
   have s3 := hkS.cell 3
   have fs3 := hkS.frozen 3
   have j9 := kI8.cell 9
   simp only [List.getElem?_toArray, List.getElem?_cons_zero, List.getElem?_cons_succ] at s3 j9
   have hkE : Blk (W2.setCell ⟨g, 3, none⟩ (.int .i64 (q + s))) g 54 #[.bool true, .int .u64 B, .slice A8 n8 c8, .int .i64 (q + s)] := hkS.set_ 3 (.int .i64 (q + s))
   have hOE := hOS.setFar (i := 3) hkS (by decide) (.int .i64 (q + s))
   have hfE := (hfS.set hkS (.inl rfl) hlow (.int .i64 (q + s)) (i := 3)).drew
   have HE : Hid (LogP n0 ((W2.setCell ⟨g, 3, none⟩ (.int .i64 (q + s)))).drew g B (P ++ [(⟨xc, xn, xo, Aa, la, ca, Ap, lp, cp, Ac, lc, cc⟩ : Rq)]) ∧ FrT n0 TP w ((W2.setCell ⟨g, 3, none⟩ (.int .i64 (q + s)))).drew) := Lib.hid (by
     refine ⟨⟨⟨A8, n8, c8, ?_, hOE.drew⟩, ?_, hlow, ?_⟩, hfE⟩
     · have e : ((sumM (means (P ++ [(⟨xc, xn, xo, Aa, la, ca, Ap, lp, cp, Ac, lc, cc⟩ : Rq)])) : Nat) : Int) = (q : Int) + s := by
         rw [means_app, show means [(⟨xc, xn, xo, Aa, la, ca, Ap, lp, cp, Ac, lc, cc⟩ : Rq)] = [Rq.m (⟨xc, xn, xo, Aa, la, ca, Ap, lp, cp, Ac, lc, cc⟩ : Rq)] from rfl, sumM_snoc, HQ.out.1, show (Rq.m (⟨xc, xn, xo, Aa, la, ca, Ap, lp, cp, Ac, lc, cc⟩ : Rq)).sz = szQ xc xn xo from rfl, ← HQ.out.2]
         simp
       rw [e]
       exact hkE
     · intro y hy
       rcases List.mem_append.1 hy with hy | hy
       · exact (HY.out.1 y hy).frT hfE (by unfold TP; decide) (by unfold TP; decide) (by unfold TP; decide)
       · rw [List.mem_singleton] at hy
         subst hy
         exact HY.out.2.1.frT hfE (by unfold TP; decide) (by unfold TP; decide) (by unfold TP; decide)
     · intro m hm
       rw [means_app] at hm
       rcases List.mem_append.1 hm with hm | hm
       · exact HY.out.2.2.1 m hm
       · rw [show means [(⟨xc, xn, xo, Aa, la, ca, Ap, lp, cp, Ac, lc, cc⟩ : Rq)] = [Rq.m (⟨xc, xn, xo, Aa, la, ca, Ap, lp, cp, Ac, lc, cc⟩ : Rq)] from rfl, List.mem_singleton] at hm
         subst hm
         exact HY.out.2.2.2)
   clear hkS hOS kI8 hkE hOE hfS hfE HOW HBI H8 HK
   go_wp2_with fail
   go_region
   all_goals
     go_wp2
     go_ret
     exact ⟨rfl, HE.out.1, HE.out.2⟩
end Go.Proofs.Ytniaijgejljjbaa.Tlv
