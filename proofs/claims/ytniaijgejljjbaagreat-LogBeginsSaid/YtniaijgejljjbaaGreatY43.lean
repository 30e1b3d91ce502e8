/- A log of a base and requests. -/
import Derived.Test.YtniaijgejljjbaaGreatY41
import Derived.Test.YtniaijgejljjbaaGreatY39
namespace Go.Proofs.YtniaijgejljjbaaGreat.Tlv
open Go.RowKit
set_option maxRecDepth 100000
set_option linter.unusedVariables false
set_option linter.unusedSimpArgs false
theorem size_setCells (b : Nat) : ∀ (vs : List Value) (o : Nat) (w : World), (w.setCells b o vs).heap.size = w.heap.size
 | [], _, _ => rfl
 | v :: r, o, w => by rw [World.setCells, size_setCells b r]; simp [World.setCell]
theorem size_setMany : ∀ (vs : List Value) (o : Nat) (cs : Array Value), (setMany cs o vs).size = cs.size
 | [], _, _ => rfl
 | v :: r, o, cs => by rw [setMany, size_setMany r]; simp
section
variable {α : Type} [Inhabited α] {K : Kind α} {w : World} {base : Nat} {n c : Nat} {l : List α} {T : Nat}
theorem OffK.put (h : OffK K w base (some ⟨T, 0, none⟩) n c l) (hn : n < c) (x : α) : OffK K (w.setCells T (n * K.size) (K.cs x)) base (some ⟨T, 0, none⟩) (n + 1) c (l ++ [x]) ∧ Below T w (w.setCells T (n * K.size) (K.cs x)) := by
 have hlen := h.len
 have hl1 := K.len x
 obtain ⟨b, off, cur, e1, h3, h4, h5⟩ := h.blk _ rfl
 cases e1
 have hfit : n * K.size + K.size ≤ c * K.size := by have := Nat.mul_le_mul_right K.size hn; rw [Nat.succ_mul] at this; exact this
 have hnew : Blk (w.setCells T (n * K.size) (K.cs x)) T K.e (setMany cur (n * K.size) (K.cs x)) := Blk.many _ _ _ _ h4
 have hin : ∀ j, j < K.size → (w.setCells T (n * K.size) (K.cs x)).cell? ⟨T, n * K.size + j, none⟩ = (K.cs x)[j]? := fun j hj => by
   rw [World.cell?_setCells_in T (K.cs x) (n * K.size) w (fun q hq => by rw [h4.cell]; rw [hl1] at hq; simp; omega) j (by omega)]
   exact (List.getElem?_eq_getElem _).symm
 have hout : ∀ j, j < n * K.size → (w.setCells T (n * K.size) (K.cs x)).cell? ⟨T, j, none⟩ = w.cell? ⟨T, j, none⟩ := fun j hj =>
   World.cell?_setCells_out T (K.cs x) (n * K.size) w ⟨T, j, none⟩ (fun _ _ => .inl hj)
 refine ⟨⟨by rw [List.length_append, List.length_singleton, hlen], hn, h.cap, (fun e => by cases e), fun a e => ⟨T, 0, _, (Option.some.inj e).symm, h3, hnew, by rw [size_setMany]; exact h5⟩, fun _ => ⟨T, 0, rfl, by rw [size_setCells]; exact h4.lt, fun j hj q u hu => ?_⟩⟩, below_setCells (Nat.le_refl _) _ _ _ (Below.refl _ _)⟩
 have hq : q < K.size := by
   have := (List.getElem?_eq_some_iff.1 hu).1
   rwa [K.len] at this
 rw [List.length_append, List.length_singleton] at hj
 by_cases hjn : j < l.length
 · rw [List.getD_eq_getElem?_getD, List.getElem?_append_left hjn, ← List.getD_eq_getElem?_getD] at hu
   obtain ⟨b', off', e', _, hc'⟩ := h.rd (by omega)
   cases e'
   have h7 : (j + 1) * K.size ≤ n * K.size := Nat.mul_le_mul_right _ (by omega)
   rw [Nat.add_mul, Nat.one_mul] at h7
   rw [hout _ (by omega)]
   exact hc' j hjn q u hu
 · have hjl : j = l.length := by omega
   subst hjl
   rw [List.getD_eq_getElem?_getD, List.getElem?_append_right (Nat.le_refl _), Nat.sub_self] at hu
   rw [show 0 + l.length * K.size + q = n * K.size + q by rw [hlen]; omega, hin q hq]
   exact hu
theorem OffK.low {A : Option Addr} {base' : Nat} (h : OffK K w base A n c l) (hb : base' ≤ base) : OffK K w base' A n c l :=
 ⟨h.len, h.le, h.cap, h.nil0, fun a e => by
   obtain ⟨b, off, cur, e1, h1, h2⟩ := h.blk a e
   exact ⟨b, off, cur, e1, Nat.le_trans hb h1, h2⟩, h.rd⟩
end
theorem LogP.lowN {sp : Spc} {n0 n1 g B : Nat} {w : World} {P : List Rq} (h : LogP sp n1 w g B P) (hn : n0 ≤ n1) : LogP sp n0 w g B P := by
 obtain ⟨⟨A, n, c, hk, ho, hs⟩, h6, h7, h8, h9⟩ := h
 exact ⟨⟨A, n, c, hk, ho.low hn, hs⟩, fun x hx => (h6 x hx).low hn, Nat.le_trans hn h7, h8, h9⟩
theorem madeI (W : World) (n : Nat) (hn : n ≤ 1000) : ∃ W', (Instr.makeSlice 59 (.int .i64 (n : Int)) (.int .i64 (n : Int))).run Tryz.prog W = .ok (.slice (some ⟨W.heap.size, 0, none⟩) n n) W' ∧ OffK kIt W' W.heap.size (some ⟨W.heap.size, 0, none⟩) 0 n [] ∧ Below W.heap.size W W' ∧ W.heap.size + 1 = W'.heap.size := by
 obtain ⟨i, z, hi, h0, h1, h2, h3⟩ := info66
 have hr := run_makeSlice (P := Tryz.prog) (w := W) 59 61 i z Tryz.underlying59 hi h0 .i64 .i64 (n : Int) (n : Int) (by omega) (Int.le_refl _) (by rw [h1]; simp; omega) (by rw [h2]; omega) (by omega)
 simp only [Int.toNat_natCast] at hr
 rw [h1] at hr
 have hb : Below W.heap.size W (W.alloc (.cells (madeCells z.cells (n * 10)) 61)) := (Below.refl _ _).alloc (Nat.le_refl _) _
 exact ⟨_, hr, ⟨rfl, Nat.zero_le _, by unfold maxLen; omega, (fun e => by cases e), fun a e => ⟨W.heap.size, 0, _, (Option.some.inj e).symm, Nat.le_refl _, Blk.new W 61 _, by rw [size_madeCells]; show 0 + n * 10 ≤ n * 10; omega⟩, fun h => by simp at h⟩, hb, by simp⟩
theorem OffK.there {w : World} {base n c T : Nat} {l : List Rq} (h : OffK kIt w base (some ⟨T, 0, none⟩) n c l) (hn : n < c) : w.there T (n * 10) 10 := by
 obtain ⟨b, off, cur, e1, h3, h4, h5⟩ := h.blk _ rfl
 cases e1
 have h6 : 0 + c * 10 ≤ cur.size := h5
 exact h4.there _ _ (by omega)
theorem OffK.belowT {w w' : World} {base n c T N : Nat} {l : List Rq} (h : OffK kIt w base (some ⟨T, 0, none⟩) n c l) (hb : Below N w w') (hT : T < N) : OffK kIt w' base (some ⟨T, 0, none⟩) n c l := by
 refine ⟨h.len, h.le, h.cap, h.nil0, fun a e => ?_, fun hp => ?_⟩
 · obtain ⟨b, off, cur, e1, h3, h4, h5⟩ := h.blk a e
   cases e
   cases e1
   exact ⟨T, 0, cur, rfl, h3, h4.below hb hT, h5⟩
 · obtain ⟨b, off, e, hlt, hc⟩ := h.rd hp
   cases e
   exact ⟨T, 0, rfl, Nat.lt_of_lt_of_le hlt hb.size, fun j hj i u hu => (hb.cell (p := ⟨T, 0 + j * 10 + i, none⟩) hT).trans (hc j hj i u hu)⟩
structure Of1 (w wr : World) (n k : Nat) (M : List Mq) (P : List Rq) : Prop where
 it : OffK kIt wr w.heap.size (some ⟨w.heap.size, 0, none⟩) k n P
 mean : means P = M.take k
 own : ∀ x ∈ P, OpOwn wr (w.heap.size + 1) x.o x.va x.vp x.vc
 good : ∀ m ∈ means P, m.Good
 bel : Below w.heap.size w wr
 sz : w.heap.size + 1 ≤ wr.heap.size
theorem Of1.step {w wr W5 W7 : World} {n k : Nat} {M : List Mq} {P : List Rq} (h : Of1 w wr n k M P) (hk : k < n) (y : Rq) (hb5 : Below wr.heap.size wr W5) (hb7 : Below W5.heap.size W5 W7) (ho : OpOwn W7 W5.heap.size y.o y.va y.vp y.vc) (hg : y.m.Good) (hM : M.take (k + 1) = M.take k ++ [y.m]) :
   Of1 w (W7.setCells w.heap.size (k * 10) (itL y)) n (k + 1) M (P ++ [y]) := by
 have hb : Below wr.heap.size wr W7 := hb5.trans (hb7.mono hb5.size)
 obtain ⟨h1, h2⟩ := (h.it.on hb).put hk y
 have hsz : (W7.setCells w.heap.size (k * 10) (itL y)).heap.size = W7.heap.size := size_setCells _ _ _ _
 refine ⟨h1, by rw [means_app, h.mean, hM]; rfl, fun x hx => ?_, fun m hm => ?_, (h.bel.trans (hb.mono h.bel.size)).trans h2, by rw [hsz]; exact Nat.le_trans h.sz hb.size⟩
 · rcases List.mem_append.1 hx with hx | hx
   · exact ((h.own x hx).on hb).keep fun q hq _ => setCells_other _ q (by omega) _ _ _
   · rw [List.mem_singleton] at hx
     subst hx
     exact (ho.low (Nat.le_trans h.sz hb5.size)).keep fun q hq _ => setCells_other _ q (by omega) _ _ _
 · rw [means_app] at hm
   rcases List.mem_append.1 hm with hm | hm
   · exact h.good m hm
   · rw [show means [y] = [y.m] from rfl, List.mem_singleton] at hm
     subst hm
     exact hg
def OfOut (sp : Spc) (n0 B : Nat) (M : List Mq) (w : World) (e : Ending) (w' : World) : Prop := Below w.heap.size w w' ∧
 (((∃ m ∈ M, mayO m.o = false) ∧ e = .returned (.tuple #[.pointer none, .int .i64 2])) ∨ ((∀ m ∈ M, m.Good) ∧ 4611686018427387904 < B ∧ e = .returned (.tuple #[.pointer none, .int .i64 2])) ∨
  ((∀ m ∈ M, m.Good) ∧ B ≤ 4611686018427387904 ∧ 2097152 < sumM M ∧ e = .returned (.tuple #[.pointer none, .int .i64 10])) ∨
  ((∀ m ∈ M, m.Good) ∧ B ≤ 4611686018427387904 ∧ sumM M ≤ 2097152 ∧ ∃ g P, e = .returned (.tuple #[.pointer (some ⟨g, 0, none⟩), .int .i64 0]) ∧ means P = M ∧ LogP sp n0 w' g B P))
structure Of2 (sp : Spc) (w wq : World) (n k g B : Nat) (P : List Rq) : Prop where
 log : LogP sp (w.heap.size + 1) wq g B (P.take k)
 it : OffK kIt wq w.heap.size (some ⟨w.heap.size, 0, none⟩) n n P
 own : ∀ x ∈ P, OpOwn wq (w.heap.size + 1) x.o x.va x.vp x.vc
 bel : Below w.heap.size w wq
 sz : w.heap.size + 1 ≤ wq.heap.size
 sum : sumM (means (P.take k)) ≤ 2097152
theorem Of2.step {sp : Spc} {w wq W5 w6 : World} {n k g B : Nat} {P : List Rq} {y : Rq} (h : Of2 sp w wq n k g B P) (hb5 : Below wq.heap.size wq W5) (hy : P.take (k + 1) = P.take k ++ [y]) (hl : LogP sp (w.heap.size + 1) w6 g B (P.take k ++ [y])) (hf : FrT sp (w.heap.size + 1) (TP g) W5 w6) (hs : sumM (means (P.take k)) + y.m.sz ≤ 2097152) :
   Of2 sp w w6 n (k + 1) g B P := by
 have hf2 : FrT sp (w.heap.size + 1) (TP g) wq w6 := (FrT.of hb5 h.sz).trans hf
 refine ⟨by rw [hy]; exact hl, h.it.belowT hf2.bel (Nat.lt_succ_self _), fun x hx => (h.own x hx).frT hf2 (by intro b; simp [TP]) (by intro b; simp [TP]) (by intro b; simp [TP]), h.bel.trans (hf2.bel.mono (Nat.le_succ _)), Nat.le_trans h.sz hf2.bel.size, ?_⟩
 rw [hy, means_app, show means [y] = [y.m] from rfl, sumM_snoc]
 exact hs
set_option maxHeartbeats 32000000 in
theorem of_any {sp : Spc} (n0 B n c : Nat) (Qs : List Rq) (A : Option Addr) (w0 w : World) (hn0 : n0 = w0.heap.size) (hb0 : Below n0 w0 w) (hn : n = Qs.length) (hrs : RdS n0 w A Qs) (hat : ∀ x ∈ Qs, OpAt w0 x.o x.va x.vp x.vc) (hok : ∀ m ∈ means Qs, m.Ok) (hl : n ≤ 900) (hB : B < 18446744073709551616) (hspn : sp.N ≤ w.heap.size) :
   Calls Tryz.prog 6 #[.int .u64 B, .slice A n c] w (OfOut sp n0 B (means Qs) w) := by
 have hn0w : n0 ≤ w.heap.size := by rw [hn0]; exact hb0.size
 have HSP := Lib.hid hspn
 clear hspn
 have HQ := Lib.hid (And.intro hrs (And.intro hat (And.intro hok (And.intro hn (And.intro hn0w (And.intro hn0 hb0))))))
 obtain ⟨W1, hmk, hO, hb1, hz1⟩ := madeI w n (by omega)
 have hmk2 : (Instr.makeSlice 59 (.int .i64 (n : Int)) (.int .i64 (n : Int))).run Tryz.prog w = .ok (.slice (some ⟨w.heap.size, 0, none⟩) n n) W1 := hmk
 have H1 := Lib.hid (And.intro hO (And.intro hb1 hz1))
 clear hrs hat hok hn hn0 hb0 hO hb1 hz1 hmk hn0w
 obtain ⟨T, hT⟩ : ∃ T, T = w.heap.size := ⟨_, rfl⟩
 have HT := Lib.hid hT
 rw [← hT] at hmk2
 clear hT
 go_enter Tryz.func6, Tryz.ntmps6
 go_upto_region 3 with fail
 clear hmk2
 go_loopw [20] (fun s20 wr => ∃ k : Nat, s20 = .int .i64 k ∧ k ≤ n ∧ Hid (∃ P, Of1 w wr n k (means Qs) P)) (fun s20 _ => n - (intOf s20).toNat)
 case atStart => exact ⟨0, rfl, Nat.zero_le _, Lib.hid ⟨[], H1.out.1, rfl, (fun x hx => by cases hx), (fun m hm => by cases hm), H1.out.2.1, by rw [H1.out.2.2]; exact Nat.le_refl _⟩⟩
 case round =>
   obtain ⟨k, rfl, hkn, HF⟩ := hrel
   obtain ⟨P, hF⟩ := HF.out
   have HF2 := Lib.hid hF
   clear hF HF
   by_cases hlt : k < n
   · have hkQ : k < Qs.length := by have := HQ.out.2.2.2.1; omega
     have hki : (k : Int) < (n : Int) := by omega
     have hstep : (means Qs).take (k + 1) = (means Qs).take k ++ [(Qs.getD k default).m] := by
       rw [List.take_add_one, List.getElem?_eq_getElem (by rw [means_len]; exact hkQ), List.getD_eq_getElem?_getD, List.getElem?_eq_getElem hkQ]
       simp [means]
     have hat := (HQ.out.2.1 _ (mem_getD hkQ)).on ((HQ.out.2.2.2.2.2.1 ▸ HQ.out.2.2.2.2.2.2).trans (HF2.out.bel.mono (HQ.out.2.2.2.2.2.1 ▸ HQ.out.2.2.2.2.1)))
     have hok := HQ.out.2.2.1 _ (means_mem hkQ)
     have hmem := means_mem hkQ
     obtain ⟨b, off, rfl, hbl, hra⟩ := rq_range (HQ.out.1.frT (sp := spA) (T := TN) (FrT.of HF2.out.bel HQ.out.2.2.2.2.1) (fun _ => id)) hkQ
     generalize Qs.getD k default = x at hat hok hstep hra hmem
     obtain ⟨xc, xn, xo, Aa, la, ca, Ap, lp, cp, Ac, lc, cc⟩ := x
     have hra2 : wr.rangeAt b (off + k * 9) [.int .u64 xc, .int .u64 xn, .int .i64 xo.k, .string (sx xo.name), .string (sx xo.dst), .slice Aa la ca, .slice Ap lp cp, .slice Ac lc cc, .int .i64 xo.n] := hra
     have HK := Lib.hid (Blk.new wr 46 zQ)
     have HY := Lib.hid (And.intro hra2 (And.intro hat (And.intro hok (And.intro hstep hmem))))
     clear hra hra2 hat hok hstep hmem hbl
     go_upto_region 5 with (first
       | (refine wpList_load_mid rfl 46 _ rfl b (off + k * 9) rfl [.int .u64 xc, .int .u64 xn, .int .i64 xo.k, .string (sx xo.name), .string (sx xo.dst), .slice Aa la ca, .slice Ap lp cp, .slice Ac lc cc, .int .i64 xo.n] _ HY.out.1 rfl rfl (by kernel_rfl) ?_)
       | (refine wpList_store_rowTo rfl 46 _ _ rfl rfl wr.heap.size (rqCs xc xn xo (.slice Aa la ca) (.slice Ap lp cp) (.slice Ac lc cc)) rfl rfl 46 zQ HK.out (by kernel_rfl) rfl (by kernel_rfl) ?_))
     have h9 := HK.out.row (rqCs xc xn xo (.slice Aa la ca) (.slice Ap lp cp) (.slice Ac lc cc))
     have h8 := below_setRow ((Below.refl wr.heap.size wr).alloc (Nat.le_refl _) (.cells zQ 46)) (Nat.le_refl _) (rqCs xc xn xo (.slice Aa la ca) (.slice Ap lp cp) (.slice Ac lc cc))
     have HB := Lib.hid (And.intro h8 h9)
     clear h8 h9
     generalize (wr.alloc (.cells zQ 46)).setRow wr.heap.size (rqCs xc xn xo (.slice Aa la ca) (.slice Ap lp cp) (.slice Ac lc cc)) = W5 at HB ⊢
     cases hmay : mayO xo with
     | false =>
       have HI := Lib.hid (itemOf_no xc xn xo _ _ _ W5 HY.out.2.2.1.lim (HY.out.2.1.on HB.out.1) hmay)
       have HM := Lib.hid hmay
       clear hmay
       go_wp2_with (first
         | (refine wpList_load_row rfl 46 _ rfl wr.heap.size rfl 46 (rqCs xc xn xo (.slice Aa la ca) (.slice Ap lp cp) (.slice Ac lc cc)) (0, 0) _ HB.out.2 rfl rfl (by kernel_rfl) ?_)
         | (go_at_call 18; (with_reducible refine HI.out.mono ?_); clear HI; rintro e w2 ⟨rfl, hb2⟩; dsimp only; have H2 := Lib.hid hb2; clear hb2)
         | (refine wpList_store_rowTo rfl 61 _ _ rfl rfl w2.heap.size itZ rfl rfl 61 itZ (Blk.new w2 61 itZ) (by kernel_rfl) rfl (by kernel_rfl) ?_))
       have h8 := below_setRow ((Below.refl w2.heap.size w2).alloc (Nat.le_refl _) (.cells itZ 61)) (Nat.le_refl _) itZ
       have HE := Lib.hid (HF2.out.bel.trans ((HB.out.1.trans ((H2.out.trans (h8.mono H2.out.size)).mono HB.out.1.size)).mono HF2.out.bel.size))
       clear h8
       generalize (w2.alloc (.cells itZ 61)).setRow w2.heap.size itZ = w5 at HE ⊢
       go_ret2
       exact ⟨HE.out, .inl ⟨⟨_, HY.out.2.2.2.2, HM.out⟩, rfl⟩⟩
     | true =>
       have HG := Lib.hid (Mq.Good.mk HY.out.2.2.1 hmay)
       have HI := Lib.hid (itemOf_yes xc xn xo _ _ _ W5 HG.out (HY.out.2.1.on HB.out.1))
       clear hmay
       go_upto_region 8 with (first
         | (refine wpList_load_row rfl 46 _ rfl wr.heap.size rfl 46 (rqCs xc xn xo (.slice Aa la ca) (.slice Ap lp cp) (.slice Ac lc cc)) (0, 0) _ HB.out.2 rfl rfl (by kernel_rfl) ?_)
         | (go_at_call 18; (with_reducible refine HI.out.mono ?_); clear HI; rintro e w2 ⟨⟨yc, yn, yo, yA, yla, yca, yP, ylp, ycp, yC, ylc, ycc⟩, hxm, rfl, hxo, hb2⟩; dsimp only; have H2 := Lib.hid (And.intro hxm (And.intro hxo hb2)); clear hxm hxo hb2)
         | (refine wpList_store_rowTo rfl 61 _ _ rfl rfl w2.heap.size (itCs yc yn yo (.slice yA yla yca) (.slice yP ylp ycp) (.slice yC ylc ycc) (szQ yc yn yo : Nat)) rfl rfl 61 itZ (Blk.new w2 61 itZ) (by kernel_rfl) rfl (by kernel_rfl) ?_))
       have h9 := (Blk.new w2 61 itZ).row (itCs yc yn yo (.slice yA yla yca) (.slice yP ylp ycp) (.slice yC ylc ycc) (szQ yc yn yo : Nat))
       have h8 := below_setRow ((Below.refl w2.heap.size w2).alloc (Nat.le_refl _) (.cells itZ 61)) (Nat.le_refl _) (itCs yc yn yo (.slice yA yla yca) (.slice yP ylp ycp) (.slice yC ylc ycc) (szQ yc yn yo : Nat))
       have HC := Lib.hid (And.intro (H2.out.2.2.trans (h8.mono H2.out.2.2.size)) (And.intro h9 (H2.out.2.1.on h8)))
       clear h8 h9
       generalize (w2.alloc (.cells itZ 61)).setRow w2.heap.size (itCs yc yn yo (.slice yA yla yca) (.slice yP ylp ycp) (.slice yC ylc ycc) (szQ yc yn yo : Nat)) = W7 at HC ⊢
       have HTH : Hid (W7.there T (k * 10) 10) := Lib.hid (by rw [HT.out]; exact (HF2.out.it.on (HB.out.1.trans (HC.out.1.mono HB.out.1.size))).there hlt)
       go_upto_region 9 with (first
         | (refine wpList_load_row rfl 61 _ rfl w2.heap.size rfl 61 (itCs yc yn yo (.slice yA yla yca) (.slice yP ylp ycp) (.slice yC ylc ycc) (szQ yc yn yo : Nat)) (0, 0) _ HC.out.2.1 rfl rfl (by kernel_rfl) ?_)
         | (refine wpList_store_mid rfl 61 _ _ rfl T (k * 10) (itCs yc yn yo (.slice yA yla yca) (.slice yP ylp ycp) (.slice yC ylc ycc) (szQ yc yn yo : Nat)) rfl rfl HTH.out (by kernel_rfl) (by kernel_rfl) ?_))
       have hst := HF2.out.step hlt (⟨yc, yn, yo, yA, yla, yca, yP, ylp, ycp, yC, ylc, ycc⟩ : Rq) HB.out.1 HC.out.1 HC.out.2.2 (by rw [H2.out.1]; exact HG.out) (by rw [H2.out.1]; exact HY.out.2.2.2.1)
       rw [← HT.out] at hst
       have hst2 : Of1 w (W7.setCells T (k * 10) (Array.toList (itCs yc yn yo (.slice yA yla yca) (.slice yP ylp ycp) (.slice yC ylc ycc) (szQ yc yn yo : Nat)))) n (k + 1) (means Qs) (P ++ [(⟨yc, yn, yo, yA, yla, yca, yP, ylp, ycp, yC, ylc, ycc⟩ : Rq)]) := hst
       have HST := Lib.hid hst2
       clear hst hst2
       generalize W7.setCells T (k * 10) (Array.toList (itCs yc yn yo (.slice yA yla yca) (.slice yP ylp ycp) (.slice yC ylc ycc) (szQ yc yn yo : Nat))) = W8 at HST ⊢
       go_wp2
       go_roundw
       case rel => exact ⟨k + 1, by go_num, by omega, Lib.hid ⟨_, HST.out⟩⟩
       case measure => simp [intOf]; omega
   · have hki : ¬ (k : Int) < (n : Int) := by omega
     have hkn2 : k = n := by omega
     have HPM : Hid (means P = means Qs ∧ P.length = n) := Lib.hid (by
       have h1 := HF2.out.mean
       rw [List.take_of_length_le (by rw [means_len, ← HQ.out.2.2.2.1]; omega)] at h1
       exact ⟨h1, by rw [← means_len, h1, means_len]; exact HQ.out.2.2.2.1.symm⟩)
     have HGD : Hid (∀ m ∈ means Qs, m.Good) := Lib.hid (by rw [← HPM.out.1]; exact HF2.out.good)
     by_cases hBB : 4611686018427387904 < B
     · have d1 : decide ((4611686018427387904 : Int) < (B : Int)) = true := by simp; omega
       go_wp2
       go_ret2
       exact ⟨HF2.out.bel, .inr (.inl ⟨HGD.out, hBB, rfl⟩)⟩
     · have d1 : decide ((4611686018427387904 : Int) < (B : Int)) = false := by simp; omega
       have HBB := Lib.hid hBB
       clear hBB
       obtain ⟨W2, hW2⟩ : ∃ W2, W2 = wr.alloc (.cells #[.bool true, .int .u64 B, .slice none 0 0, .int .i64 0] 65) := ⟨_, rfl⟩
       obtain ⟨g, hg⟩ : ∃ g, g = wr.heap.size := ⟨_, rfl⟩
       have hO2 : Hid (Of2 sp w W2 n 0 g B P) := Lib.hid (by
         have hbw : Below wr.heap.size wr W2 := by rw [hW2]; exact (Below.refl _ _).alloc (Nat.le_refl _) _
         have hbk : Blk W2 g 65 #[.bool true, .int .u64 B, .slice none 0 0, .int .i64 0] := by rw [hW2, hg]; exact Blk.new wr 65 _
         refine ⟨⟨⟨none, 0, 0, hbk, OffK.empty _ _ _, SpOk.none_ (Nat.le_refl _)⟩, (fun x hx => by cases hx), by rw [hg]; exact HF2.out.sz, (fun m hm => by cases hm), Nat.le_trans HSP.out (Nat.le_trans HF2.out.bel.size hbw.size)⟩, ?_, fun x hx => (HF2.out.own x hx).on hbw, HF2.out.bel.trans (hbw.mono HF2.out.bel.size), Nat.le_trans HF2.out.sz hbw.size, Nat.zero_le _⟩
         have h := HF2.out.it.on hbw
         rwa [show k = n by omega] at h)
       clear hkn2 hkn
       go_upto_region 14 with fail
       rw [← hW2, ← hg]
       have HG2 := Lib.hid hg
       clear hW2 hg
       go_loopw [45] (fun s45 wq => ∃ j : Nat, s45 = .int .i64 j ∧ j ≤ n ∧ Hid (Of2 sp w wq n j g B P)) (fun s45 _ => n - (intOf s45).toNat)
       case atStart => exact ⟨0, rfl, Nat.zero_le _, hO2⟩
       case round =>
         rename World => wq
         obtain ⟨j, rfl, hjn, HJ⟩ := hrel
         by_cases hjl : j < n
         · have hjP : j < P.length := by rw [HPM.out.2]; exact hjl
           have hji : (j : Int) < (n : Int) := by omega
           have hown := HJ.out.own _ (mem_getD hjP)
           have hgd := HF2.out.good _ (means_mem hjP)
           have hstep : P.take (j + 1) = P.take j ++ [P.getD j default] := by
             rw [List.take_add_one, List.getElem?_eq_getElem hjP, List.getD_eq_getElem?_getD, List.getElem?_eq_getElem hjP]
             rfl
           have hsum := sum_step hjP
           obtain ⟨b, off, e5, hbl, hra⟩ := it_range HJ.out.it.rd hjP
           cases e5
           rw [← HT.out] at hra
           generalize P.getD j default = y at hown hgd hstep hra hsum
           obtain ⟨yc, yn, yo, yA, yla, yca, yP, ylp, ycp, yC, ylc, ycc⟩ := y
           rw [Nat.zero_add] at hra
           have hra2 : wq.rangeAt T (j * 10) (itL (⟨yc, yn, yo, yA, yla, yca, yP, ylp, ycp, yC, ylc, ycc⟩ : Rq)) := hra
           have HY := Lib.hid (And.intro hra2 (And.intro hown (And.intro hgd (And.intro hstep hsum))))
           have HK := Lib.hid (Blk.new wq 61 itZ)
           clear hra hra2 hown hgd hstep hsum hbl
           go_upto_region 16 with (first
             | (refine wpList_load_mid rfl 61 _ rfl T (j * 10) rfl (itL (⟨yc, yn, yo, yA, yla, yca, yP, ylp, ycp, yC, ylc, ycc⟩ : Rq)) _ HY.out.1 rfl rfl (by kernel_rfl) ?_)
             | (refine wpList_store_rowTo rfl 61 _ _ rfl rfl wq.heap.size (itCs yc yn yo (.slice yA yla yca) (.slice yP ylp ycp) (.slice yC ylc ycc) (szQ yc yn yo : Nat)) rfl rfl 61 itZ HK.out (by kernel_rfl) rfl (by kernel_rfl) ?_))
           have h9 := HK.out.row (itCs yc yn yo (.slice yA yla yca) (.slice yP ylp ycp) (.slice yC ylc ycc) (szQ yc yn yo : Nat))
           have h8 := below_setRow ((Below.refl wq.heap.size wq).alloc (Nat.le_refl _) (.cells itZ 61)) (Nat.le_refl _) (itCs yc yn yo (.slice yA yla yca) (.slice yP ylp ycp) (.slice yC ylc ycc) (szQ yc yn yo : Nat))
           have HB := Lib.hid (And.intro h8 h9)
           clear h8 h9
           generalize (wq.alloc (.cells itZ 61)).setRow wq.heap.size (itCs yc yn yo (.slice yA yla yca) (.slice yP ylp ycp) (.slice yC ylc ycc) (szQ yc yn yo : Nat)) = W5 at HB ⊢
           by_cases hfit : sumM (means (P.take j)) + Mq.sz ⟨yc, yn, yo⟩ ≤ 2097152
           · have HP := Lib.hid (put_ok (w.heap.size + 1) g B (P.take j) (⟨yc, yn, yo, yA, yla, yca, yP, ylp, ycp, yC, ylc, ycc⟩ : Rq) W5 (HJ.out.log.on HB.out.1 HJ.out.sz) (Nat.le_trans HJ.out.sz HB.out.1.size) (HY.out.2.1.on HB.out.1) HY.out.2.2.1 (by rw [List.length_take]; omega) hfit)
             have HFI := Lib.hid hfit
             clear hfit
             go_wp2_with (first
               | (refine wpList_load_row rfl 61 _ rfl wq.heap.size rfl 61 (itCs yc yn yo (.slice yA yla yca) (.slice yP ylp ycp) (.slice yC ylc ycc) (szQ yc yn yo : Nat)) (0, 0) _ HB.out.2 rfl rfl (by kernel_rfl) ?_)
               | (go_at_call 19; (with_reducible refine HP.out.mono ?_); clear HP; rintro e w6 ⟨rfl, hl6, hf6⟩; dsimp only; have H6 := Lib.hid (HJ.out.step HB.out.1 HY.out.2.2.2.1 hl6 hf6 HFI.out); clear hl6 hf6))
             go_roundw
             case rel => exact ⟨j + 1, by go_num, by omega, H6⟩
             case measure => simp [intOf]; omega
           · have HP := Lib.hid (put_full (w.heap.size + 1) g B (P.take j) (⟨yc, yn, yo, yA, yla, yca, yP, ylp, ycp, yC, ylc, ycc⟩ : Rq) W5 (HJ.out.log.on HB.out.1 HJ.out.sz) (Nat.le_trans HJ.out.sz HB.out.1.size) HY.out.2.2.1 (by rw [List.length_take]; omega) (Nat.lt_of_not_le hfit))
             have HFI := Lib.hid hfit
             clear hfit
             go_wp2_with (first
               | (refine wpList_load_row rfl 61 _ rfl wq.heap.size rfl 61 (itCs yc yn yo (.slice yA yla yca) (.slice yP ylp ycp) (.slice yC ylc ycc) (szQ yc yn yo : Nat)) (0, 0) _ HB.out.2 rfl rfl (by kernel_rfl) ?_)
               | (go_at_call 19; (with_reducible refine HP.out.mono ?_); clear HP; rintro e w6 ⟨rfl, hb6⟩; dsimp only; have H6 := Lib.hid (HJ.out.bel.trans ((HB.out.1.trans (hb6.mono HB.out.1.size)).mono HJ.out.bel.size)); clear hb6))
             go_ret2
             refine ⟨H6.out, .inr (.inr (.inl ⟨HGD.out, Nat.le_of_not_lt HBB.out, ?_, rfl⟩))⟩
             have h1 : sumM (means P) = sumM (means Qs) := by rw [HPM.out.1]
             have h2 := sumM_take (means P) (j + 1)
             rw [← means_take, HY.out.2.2.2.2] at h2
             have h3 := HFI.out
             have h4 : (Rq.m (⟨yc, yn, yo, yA, yla, yca, yP, ylp, ycp, yC, ylc, ycc⟩ : Rq)).sz = Mq.sz ⟨yc, yn, yo⟩ := rfl
             rw [h4] at h2
             omega
         · have hji : ¬ (j : Int) < (n : Int) := by omega
           have hjP : P.take j = P := List.take_of_length_le (by rw [HPM.out.2]; omega)
           have HE := Lib.hid (And.intro HJ.out.sum HJ.out.log)
           rw [hjP] at HE
           clear hjP
           go_wp2
           go_ret2
           exact ⟨HJ.out.bel, .inr (.inr (.inr ⟨HGD.out, Nat.le_of_not_lt HBB.out, by rw [← HPM.out.1]; exact HE.out.1, g, P, rfl, HPM.out.1, HE.out.2.lowN (Nat.le_succ_of_le HQ.out.2.2.2.2.1)⟩))⟩
end Go.Proofs.YtniaijgejljjbaaGreat.Tlv
