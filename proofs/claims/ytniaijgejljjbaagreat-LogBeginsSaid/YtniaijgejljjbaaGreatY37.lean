/- One more item in a log. -/
import Derived.Test.YtniaijgejljjbaaGreatY36
import Derived.Test.YtniaijgejljjbaaGreatY26
import Derived.StillTailTactics
import Derived.Lib.QuietBelow
namespace Go.Proofs.YtniaijgejljjbaaGreat.Tlv
open Go.RowKit
set_option maxRecDepth 100000
set_option linter.unusedVariables false
set_option linter.unusedSimpArgs false
theorem OffK.typ {α : Type} [Inhabited α] {K : Kind α} {w w' : World} {base : Nat} {A : Option Addr} {n c : Nat} {l : List α} (h : OffK K w base A n c l) (hA : AppKept K w w' A n c) {t b : Nat} {cs : Array Value} (hk : Blk w b t cs) (ht : t ≠ K.e) : Blk w' b t cs :=
 hA.typ (fun a e => by
   obtain ⟨b, off, cur, rfl, _, h2, _⟩ := h.blk a e
   exact ⟨cur, h2⟩) hk ht
theorem OffK.lt {α : Type} [Inhabited α] {K : Kind α} {w : World} {base : Nat} {A : Option Addr} {n c : Nat} {l : List α} (h : OffK K w base A n c l) : ∀ k, (Value.slice A n c).ownBlock = some k → base ≤ k ∧ k < w.heap.size := fun k hk => by
 cases A with
 | none => simp [Value.ownBlock] at hk
 | some a =>
   obtain ⟨b, off, cur, rfl, h1, h2, _⟩ := h.blk a rfl
   have : b = k := by simpa [Value.ownBlock] using hk
   subst this
   exact ⟨h1, h2.lt⟩
set_option maxHeartbeats 8000000 in
theorem put_full {sp : Spc} (n0 g B : Nat) (P : List Rq) (x : Rq) (w : World) (h : LogP sp n0 w g B P) (hn0 : n0 ≤ w.heap.size) (hgx : x.m.Good) (hl : P.length ≤ 1000) (hs : 2097152 < sumM (means P) + x.m.sz) :
   Calls Tryz.prog 19 #[.pointer (some ⟨g, 0, none⟩), itA x] w fun e w' => e = .returned (.int .i64 10) ∧ Below w.heap.size w w' := by
 obtain ⟨xc, xn, xo, Aa, la, ca, Ap, lp, cp, Ac, lc, cc⟩ := x
 obtain ⟨⟨A, n, c, hk, hO, hsp⟩, hown, hlow, hgood, hspn⟩ := h
 obtain ⟨q, hq⟩ : ∃ q, q = sumM (means P) := ⟨_, rfl⟩
 obtain ⟨s, hsz⟩ : ∃ s, s = szQ xc xn xo := ⟨_, rfl⟩
 have hs0 : 2097152 < q + s := by rw [hq, hsz]; exact hs
 have hnl := hO.len
 have hn1 : n ≤ 1000 := by omega
 have hsf : s ≤ 300000 := by rw [hsz]; exact hgx.few
 have hqf : q ≤ 300000000 := by rw [hq]; have := sumM_few hgood; rw [means_len] at this; omega
 show Calls Tryz.prog 19 #[.pointer (some ⟨g, 0, none⟩), .agg (itCs xc xn xo (.slice Aa la ca) (.slice Ap lp cp) (.slice Ac lc cc) (szQ xc xn xo : Nat))] w _
 rw [← hsz]
 have hfr1 : FrT sp n0 (TP g) w (w.alloc (.cells (itCs xc xn xo (.slice Aa la ca) (.slice Ap lp cp) (.slice Ac lc cc) s) 61)) := (FrT.refl hn0).alloc hn0 _
 have hk1 := hk.alloc (.cells (itCs xc xn xo (.slice Aa la ca) (.slice Ap lp cp) (.slice Ac lc cc) s) 61)
 rw [← hq] at hk1
 have hO1 := hO.alloc (.cells (itCs xc xn xo (.slice Aa la ca) (.slice Ap lp cp) (.slice Ac lc cc) s) 61)
 have kI1 := Blk.new w 61 (itCs xc xn xo (.slice Aa la ca) (.slice Ap lp cp) (.slice Ac lc cc) s)
 have c2 : (w.alloc (.cells (itCs xc xn xo (.slice Aa la ca) (.slice Ap lp cp) (.slice Ac lc cc) s) 61)).cell? ⟨g, 2, none⟩ = some (.slice A n c) := hk1.cell 2
 have c3 : (w.alloc (.cells (itCs xc xn xo (.slice Aa la ca) (.slice Ap lp cp) (.slice Ac lc cc) s) 61)).cell? ⟨g, 3, none⟩ = some (.int .i64 q) := hk1.cell 3
 have f2 := hk1.frozen 2
 have d1 : ((n : Int) == 4096) = false := by simp; omega
 have d2 : decide ((2097152 : Int) < (q : Int) + (s : Int)) = true := by simp; omega
 have d3 : decide (2097152 < q + s) = true := by simp; omega
 have hb1 : Below w.heap.size w (w.alloc (.cells (itCs xc xn xo (.slice Aa la ca) (.slice Ap lp cp) (.slice Ac lc cc) s) 61)) := (Below.refl _ _).alloc (Nat.le_refl _) _
 have HB := Lib.hid hb1
 clear hfr1 hk1 hO1 kI1 hk hO hown hlow hgood hq hsz hs hgx hnl hl hb1 hn0 hsp hspn
 go_enter Tryz.func19, Tryz.ntmps19
 go_wp2_with fail
 go_quiet (fail)
 go_wp2
 go_ret
 exact ⟨rfl, below_drewN HB.out _⟩
set_option maxHeartbeats 8000000 in
theorem put_ok {sp : Spc} (n0 g B : Nat) (P : List Rq) (x : Rq) (w : World) (h : LogP sp n0 w g B P) (hn0 : n0 ≤ w.heap.size) (hx : OpOwn w n0 x.o x.va x.vp x.vc) (hgx : x.m.Good) (hl : P.length ≤ 1000) (hs : sumM (means P) + x.m.sz ≤ 2097152) :
   Calls Tryz.prog 19 #[.pointer (some ⟨g, 0, none⟩), itA x] w fun e w' => e = .returned (.int .i64 0) ∧ LogP sp n0 w' g B (P ++ [x]) ∧ FrT sp n0 (TP g) w w' := by
 obtain ⟨xc, xn, xo, Aa, la, ca, Ap, lp, cp, Ac, lc, cc⟩ := x
 obtain ⟨⟨A, n, c, hk, hO, hsp⟩, hown, hlow, hgood, hspn⟩ := h
 obtain ⟨q, hq⟩ : ∃ q, q = sumM (means P) := ⟨_, rfl⟩
 obtain ⟨s, hsz⟩ : ∃ s, s = szQ xc xn xo := ⟨_, rfl⟩
 have hs0 : q + s ≤ 2097152 := by rw [hq, hsz]; exact hs
 have hnl := hO.len
 have hn1 : n ≤ 1000 := by omega
 have hsf : s ≤ 300000 := by rw [hsz]; exact hgx.few
 have hqf : q ≤ 300000000 := by rw [hq]; have := sumM_few hgood; rw [means_len] at this; omega
 show Calls Tryz.prog 19 #[.pointer (some ⟨g, 0, none⟩), .agg (itCs xc xn xo (.slice Aa la ca) (.slice Ap lp cp) (.slice Ac lc cc) (szQ xc xn xo : Nat))] w _
 rw [← hsz]
 have hfr1 : FrT sp n0 (TP g) w (w.alloc (.cells (itCs xc xn xo (.slice Aa la ca) (.slice Ap lp cp) (.slice Ac lc cc) s) 61)) := (FrT.refl hn0).alloc hn0 _
 have hk1 := hk.alloc (.cells (itCs xc xn xo (.slice Aa la ca) (.slice Ap lp cp) (.slice Ac lc cc) s) 61)
 rw [← hq] at hk1
 have hO1 := hO.alloc (.cells (itCs xc xn xo (.slice Aa la ca) (.slice Ap lp cp) (.slice Ac lc cc) s) 61)
 have kI1 := Blk.new w 61 (itCs xc xn xo (.slice Aa la ca) (.slice Ap lp cp) (.slice Ac lc cc) s)
 have c2 : (w.alloc (.cells (itCs xc xn xo (.slice Aa la ca) (.slice Ap lp cp) (.slice Ac lc cc) s) 61)).cell? ⟨g, 2, none⟩ = some (.slice A n c) := hk1.cell 2
 have c3 : (w.alloc (.cells (itCs xc xn xo (.slice Aa la ca) (.slice Ap lp cp) (.slice Ac lc cc) s) 61)).cell? ⟨g, 3, none⟩ = some (.int .i64 q) := hk1.cell 3
 have f2 := hk1.frozen 2
 have d1 : ((n : Int) == 4096) = false := by simp; omega
 have d2 : decide ((2097152 : Int) < (q : Int) + (s : Int)) = false := by simp; omega
 have d3 : decide (2097152 < q + s) = false := by simp; omega
 have HX := Lib.hid (And.intro hk1 (And.intro hO1 (And.intro kI1 hfr1)))
 have HY := Lib.hid (And.intro hown (And.intro hx (And.intro hgood hgx)))
 have HSP := Lib.hid (And.intro hsp hspn)
 have HQ := Lib.hid (And.intro hq hsz)
 have HN := Lib.hid hnl
 have hgne : w.heap.size ≠ g := by have := hk.lt; omega
 have HLT := Lib.hid (fun k (hk : (Value.slice A n c).ownBlock = some k) => (hO.lt k hk).2)
 have hln : n + 1 ≤ 1000000000 := by omega
 clear hfr1 hk1 hO1 kI1 hk hO hown hgood hq hsz hs hx hgx hnl hl hsp hspn
 go_enter Tryz.func19, Tryz.ntmps19
 go_wp2_with fail
 go_quiet (fail)
 go_wp2_with fail
 obtain ⟨W1, hW1, hk1, hO1, kI, hfr⟩ : ∃ W1, W1 = (w.alloc (.cells (itCs xc xn xo (.slice Aa la ca) (.slice Ap lp cp) (.slice Ac lc cc) s) 61)).drewN nq ∧ Blk W1 g 65 #[.bool true, .int .u64 B, .slice A n c, .int .i64 q] ∧ OffK kIt W1 n0 A n c P ∧ Blk W1 w.heap.size 61 (itCs xc xn xo (.slice Aa la ca) (.slice Ap lp cp) (.slice Ac lc cc) s) ∧ FrT sp n0 (TP g) w W1 := ⟨_, rfl, HX.out.1, HX.out.2.1.on (below_drewN (Below.refl _ _) _), HX.out.2.2.1, HX.out.2.2.2.drewN _⟩
 rw [← hW1]
 clear hW1 c2 c3 f2 HX
 have e2 := hk1.cell 2
 have e3 := hk1.cell 3
 have ge2 := hk1.frozen 2
 have i0 := kI.cell 0
 have i1 := kI.cell 1
 have i2 := kI.cell 2
 have i3 := kI.cell 3
 have i4 := kI.cell 4
 have i5 := kI.cell 5
 have i6 := kI.cell 6
 have i7 := kI.cell 7
 have i8 := kI.cell 8
 have i9 := kI.cell 9
 simp only [List.getElem?_toArray, List.getElem?_cons_zero, List.getElem?_cons_succ] at e2 e3 i0 i1 i2 i3 i4 i5 i6 i7 i8 i9
 have HK := Lib.hid (And.intro hk1 (And.intro hO1 (And.intro kI hfr)))
 have HSZ : Hid (w.heap.size ≤ ((W1.alloc (.cells (itCs xc xn xo (.slice Aa la ca) (.slice Ap lp cp) (.slice Ac lc cc) s) 61)).drew).heap.size) := Lib.hid (by show w.heap.size ≤ (W1.alloc _).heap.size; have := hfr.bel.size; simp; omega)
 have hbW : n0 ≤ ((W1.alloc (.cells (itCs xc xn xo (.slice Aa la ca) (.slice Ap lp cp) (.slice Ac lc cc) s) 61)).drew).heap.size := by show n0 ≤ (W1.alloc _).heap.size; have := hfr.bel.size; simp; omega
 clear hk1 hO1 kI hfr
 have e2' : (W1.alloc (.cells (itCs xc xn xo (.slice Aa la ca) (.slice Ap lp cp) (.slice Ac lc cc) s) 61)).cell? ⟨g, 2, none⟩ = some (.slice A n c) := (HK.out.1.alloc _).cell 2
 have HOW : Hid (OffK kIt ((W1.alloc (.cells (itCs xc xn xo (.slice Aa la ca) (.slice Ap lp cp) (.slice Ac lc cc) s) 61)).drew) n0 A n c P) := Lib.hid (HK.out.2.1.alloc _).drew
 have HBI : Hid (Blk ((W1.alloc (.cells (itCs xc xn xo (.slice Aa la ca) (.slice Ap lp cp) (.slice Ac lc cc) s) 61)).drew) W1.heap.size 61 (kIt.cs (⟨xc, xn, xo, Aa, la, ca, Ap, lp, cp, Ac, lc, cc⟩ : Rq)).toArray) := Lib.hid (by
   show Blk ((W1.alloc (.cells (itCs xc xn xo (.slice Aa la ca) (.slice Ap lp cp) (.slice Ac lc cc) s) 61)).drew) W1.heap.size 61 #[.int .u64 xc, .int .u64 xn, .int .i64 xo.k, .string (sx xo.name), .string (sx xo.dst), .slice Aa la ca, .slice Ap lp cp, .slice Ac lc cc, .int .i64 xo.n, .int .i64 (szQ xc xn xo : Nat)]
   rw [← HQ.out.2]
   exact Blk.drew (Blk.new W1 61 (itCs xc xn xo (.slice Aa la ca) (.slice Ap lp cp) (.slice Ac lc cc) s)))
 go_region_law ((refine step_appO kIt (w := (W1.alloc (.cells (itCs xc xn xo (.slice Aa la ca) (.slice Ap lp cp) (.slice Ac lc cc) s) 61)).drew) (base := n0) (A := A) (n := n) (c := c) (l := P) (by rfl) _ _ (by rfl) (by rfl) HOW.out (⟨xc, xn, xo, Aa, la, ca, Ap, lp, cp, Ac, lc, cc⟩ : Rq) (b := W1.heap.size) (cc := 1) (by rfl) HBI.out hln hbW ?_; intro A8 n8 c8 w8 HN8 hO8 hAK8; obtain ⟨hA8, hW8⟩ := hAK8; have HW8 := Lib.hid hW8; clear hW8; have k8 := HOW.out.typ hA8 (Blk.drew (HK.out.1.alloc (.cells (itCs xc xn xo (.slice Aa la ca) (.slice Ap lp cp) (.slice Ac lc cc) s) 61))) (by decide); have e8 := k8.cell 2; have g8 := k8.frozen 2; have H8 := Lib.hid (And.intro hO8 (And.intro hA8 k8)); clear hO8 hA8 k8))
 all_goals
   have hkS : Blk (w8.setCell ⟨g, 2, none⟩ (.slice A8 n8 c8)) g 65 #[.bool true, .int .u64 B, .slice A8 n8 c8, .int .i64 q] := H8.out.2.2.set_ 2 (.slice A8 n8 c8)
   have hOS := H8.out.1.setFar (i := 2) H8.out.2.2 (by decide) (.slice A8 n8 c8)
   have hfS : FrT sp n0 (TP g) w (w8.setCell ⟨g, 2, none⟩ (.slice A8 n8 c8)) := (((HK.out.2.2.2.alloc hn0 _).drew).app HOW.out HSP.out.1 H8.out.2.1 (fun _ => .inr rfl) hn0).set H8.out.2.2 (.inl ⟨rfl, rfl⟩) (by decide) hlow _
   have kI8 := Blk.far (p := ⟨g, 2, none⟩) (Blk.grown (Blk.drew (HK.out.2.2.1.alloc (.cells (itCs xc xn xo (.slice Aa la ca) (.slice Ap lp cp) (.slice Ac lc cc) s) 61))) H8.out.2.1.grown (fun e => absurd (HLT.out _ e.symm) (Nat.lt_irrefl _))) hgne (.slice A8 n8 c8)
   generalize w8.setCell ⟨g, 2, none⟩ (.slice A8 n8 c8) = W2 at hkS hOS kI8 hfS ⊢
   have s3 := hkS.cell 3
   have fs3 := hkS.frozen 3
   have j9 := kI8.cell 9
   simp only [List.getElem?_toArray, List.getElem?_cons_zero, List.getElem?_cons_succ] at s3 j9
   have hkE : Blk (W2.setCell ⟨g, 3, none⟩ (.int .i64 (q + s))) g 65 #[.bool true, .int .u64 B, .slice A8 n8 c8, .int .i64 (q + s)] := hkS.set_ 3 (.int .i64 (q + s))
   have hOE := hOS.setFar (i := 3) hkS (by decide) (.int .i64 (q + s))
   have hfE := (hfS.set hkS (.inl ⟨rfl, rfl⟩) (by decide) hlow (.int .i64 (q + s)) (i := 3)).drew
   have HE : Hid (LogP sp n0 ((W2.setCell ⟨g, 3, none⟩ (.int .i64 (q + s)))).drew g B (P ++ [(⟨xc, xn, xo, Aa, la, ca, Ap, lp, cp, Ac, lc, cc⟩ : Rq)]) ∧ FrT sp n0 (TP g) w ((W2.setCell ⟨g, 3, none⟩ (.int .i64 (q + s)))).drew) := Lib.hid (by
     refine ⟨⟨⟨A8, n8, c8, ?_, hOE.drew, ?_⟩, ?_, hlow, ?_, Nat.le_trans HSP.out.2 hfE.bel.size⟩, hfE⟩
     · have e : ((sumM (means (P ++ [(⟨xc, xn, xo, Aa, la, ca, Ap, lp, cp, Ac, lc, cc⟩ : Rq)])) : Nat) : Int) = (q : Int) + s := by
         rw [means_app, show means [(⟨xc, xn, xo, Aa, la, ca, Ap, lp, cp, Ac, lc, cc⟩ : Rq)] = [Rq.m (⟨xc, xn, xo, Aa, la, ca, Ap, lp, cp, Ac, lc, cc⟩ : Rq)] from rfl, sumM_snoc, HQ.out.1, show (Rq.m (⟨xc, xn, xo, Aa, la, ca, Ap, lp, cp, Ac, lc, cc⟩ : Rq)).sz = szQ xc xn xo from rfl, ← HQ.out.2]
         simp
       rw [e]
       exact hkE
     · rcases HW8.out with ⟨fa, fb⟩ | ⟨bb, fa, fb⟩
       · intro b off e j h1 h2
         rw [fa] at e
         rw [fb] at h2
         exact HSP.out.1 b off e j (by have := HN8.out; omega) h2
       · intro b off e j h1 h2
         rw [fa] at e
         cases e
         exact .inl (Nat.le_trans HSP.out.2 (Nat.le_trans HSZ.out fb))
     · intro y hy
       rcases List.mem_append.1 hy with hy | hy
       · exact (HY.out.1 y hy).frT hfE (by intro b; simp [TP]) (by intro b; simp [TP]) (by intro b; simp [TP])
       · rw [List.mem_singleton] at hy
         subst hy
         exact HY.out.2.1.frT hfE (by intro b; simp [TP]) (by intro b; simp [TP]) (by intro b; simp [TP])
     · intro m hm
       rw [means_app] at hm
       rcases List.mem_append.1 hm with hm | hm
       · exact HY.out.2.2.1 m hm
       · rw [show means [(⟨xc, xn, xo, Aa, la, ca, Ap, lp, cp, Ac, lc, cc⟩ : Rq)] = [Rq.m (⟨xc, xn, xo, Aa, la, ca, Ap, lp, cp, Ac, lc, cc⟩ : Rq)] from rfl, List.mem_singleton] at hm
         subst hm
         exact HY.out.2.2.2)
   clear hkS hOS kI8 hkE hOE hfS hfE HOW HBI H8 HK
   go_wp2_with fail
   go_region
   all_goals
     go_wp2
     go_ret
     exact ⟨rfl, HE.out.1, HE.out.2⟩
theorem it_range {W : World} {B : Nat} {A : Option Addr} {l : List Rq} {k : Nat} (h : RdK kIt W B A l) (hk : k < l.length) : ∃ b off, A = some ⟨b, off, none⟩ ∧ b < B ∧ W.rangeAt b (off + k * 10) (itL (l.getD k default)) := by
 obtain ⟨b, off, e, h1, h2⟩ := h (by omega)
 exact ⟨b, off, e, h1, fun j v hv => h2 k hk j v hv⟩
theorem sum_step {l : List Rq} {k : Nat} (hk : k < l.length) : sumM (means (l.take (k + 1))) = sumM (means (l.take k)) + (l.getD k default).m.sz := by
 rw [List.take_add_one, List.getElem?_eq_getElem hk, means_app, List.getD_eq_getElem?_getD, List.getElem?_eq_getElem hk]
 exact sumM_snoc _ _
theorem means_mem {l : List Rq} {k : Nat} (hk : k < l.length) : (l.getD k default).m ∈ means l := by
 rw [List.getD_eq_getElem?_getD, List.getElem?_eq_getElem hk]
 exact List.mem_map_of_mem (List.getElem_mem hk)
theorem mem_getD {l : List Rq} {k : Nat} (hk : k < l.length) : l.getD k default ∈ l := by
 rw [List.getD_eq_getElem?_getD, List.getElem?_eq_getElem hk]
 exact List.getElem_mem hk
theorem good_take {l : List Rq} (h : ∀ m ∈ means l, m.Good) (k : Nat) : ∀ m ∈ means (l.take k), m.Good := fun m hm => h m (by rw [means_take] at hm; exact List.mem_of_mem_take hm)
theorem good_drop {l : List Rq} (h : ∀ m ∈ means l, m.Good) (k : Nat) : ∀ m ∈ means (l.drop k), m.Good := fun m hm => h m (by rw [means_drop] at hm; exact List.mem_of_mem_drop hm)
set_option maxHeartbeats 16000000 in
theorem sizeOf_any (A : Option Addr) (n c : Nat) (l : List Rq) (w : World) (hr : RdK kIt w w.heap.size A l) (hn : n = l.length) (hl : n ≤ 1000) (hg : ∀ m ∈ means l, m.Good) :
   Calls Tryz.prog 36 #[.slice A n c] w fun e w' => e = .returned (.int .i64 (sumM (means l) : Nat)) ∧ Below w.heap.size w w' := by
 have HR := Lib.hid (And.intro hr (And.intro hn hg))
 clear hr hg hn
 go_enter Tryz.func36, Tryz.ntmps36
 go_wp2_with fail
 go_loopw [3, 8] (fun s3 s8 wr => ∃ k q : Nat, s8 = .int .i64 k ∧ s3 = .int .i64 q ∧ k ≤ n ∧ q ≤ 300000 * k ∧ Hid (q = sumM (means (l.take k)) ∧ Below w.heap.size w wr)) (fun _ s8 _ => n - (intOf s8).toNat)
 case atStart => exact ⟨0, 0, rfl, rfl, Nat.zero_le _, Nat.zero_le _, Lib.hid ⟨rfl, Below.refl _ _⟩⟩
 case round =>
   obtain ⟨k, q, rfl, rfl, hk, hq, HF⟩ := hrel
   by_cases hlt : k < n
   · have hkl : k < l.length := by have := HR.out.2.1; omega
     have HS := Lib.hid (sum_step hkl)
     have hsz := (HR.out.2.2 _ (means_mem hkl)).few
     obtain ⟨b, off, rfl, hbl, hra⟩ := it_range (HR.out.1.below HF.out.2) hkl
     generalize l.getD k default = x at HS hsz hra
     obtain ⟨xc, xn, xo, Aa, la, ca, Ap, lp, cp, Ac, lc, cc⟩ := x
     obtain ⟨s, hs⟩ : ∃ s, s = szQ xc xn xo := ⟨_, rfl⟩
     have hs3 : s ≤ 300000 := by rw [hs]; exact hsz
     have hra2 : wr.rangeAt b (off + k * 10) [.int .u64 xc, .int .u64 xn, .int .i64 xo.k, .string (sx xo.name), .string (sx xo.dst), .slice Aa la ca, .slice Ap lp cp, .slice Ac lc cc, .int .i64 xo.n, .int .i64 s] := by rw [hs]; exact hra
     have HX := Lib.hid (And.intro hra2 hs)
     have k0 := Blk.new wr 61 itZ
     have HK := Lib.hid k0
     clear hra hra2 hs hsz k0
     go_upto_region 5 with (first
       | (refine wpList_load_mid rfl 61 _ rfl b (off + k * 10) rfl [.int .u64 xc, .int .u64 xn, .int .i64 xo.k, .string (sx xo.name), .string (sx xo.dst), .slice Aa la ca, .slice Ap lp cp, .slice Ac lc cc, .int .i64 xo.n, .int .i64 s] _ HX.out.1 rfl rfl (by kernel_rfl) ?_)
       | (refine wpList_store_rowTo rfl 61 _ _ rfl rfl wr.heap.size (itCs xc xn xo (.slice Aa la ca) (.slice Ap lp cp) (.slice Ac lc cc) s) rfl rfl 61 itZ HK.out (by kernel_rfl) rfl (by kernel_rfl) ?_))
     have h9 := HK.out.row (itCs xc xn xo (.slice Aa la ca) (.slice Ap lp cp) (.slice Ac lc cc) s)
     have h8 := below_setRow ((Below.refl wr.heap.size wr).alloc (Nat.le_refl _) (.cells itZ 61)) (Nat.le_refl _) (itCs xc xn xo (.slice Aa la ca) (.slice Ap lp cp) (.slice Ac lc cc) s)
     have HB := Lib.hid (HF.out.2.trans (h8.mono HF.out.2.size))
     have c9 := h9.cell 9
     simp only [List.getElem?_toArray, List.getElem?_cons_zero, List.getElem?_cons_succ] at c9
     clear h8 h9
     generalize (wr.alloc (.cells itZ 61)).setRow wr.heap.size (itCs xc xn xo (.slice Aa la ca) (.slice Ap lp cp) (.slice Ac lc cc) s) = w5 at c9 HB ⊢
     go_wp2
     go_roundw
     case rel => exact ⟨k + 1, q + s, by go_num, by go_num, by omega, by omega, Lib.hid ⟨by rw [HS.out, HF.out.1, HX.out.2]; rfl, HB.out⟩⟩
     case measure => simp [intOf]; omega
   · go_wp2
     go_ret
     exact ⟨by rw [HF.out.1, List.take_of_length_le (by have := HR.out.2.1; omega)]; rfl, HF.out.2⟩
theorem rend_is (r b k c E : Nat) (A : Option Addr) (w : World) (h : Blk w r 36 #[.int .u64 b, .slice A k c]) (hb : b ≤ 9000000000000000000) (hk : k ≤ 1000000) (hE : E = b + k) : Calls Tryz.prog 32 #[.pointer (some ⟨r, 0, none⟩)] w fun e w' => e = .returned (.int .u64 E) ∧ ∃ m, w' = w.drewN m := by
 have c0 : w.cell? ⟨r, 0, none⟩ = some (.int .u64 b) := h.cell 0
 have c1 : w.cell? ⟨r, 1, none⟩ = some (.slice A k c) := h.cell 1
 have h4 : IntKind.u64.wrap ((b : Int) + (k : Int)) = (E : Int) := by rw [IntKind.wrap_u64]; omega
 have h5 : IntKind.u64.wrap ((k : Int)) = (k : Int) := by rw [IntKind.wrap_u64]; omega
 clear h hE
 go_enter Tryz.func32, Tryz.ntmps32
 go_wp2_with fail
 go_quiet (fail)
 go_wp2
 go_ret
 exact ⟨rfl, _, rfl⟩
theorem rin_yes (r b k c i m : Nat) (A : Option Addr) (w : World) (h : Blk w r 36 #[.int .u64 b, .slice A k c]) (hb : b ≤ 9000000000000000000) (hk : k ≤ 1000000) (hm : m = b + i) (hi : i ≤ k) : Calls Tryz.prog 27 #[.pointer (some ⟨r, 0, none⟩), .int .u64 m] w fun e w' => e = .returned (.bool true) ∧ ∃ m, w' = w.drewN m := by
 have c0 : w.cell? ⟨r, 0, none⟩ = some (.int .u64 b) := h.cell 0
 obtain ⟨E, hE⟩ : ∃ E, E = b + k := ⟨_, rfl⟩
 have HE := Lib.hid (rend_is r b k c E A w h hb hk hE)
 have d1 : decide (b ≤ m) = true := by simp; omega
 have d2 : decide (m ≤ E) = true := by simp; omega
 have d3 : decide ((b : Int) ≤ m) = true := by simp; omega
 have d4 : decide ((m : Int) ≤ E) = true := by simp; omega
 clear h hE hm hi
 go_enter Tryz.func27, Tryz.ntmps27
 go_wp2_with (go_at_call 32; (with_reducible refine HE.out.mono ?_); rintro e w1 ⟨rfl, n1, rfl⟩)
 go_ret
 exact ⟨by simp_all, _, rfl⟩
theorem rin_no (r b k c m : Nat) (A : Option Addr) (w : World) (h : Blk w r 36 #[.int .u64 b, .slice A k c]) (hb : b ≤ 9000000000000000000) (hk : k ≤ 1000000) (hm : m < b ∨ b + k < m) : Calls Tryz.prog 27 #[.pointer (some ⟨r, 0, none⟩), .int .u64 m] w fun e w' => e = .returned (.bool false) ∧ ∃ m, w' = w.drewN m := by
 have c0 : w.cell? ⟨r, 0, none⟩ = some (.int .u64 b) := h.cell 0
 obtain ⟨E, hE⟩ : ∃ E, E = b + k := ⟨_, rfl⟩
 have HE := Lib.hid (rend_is r b k c E A w h hb hk hE)
 by_cases hlt : m < b
 · have d1 : decide (b ≤ m) = false := by simp; omega
   clear h hE hm
   go_enter Tryz.func27, Tryz.ntmps27
   go_wp2_with (go_at_call 32; (with_reducible refine HE.out.mono ?_); rintro e w1 ⟨rfl, n1, rfl⟩)
   go_ret
   exact ⟨by simp_all, 0, rfl⟩
 · have d1 : decide (b ≤ m) = true := by simp; omega
   have d2 : decide (m ≤ E) = false := by simp; omega
   clear h hE hm hlt
   go_enter Tryz.func27, Tryz.ntmps27
   go_wp2_with (go_at_call 32; (with_reducible refine HE.out.mono ?_); rintro e w1 ⟨rfl, n1, rfl⟩)
   go_ret
   exact ⟨by simp_all, _, rfl⟩
set_option maxHeartbeats 4000000 in
theorem rmay_any (c n : Int) (o : Opn) (va vp vc : Value) (w : World) (hl : Lim o) (ho : OpAt w o va vp vc) : Calls Tryz.prog 20 #[rqVal c n o va vp vc] w fun e w' => e = .returned (.bool (mayO o)) ∧ Below w.heap.size w w' := by
 obtain ⟨Aa, ca, na, rfl, _, _⟩ := rdv_len ho.a
 obtain ⟨Ap, cp, np, rfl⟩ := ho.p.len
 obtain ⟨Ac, cc, nc, rfl, _⟩ := ho.c.len
 have hb : Below w.heap.size w (w.alloc (.cells (rqCs c n o (.slice Aa na ca) (.slice Ap np cp) (.slice Ac nc cc)) 46)) := (Below.refl _ _).alloc (Nat.le_refl _) _
 obtain ⟨a0, a1, a2, a3, a4, a5, a6, a7, a8⟩ := rq_cells (Blk.new w 46 (rqCs c n o (.slice Aa na ca) (.slice Ap np cp) (.slice Ac nc cc)))
 have HM := Lib.hid (refMayOp_any o _ _ _ _ (ho.on hb) hl)
 have HB := Lib.hid hb
 clear hb ho hl
 go_enter Tryz.func20, Tryz.ntmps20
 go_wp2_with (go_at_call 39; (with_reducible refine HM.out.mono ?_); rintro e wx ⟨rfl, hbx⟩)
 go_ret
 exact ⟨rfl, HB.out.trans (hbx.mono HB.out.size)⟩
end Go.Proofs.YtniaijgejljjbaaGreat.Tlv
