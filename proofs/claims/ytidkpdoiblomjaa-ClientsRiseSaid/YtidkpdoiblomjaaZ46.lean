/- What comes in: a result. -/
import Derived.Test.YtidkpdoiblomjaaZ43
import Derived.Test.YtidkpdoiblomjaaZ38
import Derived.Test.YtidkpdoiblomjaaZ36
import Derived.Deep.LoopGhost
namespace Go.Proofs.Ytidkpdoiblomjaa.Tlv
open Go.RowKit Go.ChangeShapes Go.WideShapes Go.Deep Go.Joins
set_option maxRecDepth 100000
set_option linter.unusedVariables false
set_option linter.unusedSimpArgs false
section
variable {H : Type} {enc : TypeId × Value → H} {w : World} {base : Nat} {spare : Nat → Bool} {held : Bool}
theorem open_res {r : Reach} {b0 : Nat} {v : Value} {d : DataW H} {p : List MemPlace} (hv : Value.okWide Try.prog w r b0 39 v) (h : DataW.Trod enc Try.prog w base spare held 39 v d p) :
   ∃ (r : Res) (ve vc : Value), v = rsVal r.k r.y ve vc ∧ (-9223372036854775808 ≤ r.k ∧ r.k ≤ 9223372036854775807) ∧ ResAt w r ve vc ∧ LimR0 r := by
 obtain ⟨cs, rfl, hsz⟩ := okWide_struct Try.underlying39 hv
 obtain ⟨fuel, hf⟩ := h
 obtain ⟨y0, y1, y2, y3, n, _, hl, h0, h1, h2, h3⟩ := trod_struct4 Try.underlying39 hf
 have e30 : Try.prog.cellsOf 35 = 1 := by kernel_rfl
 have e4 : Try.prog.cellsOf 4 = 1 := by kernel_rfl
 have e41 : Try.prog.cellsOf 36 = 1 := by kernel_rfl
 have e25 : Try.prog.cellsOf 37 = 1 := by kernel_rfl
 have e43 : Try.prog.cellsOf 39 = 4 := by kernel_rfl
 simp only [e30, e4, e41, e25] at h0 h1 h2 h3
 rw [e43] at hl
 obtain ⟨cs⟩ := cs
 simp only [Value.cells] at hl h0 h1 h2 h3
 match cs, hl with
 | [a0, a1, a2, a3], _ =>
   obtain ⟨k, z0, _, g0⟩ := DataW.trod_int Try.underlying35 h0
   obtain ⟨y, z1, _⟩ := DataW.trod_bool Try.underlying4 h1
   obtain ⟨ve, le, z2, ga, gb, gc⟩ := open_ensC h2
   obtain ⟨A, c, lc, z3, gg, gh, gi, gj, gk⟩ := open_bytesN h3
   simp at z0 z1 z2 z3
   subst z0 z1 z2 z3
   have hk : -9223372036854775808 ≤ k ∧ k ≤ 9223372036854775807 := by
     have e1 : IntKind.i64.min = -9223372036854775808 := by decide
     have e2 : IntKind.i64.max = 9223372036854775807 := by decide
     simp only [Lit.wf, e1, e2, Bool.and_eq_true, decide_eq_true_eq] at g0
     exact g0
   refine ⟨⟨k, y, le, lc⟩, _, _, rfl, hk, ⟨ga, ⟨A, c, rfl, ⟨gk, gi, gj⟩, gg⟩⟩, ⟨gb, fun e he => (gc e he).1, fun e he => (gc e he).2.1, fun e he => (gc e he).2.2, ?_, gh⟩⟩
   unfold maxLen at gj
   show lc.length ≤ _
   omega
end
end Go.Proofs.Ytidkpdoiblomjaa.Tlv
namespace Go.Proofs.Ytidkpdoiblomjaa.Tlv
theorem qroot : True := by
 have h1 := @resBytes_one
 have h2 := @refResBytes_one
 have h3 := @mayRes_any
 have h4 := @copyRes
 have h5 := @sameResP_any
 have h6 := @sameResR_any
 have h7 := @open_res
 have h8 := @fit_few
 have h9 := @ResOwn.keep
 have h10 := @ResOwn.at
 have h11 := @ResOwn.low
 have h12 := @sameR_refl
 have h13 := @res0_at
 have h14 := @res0_lim
 have h15 := @open_ensC
 have h16 := @RdE.on
 have h17 := @RdE.len
 have h18 := @RdE.full
 have h19 := @RdC.full
 have h20 := @LimR0.lim
 have h21 := @step_app
 have h22 := @wpList_appT
 have h23 := @ownE_at
 have h24 := @rs_row
 have h25 := @wpQuiet_row
 have h26 := @grown_nil
 trivial
end Go.Proofs.Ytidkpdoiblomjaa.Tlv
namespace Go.Proofs.Ytidkpdoiblomjaa.Tlv
open Go.RowKit Go.ChangeShapes Go.WideShapes Go.Deep Go.Joins
set_option maxRecDepth 100000
set_option linter.unusedVariables false
set_option linter.unusedSimpArgs false
structure ActOk (w : World) (x : Td) (r : Res) : Prop where
 k : x.k = r.k
 y : x.y = r.y
 c : InU x.c
 n : InU x.n
 at' : ResAt w r (.slice x.A x.l x.a) (.slice x.B x.l2 x.a2)
 lim : LimR0 r
theorem ActOk.on {w w' : World} {x : Td} {r : Res} (h : ActOk w x r) (hb : Below w.heap.size w w') : ActOk w' x r := ⟨h.k, h.y, h.c, h.n, h.at'.on hb, h.lim⟩
def ActsAt (w : World) (v : Value) (L : List Td) (rs : List Res) : Prop := ∃ A c, v = .slice A L.length c ∧ ((A = none → c = 0) ∧ L.length ≤ c ∧ c ≤ maxLen) ∧ RdK kX w w.heap.size A L ∧ L.length = rs.length ∧ ∀ i, i < L.length → ActOk w (L.getD i default) (rs.getD i default)
theorem ActsAt.on {w w' : World} {v : Value} {L : List Td} {rs : List Res} (h : ActsAt w v L rs) (hb : Below w.heap.size w w') : ActsAt w' v L rs := by
 obtain ⟨A, c, e, h0, h1, h2, h3⟩ := h
 exact ⟨A, c, e, h0, h1.on hb, h2, fun i hi => (h3 i hi).on hb⟩
section
variable {H : Type} {enc : TypeId × Value → H} {w : World} {base : Nat} {spare : Nat → Bool} {held : Bool}
theorem open_act {fuel : Nat} {cs : List Value} {x : DataW H × List MemPlace} (h : DataW.trod enc Try.prog w base spare held fuel 41 cs = some x) : ∃ (t : Td) (r : Res), cs = (tdCs t).toList ∧ ActOk w t r := by
 obtain ⟨y0, y1, y2, n, _, hl, h0, h1, h2⟩ := trod_struct3 Try.underlying41 h
 have e32 : Try.prog.cellsOf 32 = 1 := by kernel_rfl
 have e39 : Try.prog.cellsOf 39 = 4 := by kernel_rfl
 have e41 : Try.prog.cellsOf 41 = 6 := by kernel_rfl
 simp only [e32, e39] at h0 h1 h2
 rw [e41] at hl
 match cs, hl with
 | [a, b, c0, c1, c2, c3], _ =>
   obtain ⟨k0, z0, _, g0⟩ := DataW.trod_int Try.underlying32 h0
   obtain ⟨k1, z1, _, g1⟩ := DataW.trod_int Try.underlying32 h1
   simp at z0 z1
   subst z0 z1
   obtain ⟨x0, x1, x2, x3, n2, _, hl2, f0, f1, f2, f3⟩ := trod_struct4 Try.underlying39 h2
   have e35 : Try.prog.cellsOf 35 = 1 := by kernel_rfl
   have e4 : Try.prog.cellsOf 4 = 1 := by kernel_rfl
   have e36 : Try.prog.cellsOf 36 = 1 := by kernel_rfl
   have e37 : Try.prog.cellsOf 37 = 1 := by kernel_rfl
   simp only [e35, e4, e36, e37] at f0 f1 f2 f3
   obtain ⟨k, q0, _, p0⟩ := DataW.trod_int Try.underlying35 f0
   obtain ⟨y, q1, _⟩ := DataW.trod_bool Try.underlying4 f1
   obtain ⟨ve, le, q2, ga, gb, gc⟩ := open_ensC f2
   obtain ⟨A, cc, lc, q3, gg, gh, gi, gj, gk⟩ := open_bytesN f3
   simp at q0 q1 q2 q3
   subst q0 q1 q2 q3
   obtain ⟨Ae, ce, ne, rfl, _⟩ := ga.len
   refine ⟨⟨k0, k1, k, y, Ae, ne, ce, A, lc.length, cc⟩, ⟨k, y, le, lc⟩, rfl, ⟨rfl, rfl, wf_inU g0, wf_inU g1, ⟨ga, ⟨A, cc, rfl, ⟨gk, gi, gj⟩, gg⟩⟩, ⟨gb, fun e he => (gc e he).1, fun e he => (gc e he).2.1, fun e he => (gc e he).2.2, ?_, gh⟩⟩⟩
   unfold maxLen at gj
   show lc.length ≤ _
   omega
theorem open_actsC {fuel : Nat} {cs : List Value} {x : DataW H × List MemPlace} (hf : DataW.trod enc Try.prog w base spare held fuel 22 cs = some x) :
   ∃ (v : Value) (L : List Td) (rs : List Res), cs = [v] ∧ ActsAt w v L rs := by
 have e2 : Try.prog.cellsOf 41 = 6 := by kernel_rfl
 rcases open_slice Try.underlying22 hf with ⟨hcs, _⟩ | ⟨a, n, c, m, k, D, Pl, hcs, hb, hl, hm, hmm, hxe, hi⟩
 · exact ⟨_, [], [], hcs, none, 0, rfl, ⟨fun _ => rfl, Nat.le_refl _, Nat.zero_le _⟩, fun h => by simp at h, rfl, fun i hi => by simp at hi⟩
 · rw [e2] at hi
   have hl0 := hl
   have hm0 := hm
   have hle : n ≤ m := by rw [hmm]; split <;> omega
   have hel : ∀ i, i < n → ∃ (t : Td) (r : Res), ActOk w t r ∧ ∀ (j : Nat) (u : Value), (tdCs t).toList[j]? = some u → w.cell? (a.add (i * 6 + j)) = some u := fun i hin => by
     obtain ⟨cs', hc, ht⟩ := hi i (by omega)
     obtain ⟨t, r, rfl, hr⟩ := open_act ht
     obtain ⟨_, _, hat⟩ := World.cells?_some hc
     refine ⟨t, r, hr, fun j u hu => ?_⟩
     have hj : j < 6 := (List.getElem?_eq_some_iff.1 hu).1
     rw [← Go.Deep.add_add, hat j hj, hu]
   have hch : ∃ (L : List Td) (rs : List Res), L.length = n ∧ rs.length = n ∧ ∀ i, i < n → ActOk w (L.getD i default) (rs.getD i default) ∧ ∀ (j : Nat) (u : Value), (tdCs (L.getD i default)).toList[j]? = some u → w.cell? (a.add (i * 6 + j)) = some u := by
     clear hi hle hl hm hmm hf hcs hxe hl0
     induction n with
     | zero => exact ⟨[], [], rfl, rfl, fun i hi => by omega⟩
     | succ n ih =>
       obtain ⟨es, l, hl1, hl2, h1⟩ := ih (fun i hi => hel i (by omega))
       obtain ⟨t, r, hr, h2⟩ := hel n (by omega)
       refine ⟨es ++ [t], l ++ [r], by simp [hl1], by simp [hl2], fun i hi => ?_⟩
       rcases Nat.lt_or_ge i n with hin | hin
       · have e : (es ++ [t]).getD i default = es.getD i default := by rw [List.getD_eq_getElem?_getD, List.getD_eq_getElem?_getD, List.getElem?_append_left (by omega)]
         have e' : (l ++ [r]).getD i default = l.getD i default := by rw [List.getD_eq_getElem?_getD, List.getD_eq_getElem?_getD, List.getElem?_append_left (by omega)]
         rw [e, e']; exact h1 i hin
       · have e : (es ++ [t]).getD i default = t := by rw [List.getD_eq_getElem?_getD, List.getElem?_append_right (by omega), show i - es.length = 0 from by omega]; rfl
         have e' : (l ++ [r]).getD i default = r := by rw [List.getD_eq_getElem?_getD, List.getElem?_append_right (by omega), show i - l.length = 0 from by omega]; rfl
         rw [e, e']
         have : i = n := by omega
         subst this
         exact ⟨hr, h2⟩
   obtain ⟨L, rs, hll, hll2, hle2⟩ := hch
   refine ⟨.slice (some a) n c, L, rs, hcs, some a, c, by rw [hll], ⟨fun h => (by cases h), by rw [hll]; exact hl0, hm0⟩, fun hp => ?_, hll.trans hll2.symm, fun i hi => (hle2 i (by omega)).1⟩
   obtain ⟨b, off, spot⟩ := a
   have hc := (hle2 0 (by omega)).2 0 _ rfl
   have hspot : spot = none := by simpa [Addr.add] using World.cell?_spot hc
   subst hspot
   have hb : b < w.heap.size := World.block_lt_of_cell? w _ hc
   refine ⟨b, off, rfl, hb, fun j hj i u hu => ?_⟩
   have := (hle2 j (by omega)).2 i u hu
   rw [Addr.add_mid, ← Nat.add_assoc] at this
   exact this
end
end Go.Proofs.Ytidkpdoiblomjaa.Tlv
namespace Go.Proofs.Ytidkpdoiblomjaa.Tlv
open Go.RowKit Go.Maps
set_option maxRecDepth 100000
set_option linter.unusedVariables false
set_option linter.unusedSimpArgs false
set_option maxHeartbeats 4000000 in
theorem same1_any (n1 : Int) (r : Res) (A : Option Addr) (l k : Nat) (B : Option Addr) (l2 k2 : Nat) (A' : Option Addr) (l' k' : Nat) (B' : Option Addr) (l2' k2' : Nat) (w : World) (h1 : ResAt w r (.slice A l k) (.slice B l2 k2)) (h2 : ResAt w r (.slice A' l' k') (.slice B' l2' k2')) (hl : LimR r) :
   Calls Try.prog 28 #[.agg #[.int .u64 n1, .int .i64 r.k, .bool r.y, .slice A l k, .slice B l2 k2], .agg #[.int .u64 n1, .int .i64 r.k, .bool r.y, .slice A' l' k', .slice B' l2' k2']] w fun e w' => e = .returned (.bool true) ∧ Below w.heap.size w w' := by
 have hb := ((Below.refl w.heap.size w).alloc (Nat.le_refl _) (.cells #[.int .u64 n1, .int .i64 r.k, .bool r.y, .slice A l k, .slice B l2 k2] 70)).alloc (by simp) (.cells #[.int .u64 n1, .int .i64 r.k, .bool r.y, .slice A' l' k', .slice B' l2' k2'] 70)
 have k1 := (Blk.new w 70 #[.int .u64 n1, .int .i64 r.k, .bool r.y, .slice A l k, .slice B l2 k2]).alloc (.cells #[.int .u64 n1, .int .i64 r.k, .bool r.y, .slice A' l' k', .slice B' l2' k2'] 70)
 have kk2 := Blk.new (w.alloc (.cells #[.int .u64 n1, .int .i64 r.k, .bool r.y, .slice A l k, .slice B l2 k2] 70)) 70 #[.int .u64 n1, .int .i64 r.k, .bool r.y, .slice A' l' k', .slice B' l2' k2']
 rw [World.size_alloc] at kk2
 have HS := Lib.hid (sameResP_any r r _ _ _ _ _ (h1.on hb) (h2.on hb) hl hl)
 rw [sameR_refl] at HS
 have HB := Lib.hid (And.intro hb (And.intro k1 kk2))
 clear hb k1 kk2 h1 h2
 go_enter Try.func28, Try.ntmps28
 go_upto_region 1 with fail
 obtain ⟨W, hW⟩ : ∃ W, W = (w.alloc (.cells #[.int .u64 n1, .int .i64 r.k, .bool r.y, .slice A l k, .slice B l2 k2] 70)).alloc (.cells #[.int .u64 n1, .int .i64 r.k, .bool r.y, .slice A' l' k', .slice B' l2' k2'] 70) := ⟨_, rfl⟩
 rw [← hW] at HB HS ⊢
 clear hW
 have a0 := HB.out.2.1.cell 0
 have a1 := HB.out.2.1.cell 1
 have a2 := HB.out.2.1.cell 2
 have a3 := HB.out.2.1.cell 3
 have a4 := HB.out.2.1.cell 4
 have b0 := HB.out.2.2.cell 0
 have b1 := HB.out.2.2.cell 1
 have b2 := HB.out.2.2.cell 2
 have b3 := HB.out.2.2.cell 3
 have b4 := HB.out.2.2.cell 4
 simp only [List.getElem?_toArray, List.getElem?_cons_zero, List.getElem?_cons_succ] at a0 a1 a2 a3 a4 b0 b1 b2 b3 b4
 go_wp2_with (go_at_call 29; (with_reducible refine HS.out.mono ?_); rintro e w2 ⟨rfl, hb2⟩; dsimp only; have H2 := Lib.hid (HB.out.1.trans (hb2.mono HB.out.1.size)); clear hb2)
 go_ret
 exact ⟨rfl, H2.out⟩
end Go.Proofs.Ytidkpdoiblomjaa.Tlv
