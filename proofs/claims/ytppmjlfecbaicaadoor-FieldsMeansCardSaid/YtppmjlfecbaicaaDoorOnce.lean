/- once: goes over the lines of a text, up to a number of them. -/
import Derived.Test.YtppmjlfecbaicaaDoorLinI
import Derived.Test.YtppmjlfecbaicaaDoorRefL
namespace Go.Proofs.YtppmjlfecbaicaaDoor
open Go.RowKit Go.Shelf
set_option linter.unusedVariables false
set_option linter.unusedSimpArgs false
attribute [local go_sem] Oper.semAt_some
attribute [local go_sem] wide_fn

theorem eql_nil_func (f : Fn) (c : Array Value) (W : World) : (binOp BinOp.eql 47 (Value.func f #[] c) Value.nilFunc).run Tryd.prog W = .ok (.bool false) W := rfl

/-- What once's own variables hold. -/
structure OI (B Bi : Nat) (sl : Value) (most : Int) (rb : Bool) (i : Nat) (W : World) : Prop where
  b0 : Blk W B 23 #[sl]
  b1 : Blk W (B + 1) 3 #[.int .i64 most]
  b2 : Blk W (B + 1 + 1) 4 #[.bool rb]
  b4 : Blk W Bi 3 #[.int .i64 i]
  lo : B + 1 + 1 < Bi

theorem OI.stays {B Bi : Nat} {sl : Value} {most : Int} {rb : Bool} {i B0 : Nat} {W W' : World} {row : Option Nat} (h : OI B Bi sl most rb i W) (hg : W.grownBy W' row) (hr : ∀ r, row = some r → B0 ≤ r ∧ ∃ o : Obj, W.heap[r]? = some o ∧ privO noT o = true) : OI B Bi sl most rb i W' :=
  ⟨blk_stays (pv := noT) rfl h.b0 hg hr, blk_stays (pv := noT) rfl h.b1 hg hr, blk_stays (pv := noT) rfl h.b2 hg hr, blk_stays (pv := noT) rfl h.b4 hg hr, h.lo⟩
theorem OI.setI {B Bi : Nat} {sl : Value} {most : Int} {rb : Bool} {i : Nat} {W : World} (h : OI B Bi sl most rb i W) (i' : Int) (k : Nat) (e : i' = k) : OI B Bi sl most rb k (W.setCell ⟨Bi, 0, none⟩ (.int .i64 i')) := by
  subst e
  have := h.lo
  exact ⟨h.b0.far (by simp; omega) _, h.b1.far (by simp; omega) _, h.b2.far (by simp; omega) _, by simpa using h.b4.set_ 0 (.int .i64 k), this⟩
theorem rd_stays {α : Type} [Inhabited α] {K : Kind α} {B0 : Nat} {W W' : World} {row : Option Nat} {A : Option Addr} {l : List α} (h : RdK K W W.heap.size A l) (hg : W.grownBy W' row) (hr : ∀ r, row = some r → B0 ≤ r ∧ ∃ o : Obj, W.heap[r]? = some o ∧ privO noT o = true) : RdK K W' W'.heap.size A l := fun hp => by
  obtain ⟨b, off, e, hlt, hc⟩ := h hp
  have hne : some b ≠ row := fun er => by
    obtain ⟨_, o, ho, hpo⟩ := hr b er.symm
    have hk : 0 < (K.cs (l.getD 0 default)).length := by rw [K.len]; exact K.pos
    have h0 := hc 0 hp 0 _ (List.getElem?_eq_getElem hk)
    unfold World.cell? at h0
    simp only [ho] at h0
    cases o <;> simp_all [privO, noT]
  exact ⟨b, off, e, Nat.lt_of_lt_of_le hlt hg.size, fun j hj i u hu => (World.cell?_of_block (w := W) (a := ⟨b, off + j * K.size + i, none⟩) (hg.block b hlt hne)).trans (hc j hj i u hu)⟩
theorem blk_put {W : World} {b D : Nat} {t : TypeId} {cs : Array Value} (h : Blk W b t cs) (hne : b ≠ D) (o : Obj) : Blk (W.putObj D o) b t cs := (World.putObj_heap_other hne).trans h
theorem below_put {B D : Nat} {w W : World} (h : Below B w W) (hB : B ≤ W.heap.size) (hD : B ≤ D) (o : Obj) : Below B w (W.putObj D o) := h.grown (grownBy_putObj' W D o) hB (fun k e => by cases e; exact hD)
theorem hand_at {hs : List Rec} {pre : List Hand} {x : Hand} {rest : List (Nat × List ByteArray)} (h : hs.map Rec.it = (pre ++ [x]).map Hand.it ++ rest) : pre.length < hs.length ∧ (hs.getD pre.length default).it = x.it := by
  have hl := congrArg List.length h
  simp at hl
  have hlt : pre.length < hs.length := by omega
  refine ⟨hlt, ?_⟩
  have := congrArg (fun z => z[pre.length]?) h
  simp [List.getElem?_map, List.getElem?_append, List.getElem?_eq_getElem hlt] at this
  simpa [List.getD_eq_getElem?_getD, List.getElem?_eq_getElem hlt] using this
def GoodR (w : World) (B : Nat) (hs : List Rec) : Prop := ∀ x ∈ hs, RdK kS w B x.A x.fs

set_option maxRecDepth 100000 in
set_option maxHeartbeats 8000000 in
theorem once_any (l : List UInt8) (hl : l.length ≤ 1000000) (m : Int) (Aw : Option Addr) (cw : Nat) (hs : List Rec) (most : Int) (w : World) (hhs : hs.length ≤ 10000000) (hm : w.cell? ⟨0, 0, none⟩ = some (.int .i64 m)) (hw0 : 0 < w.heap.size)
    (hw : RdK kL w w.heap.size Aw hs) (hit : hs.map Rec.it = linesV l) (hgood : GoodR w w.heap.size hs) (hbig : ∀ x ∈ hs, x.fs.length ≤ 10000000) :
    Calls Tryd.prog 8 #[.string (mk l), .slice Aw hs.length cw, .int .i64 most] w fun e w' => e = .returned (.bool true) ∧ Below w.heap.size w w' := by
  refine (callsIn_wide (n := 6)).1 ?_
  refine callsIn_of_wp_marks Tryd.func8 rfl trivial ?_ rfl
  refine wpIn_wide.2 ?_
  simp only [Tryd.ntmps8, List.size_toArray, List.length_cons, List.length_nil, Nat.reduceAdd, Nat.reduceSub, Array.replicate_succ, Array.replicate_zero, List.push_toArray, List.append_toArray, List.nil_append, List.cons_append]
  generalize hQ : bodyPostM _ _ _ _ _ = Q'
  have HQ := Lib.hid hQ
  clear hQ
  have b0 := ((Blk.new w 23 #[.slice Aw hs.length cw]).alloc (.cells #[.int .i64 most] 3)).alloc (.cells #[.bool false] 4)
  have b1 := (Blk.new (w.alloc (.cells #[.slice Aw hs.length cw] 23)) 3 #[.int .i64 most]).alloc (.cells #[.bool false] 4)
  have b2 := Blk.new ((w.alloc (.cells #[.slice Aw hs.length cw] 23)).alloc (.cells #[.int .i64 most] 3)) 4 #[.bool false]
  simp only [World.size_alloc] at b1 b2
  have hB0 : Below w.heap.size w (((w.alloc (.cells #[.slice Aw hs.length cw] 23)).alloc (.cells #[.int .i64 most] 3)).alloc (.cells #[.bool false] 4)) :=
    (((Below.refl _ w).alloc (Nat.le_refl _) _).alloc (by simp) _).alloc (by simp; omega) _
  have HA := Lib.hid (lines_any l (((w.alloc (.cells #[.slice Aw hs.length cw] 23)).alloc (.cells #[.int .i64 most] 3)).alloc (.cells #[.bool false] 4)))
  have H := Lib.hid (And.intro b0 (And.intro b1 (And.intro b2 hB0)))
  have HW := Lib.hid hw
  have HG := Lib.hid hgood
  have HI := Lib.hid hit
  have HM := Lib.hid hm
  have HBIG := Lib.hid hbig
  clear b0 b1 b2 hB0 hw hgood hit hm hbig
  go_wp2_with fail
  refine HA.out.mono ?_
  clear HA
  rintro e w1 ⟨rfl, hbB, hb1⟩
  obtain ⟨b0, b1, b2, hB0⟩ := H.out
  have hB1 : Below w.heap.size w w1 := hB0.trans (hb1.mono hB0.size)
  have b0 := b0.on hb1
  have b1 := b1.on hb1
  have b2 := b2.on hb1
  simp only [World.size_alloc] at hbB
  have hnf := eql_nil_func (.func 31) #[.pointer (some ⟨w.heap.size + 1 + 1 + 1, 0, none⟩)]
  clear H hB0 hb1
  have H := Lib.hid (And.intro b0 (And.intro b1 (And.intro b2 (And.intro hB1 hbB))))
  clear b0 b1 b2 hB1 hbB
  go_wp2_with fail
  obtain ⟨b0, b1, b2, hB1, hbB⟩ := H.out
  clear H hnf
  have b4 := Blk.new w1 3 #[.int .i64 0]
  have h01 : Below w1.heap.size w1 (w1.alloc (.cells #[.int .i64 0] 3)) := (Below.refl _ _).alloc (Nat.le_refl _) _
  have hO : OI w.heap.size w1.heap.size (.slice Aw hs.length cw) most false 0 (w1.alloc (.cells #[.int .i64 0] 3)) := ⟨b0.alloc _, b1.alloc _, b2.alloc _, b4, b2.lt⟩
  have hB2 : Below w.heap.size w (w1.alloc (.cells #[.int .i64 0] 3)) := hB1.trans (h01.mono hB1.size)
  have hsz : (w1.alloc (.cells #[.int .i64 0] 3)).heap.size = w1.heap.size + 1 := by simp
  have hbB2 := hbB.alloc (.cells #[.int .i64 0] 3)
  have hle1 := hB1.size
  have hm2 : (w1.alloc (.cells #[.int .i64 0] 3)).cell? ⟨0, 0, none⟩ = some (.int .i64 m) := (hB2.cell (p := ⟨0, 0, none⟩) hw0).trans HM.out
  clear b0 b1 b2 b4 h01 hbB
  generalize w1.alloc (.cells #[.int .i64 0] 3) = W0 at *
  refine (wpIn_wide (n := 6)).1 ?_
  refine range_T (pv := noT) (n₀ := w1.heap.size) (ty := tyF) (by omega) (gf := 31) (lb := #[.pointer (some ⟨w.heap.size + 1 + 1 + 1, 0, none⟩)]) rfl (enters_of Tryd.func31 (by kernel_rfl) rfl)
    (lin_T w1.heap.size l hl m _ (by omega) _ W0 hbB2 hm2 (by omega) (by omega)) (Below.refl _ _) (by omega) (fun _ => rfl)
    (fun pre W => OI w.heap.size w1.heap.size (.slice Aw hs.length cw) most false pre.length W ∧ Below w.heap.size w W)
    (fun cd pre W => cd = .ret ∧ Blk W (w.heap.size + 1 + 1) 4 #[.bool true] ∧ Below w.heap.size w W)
    ?stI ?stX ⟨hO, hB2⟩
    (fun x a' W => RdK kS W W.heap.size (some ⟨x.g, 0, none⟩) x.fs ∧ a' = { tmps := #[.string (mk l), .slice Aw hs.length cw, .int .i64 most, undef, .pointer (some ⟨w.heap.size, 0, none⟩), .pointer (some ⟨w.heap.size + 1, 0, none⟩), .pointer (some ⟨w.heap.size + 1 + 1, 0, none⟩),
      .func (.func 31) #[] #[.pointer (some ⟨w.heap.size + 1 + 1 + 1, 0, none⟩)], .pointer (some ⟨w1.heap.size, 0, none⟩), .int .i64 (x.n : Int), .slice (some ⟨x.g, 0, none⟩) x.fs.length x.fs.length, undef, .string (mk l), .func (.func 31) #[] #[.pointer (some ⟨w.heap.size + 1 + 1 + 1, 0, none⟩)], .func (.func 31) #[] #[.pointer (some ⟨w.heap.size + 1 + 1 + 1, 0, none⟩)], .bool false, .func (.func 31) #[] #[.pointer (some ⟨w.heap.size + 1 + 1 + 1, 0, none⟩)],
      .int .i64 (x.n : Int), .slice (some ⟨x.g, 0, none⟩) x.fs.length x.fs.length, undef, undef, undef, undef, undef, undef, undef, undef, undef, undef, undef, undef, undef, undef, undef, undef, undef, undef, undef, undef, undef, undef, undef, undef, undef, undef, undef, undef, undef, undef, undef, undef, undef, undef, undef, undef, undef, undef, undef, undef, undef, undef, undef, undef, undef, undef, undef, undef, undef, undef, undef, undef], defers := [] })
    ?stA ?assign ?body ?done ?stop
  case stI =>
    intro pre X Y row hs' hg hr
    exact ⟨hs'.1.stays hg hr, hs'.2.grown hg hs'.2.size (fun k hk => by have := (hr k hk).1; omega)⟩
  case stX =>
    intro cd pre X Y row hs' hg hr
    exact ⟨hs'.1, blk_stays (pv := noT) rfl hs'.2.1 hg hr, hs'.2.2.grown hg hs'.2.2.size (fun k hk => by have := (hr k hk).1; omega)⟩
  case stA =>
    intro x a' _ X Y row hs' hg hr
    exact ⟨rd_stays hs'.1 hg hr, hs'.2⟩
  case assign =>
    intro lb' pre x Wp K hI hG hK
    gi_wp2
    exact hK _ _ (KP.refl _) hI ⟨hG, rfl⟩
  case body =>
    rintro lb' pre x a' Wp hlb' ⟨r, hr⟩ ⟨hI, hBx⟩ ⟨hrd, rfl⟩ ⟨rest, hpre⟩
    obtain ⟨hlt, hat⟩ := hand_at (HI.out.trans hpre)
    have hym : hs.getD pre.length default ∈ hs := by rw [List.getD_eq_getElem?_getD, List.getElem?_eq_getElem hlt]; exact List.getElem_mem hlt
    have hg := HG.out _ hym
    have hbg := HBIG.out _ hym
    obtain ⟨bw, offw, rfl, hbw, hcw⟩ := HW.out (by omega)
    have y0 := (hBx.cell (p := ⟨bw, offw + pre.length * 2 + 0, none⟩) hbw).trans (hcw pre.length hlt 0 _ rfl)
    have y1 := (hBx.cell (p := ⟨bw, offw + pre.length * 2 + 1, none⟩) hbw).trans (hcw pre.length hlt 1 _ rfl)
    have hgr := hg.below hBx
    generalize hs.getD pre.length default = y at *
    obtain ⟨yn, yA, yc, F⟩ := y
    obtain ⟨xn, g, fs⟩ := x
    simp only [Hand.it, Rec.it, Prod.mk.injEq] at hat
    obtain ⟨rfl, rfl⟩ := hat
    simp only [Nat.add_zero] at y0 y1 hgr hrd hbg
    have c0 : Wp.cell? ⟨w.heap.size, 0, none⟩ = some (.slice (some ⟨bw, offw, none⟩) hs.length cw) := hI.b0.cell 0
    have c1 : Wp.cell? ⟨w.heap.size + 1, 0, none⟩ = some (.int .i64 most) := hI.b1.cell 0
    have c2 : Wp.cell? ⟨w.heap.size + 1 + 1, 0, none⟩ = some (.bool false) := hI.b2.cell 0
    have f2 := hI.b2.frozen 0
    have c4 : Wp.cell? ⟨w1.heap.size, 0, none⟩ = some (.int .i64 pre.length) := hI.b4.cell 0
    have f4 := hI.b4.frozen 0
    have hge : decide (hs.length ≤ pre.length) = false := by simp; omega
    have HX := Lib.hid (And.intro hI (And.intro hBx (And.intro hrd hgr)))
    have hlen : Hid ((pre ++ [(⟨yn, g, F⟩ : Hand)]).length = pre.length + 1) := Lib.hid (by simp)
    clear hI hBx hrd hgr hg hpre hcw hym
    generalize hk : pre.length = k at *
    have Hk := Lib.hid hk
    clear hk
    obtain ⟨nF, hnF⟩ : ∃ nF, F.length = nF := ⟨_, rfl⟩
    have HNF := Lib.hid hnF
    simp only [Rec.v, hnF] at y1 hbg
    simp only [hnF]
    clear hnF
    gi_wp2
    gi_loopw [11] (fun i wr => ∃ (j q : Nat), i = .int .i64 j ∧ j ≤ nF ∧ wr = Wp.drewN q) (fun i _ => nF - (intOf i).toNat)
    case atStart => exact ⟨0, 0, rfl, Nat.zero_le _, rfl⟩
    case round =>
      obtain ⟨j, q, rfl, hj, rfl⟩ := hrel
      by_cases hjn : j < nF
      · have hjF : j < F.length := by rw [HNF.out]; exact hjn
        obtain ⟨bx, ox, ex, hbx, x0⟩ := str_cell HX.out.2.2.1 (Below.refl _ _) hjF
        injection ex with ex
        injection ex with ex1 ex2
        subst ex1 ex2
        obtain ⟨by', oy, rfl, hby, x1⟩ := str_cell HX.out.2.2.2 (Below.refl _ _) hjF
        generalize F.getD j default = s at *
        simp only [Nat.zero_add] at x0
        clear hjF
        gi_wp2
        refine quiet_round lb' rfl (by kernel_rfl) (by kernel_rfl) (by kernel_rfl) ?_
        repeat (gi_big_quiet_step (fail))
        refine wpQuietIn_nil ?_
        intro _ hw'
        obtain ⟨nq, hw''⟩ := hw'
        subst hw''
        gi_wp2
        go_roundw
        case rel => exact ⟨j + 1, q + nq, by go_num, by omega, rfl⟩
        case measure => simp [intOf]; omega
      · have hj2 : j = nF := by omega
        subst hj2
        have hlo := HX.out.1.lo
        have HO1 : OI w.heap.size w1.heap.size (.slice (some ⟨bw, offw, none⟩) hs.length cw) most false k (Wp.drewN q) := ⟨HX.out.1.b0, HX.out.1.b1, HX.out.1.b2, HX.out.1.b4, HX.out.1.lo⟩
        have HB1 : Below w.heap.size w (Wp.drewN q) := below_drewN HX.out.2.1 q
        have HO2 := Lib.hid (HO1.setI (k + 1 : Int) (k + 1) (by omega))
        have HB2 := Lib.hid (HB1.setCell (p := ⟨w1.heap.size, 0, none⟩) (by simp; omega) (.int .i64 (k + 1 : Int)))
        have HK2 := Lib.hid ((kp_of (below_drewN (Below.refl _ _) q) (by have := HX.out.1.b4.lt; omega) : KP w1.heap.size tyF Wp (Wp.drewN q)).trans (KP.set (Nat.le_refl _) HO1.b4 rfl 0 (.int .i64 (k + 1 : Int))))
        clear HO1 HB1
        gi_wp2
        · exact ⟨((KP.oth HK2.out).trans (KeepsOthers.setCell _ _ _)).from _, rfl, by simpa using HO2.out.b2.set_ 0 (.bool true), HB2.out.setCell (p := ⟨w.heap.size + 1 + 1, 0, none⟩) (by simp; omega) _⟩
        · exact ⟨HK2.out, by rw [hlen.out]; exact HO2.out, HB2.out⟩
  case done =>
    rintro D ys Wp hD hys ⟨hI, hBx⟩ hK
    have hlen : ys.length = hs.length := by
      have := congrArg List.length (hys.trans HI.out.symm)
      simpa using this
    rw [hlen] at hI
    have c0 := hI.b0.cell 0
    have c2 := hI.b2.cell 0
    have f2 := hI.b2.frozen 0
    have c4 := hI.b4.cell 0
    have hlo := hI.lo
    have HII := Lib.hid hI
    clear hI
    go_wp2_with fail
    rw [← HQ.out]
    have hK' := (KeepsOthers.setCell Wp ⟨w.heap.size + 1 + 1, 0, none⟩ (.bool true)).same D _ hK rfl
    refine ⟨by simp, .inl ⟨_, _, rfl, run_takeDeferred hK', ?_⟩⟩
    have hc5 := (blk_put (D := D) (by simpa using HII.out.b2.set_ 0 (.bool true)) (by omega) (.deferred none) : Blk _ (w.heap.size + 1 + 1) 4 #[.bool true] ).cell 0
    have hB5 : Below w.heap.size w (Wp.setCell ⟨w.heap.size + 1 + 1, 0, none⟩ (.bool true)) := hBx.setCell (p := ⟨w.heap.size + 1 + 1, 0, none⟩) (by simp; omega) _
    refine ⟨.bool true, ?_, rfl, below_put hB5 hB5.size (by omega) _⟩
    simp [results, Tryd.f8, go_sem, hc5]
  case stop =>
    rintro D cd pre Wp hD _ ⟨rfl, hx, hBx⟩ hK
    gi_wp2
    rw [← HQ.out]
    have hlo := hO.lo
    refine ⟨by simp, .inl ⟨_, _, rfl, run_takeDeferred hK, ?_⟩⟩
    have hc5 := (blk_put (D := D) hx (by omega) (.deferred none)).cell 0
    refine ⟨.bool true, ?_, rfl, below_put hBx hBx.size (by omega) _⟩
    simp [results, Tryd.f8, go_sem, hc5]
end Go.Proofs.YtppmjlfecbaicaaDoor
