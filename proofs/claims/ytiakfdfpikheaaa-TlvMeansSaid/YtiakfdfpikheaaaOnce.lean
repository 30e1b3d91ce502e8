/- once: goes over the values of bytes, up to a number of them. -/
import Derived.Test.YtiakfdfpikheaaaRound
import Derived.Test.YtiakfdfpikheaaaBook
import Derived.Test.YtiakfdfpikheaaaKnown
import Derived.Sort.CutIn
namespace Go.Proofs.Ytiakfdfpikheaaa
open Go.RowKit Go.Shelf
set_option linter.unusedVariables false
set_option linter.unusedSimpArgs false
attribute [local go_sem] Oper.semAt_some

theorem eql_nil_func (f : Fn) (c : Array Value) (W : World) : (binOp BinOp.eql 50 (Value.func f #[] c) Value.nilFunc).run Try.prog W = .ok (.bool false) W := rfl
def noT (_ : TypeId) : Bool := false

/-- What once's own variables hold. -/
structure OI (B Bi : Nat) (sl : Value) (most : Int) (rb : Bool) (i : Nat) (W : World) : Prop where
  b0 : Blk W B 38 #[sl]
  b1 : Blk W (B + 1) 3 #[.int .i64 most]
  b2 : Blk W (B + 1 + 1) 4 #[.bool rb]
  b4 : Blk W Bi 3 #[.int .i64 i]
  lo : B + 1 + 1 < Bi

theorem OI.stays {B Bi : Nat} {sl : Value} {most : Int} {rb : Bool} {i B0 : Nat} {W W' : World} {row : Option Nat} (h : OI B Bi sl most rb i W) (hg : W.grownBy W' row) (hr : ∀ r, row = some r → B0 ≤ r ∧ ∃ o : Obj, W.heap[r]? = some o ∧ privO noT o = true) : OI B Bi sl most rb i W' :=
  ⟨blk_stays (pv := noT) rfl h.b0 hg hr, blk_stays (pv := noT) rfl h.b1 hg hr, blk_stays (pv := noT) rfl h.b2 hg hr, blk_stays (pv := noT) rfl h.b4 hg hr, h.lo⟩
theorem OI.setI {B Bi : Nat} {sl : Value} {most : Int} {rb : Bool} {i : Nat} {W : World} (h : OI B Bi sl most rb i W) (i' : Int) (k : Nat) (e : i' = k) : OI B Bi sl most rb k (W.setCell ⟨Bi, 0, none⟩ (.int .i64 i')) := by
  subst e
  have := h.lo
  exact ⟨h.b0.far (by simp; omega) _, h.b1.far (by simp; omega) _, h.b2.far (by simp; omega) _, by simpa using h.b4.set_ 0 (.int .i64 k), this⟩
theorem rd_stays {B0 : Nat} {W W' : World} {row : Option Nat} {A : Option Addr} {l : List Int} (h : Rd W W.heap.size A l) (hg : W.grownBy W' row) (hr : ∀ r, row = some r → B0 ≤ r ∧ ∃ o : Obj, W.heap[r]? = some o ∧ privO noT o = true) : Rd W' W'.heap.size A l := fun hp => by
  obtain ⟨b, off, e, hlt, hc⟩ := h hp
  have hne : some b ≠ row := fun er => by
    obtain ⟨_, o, ho, hpo⟩ := hr b er.symm
    have h0 := hc 0 hp
    unfold World.cell? at h0
    simp only [ho] at h0
    cases o <;> simp_all [privO, noT]
  exact ⟨b, off, e, Nat.lt_of_lt_of_le hlt hg.size, fun j hj => (World.cell?_of_block (w := W) (a := ⟨b, off + j, none⟩) (hg.block b hlt hne)).trans (hc j hj)⟩

theorem blk_put {W : World} {b D : Nat} {t : TypeId} {cs : Array Value} (h : Blk W b t cs) (hne : b ≠ D) (o : Obj) : Blk (W.putObj D o) b t cs := (World.putObj_heap_other hne).trans h
theorem below_put {B D : Nat} {w W : World} (h : Below B w W) (hB : B ≤ W.heap.size) (hD : B ≤ D) (o : Obj) : Below B w (W.putObj D o) := h.grown (grownBy_putObj' W D o) hB (fun k e => by cases e; exact hD)
theorem hand_at {hs pre : List Hand} {x : Hand} {rest : List (Int × List Int)} (h : hs.map Hand.it = (pre ++ [x]).map Hand.it ++ rest) : pre.length < hs.length ∧ (hs.getD pre.length default).it = x.it := by
  have hl := congrArg List.length h
  simp at hl
  have hlt : pre.length < hs.length := by omega
  refine ⟨hlt, ?_⟩
  have := congrArg (fun z => z[pre.length]?) h
  simp [List.getElem?_map, List.getElem?_append, List.getElem?_eq_getElem hlt] at this
  simpa [List.getD_eq_getElem?_getD, List.getElem?_eq_getElem hlt] using this

set_option maxRecDepth 100000 in
set_option maxHeartbeats 8000000 in
theorem once_any (A : Option Addr) (c : Nat) (l : List Int) (Aw : Option Addr) (cw : Nat) (hs : List Hand) (most : Int) (w : World) (hr : Rd w w.heap.size A l) (hl : l.length ≤ 1000000) (hhs : hs.length ≤ 1000000) (hby : Byt l)
    (hw : RdK kI w w.heap.size Aw hs) (hit : hs.map Hand.it = items l) (hgood : Good w w.heap.size hs) :
    Calls Try.prog 14 #[.slice A l.length c, .slice Aw hs.length cw, .int .i64 most] w fun e w' => e = .returned (.bool true) ∧ Below w.heap.size w w' := by
  refine (callsIn_wide (n := 3)).1 ?_
  refine callsIn_of_wp_marks Try.func14 rfl trivial ?_ rfl
  refine wpIn_wide.2 ?_
  simp only [Try.ntmps14, List.size_toArray, List.length_cons, List.length_nil, Nat.reduceAdd, Nat.reduceSub, Array.replicate_succ, Array.replicate_zero, List.push_toArray, List.append_toArray, List.nil_append, List.cons_append]
  generalize hQ : bodyPostM _ _ _ _ _ = Q'
  have HQ := Lib.hid hQ
  clear hQ
  have b0 := ((Blk.new w 38 #[.slice Aw hs.length cw]).alloc (.cells #[.int .i64 most] 3)).alloc (.cells #[.bool false] 4)
  have b1 := (Blk.new (w.alloc (.cells #[.slice Aw hs.length cw] 38)) 3 #[.int .i64 most]).alloc (.cells #[.bool false] 4)
  have b2 := Blk.new ((w.alloc (.cells #[.slice Aw hs.length cw] 38)).alloc (.cells #[.int .i64 most] 3)) 4 #[.bool false]
  simp only [World.size_alloc] at b1 b2
  have hB0 : Below w.heap.size w (((w.alloc (.cells #[.slice Aw hs.length cw] 38)).alloc (.cells #[.int .i64 most] 3)).alloc (.cells #[.bool false] 4)) :=
    (((Below.refl _ w).alloc (Nat.le_refl _) _).alloc (by simp) _).alloc (by simp; omega) _
  have hr0 := (hr.below hB0).more hB0.size
  have HA := Lib.hid (all_any A c l _ hr0 (by omega))
  have H := Lib.hid (And.intro b0 (And.intro b1 (And.intro b2 hB0)))
  have HW := Lib.hid hw
  have HG := Lib.hid hgood
  have HI := Lib.hid hit
  clear b0 b1 b2 hB0 hr0 hr hw hgood hit
  go_wp2_with fail
  refine HA.out.mono ?_
  clear HA
  rintro e w1 ⟨B, A', c', rfl, hbB, hr1, hc1, hc2, hb1⟩
  obtain ⟨b0, b1, b2, hB0⟩ := H.out
  have hB1 : Below w.heap.size w w1 := hB0.trans (hb1.mono hB0.size)
  have b0 := b0.on hb1
  have b1 := b1.on hb1
  have b2 := b2.on hb1
  have hnf := eql_nil_func (.func 38) #[.pointer (some ⟨B, 0, none⟩)]
  clear H hB0 hb1
  have H := Lib.hid (And.intro b0 (And.intro b1 (And.intro b2 (And.intro hB1 (And.intro hbB hr1)))))
  clear b0 b1 b2 hB1 hbB hr1
  go_wp2_with fail
  obtain ⟨b0, b1, b2, hB1, hbB, hr1⟩ := H.out
  clear H hnf
  have b4 := Blk.new w1 3 #[.int .i64 0]
  have h01 : Below w1.heap.size w1 (w1.alloc (.cells #[.int .i64 0] 3)) := (Below.refl _ _).alloc (Nat.le_refl _) _
  have hO : OI w.heap.size w1.heap.size (.slice Aw hs.length cw) most false 0 (w1.alloc (.cells #[.int .i64 0] 3)) := ⟨b0.alloc _, b1.alloc _, b2.alloc _, b4, b2.lt⟩
  have hB2 : Below w.heap.size w (w1.alloc (.cells #[.int .i64 0] 3)) := hB1.trans (h01.mono hB1.size)
  have hsz : (w1.alloc (.cells #[.int .i64 0] 3)).heap.size = w1.heap.size + 1 := by simp
  have hbB2 := hbB.alloc (.cells #[.int .i64 0] 3)
  have hr2 := hr1.below h01
  have hle1 := hB1.size
  clear b0 b1 b2 b4 h01 hbB hr1
  generalize w1.alloc (.cells #[.int .i64 0] 3) = W0 at *
  refine (wpIn_wide (n := 3)).1 ?_
  refine range_T (pv := noT) (n₀ := w1.heap.size) (ty := noT) (by omega) (gf := 38) (lb := #[.pointer (some ⟨B, 0, none⟩)]) rfl (enters_of Try.func38 (by kernel_rfl) rfl)
    (all_T noT w1.heap.size noT A' c' l (by omega) hc1 hc2 hby _ (by omega) B W0 hbB2 hr2 (by omega)) (Below.refl _ _) (by omega) (fun _ => rfl)
    (fun pre W => OI w.heap.size w1.heap.size (.slice Aw hs.length cw) most false pre.length W ∧ Below w.heap.size w W)
    (fun cd pre W => cd = .ret ∧ Blk W (w.heap.size + 1 + 1) 4 #[.bool true] ∧ Below w.heap.size w W)
    ?stI ?stX ⟨hO, hB2⟩
    (fun x a' W => Rd W W.heap.size x.A x.bs ∧ a' = { tmps := #[.slice A l.length c, .slice Aw hs.length cw, .int .i64 most, undef, .pointer (some ⟨w.heap.size, 0, none⟩), .pointer (some ⟨w.heap.size + 1, 0, none⟩), .pointer (some ⟨w.heap.size + 1 + 1, 0, none⟩),
      .func (.func 38) #[] #[.pointer (some ⟨B, 0, none⟩)], .pointer (some ⟨w1.heap.size, 0, none⟩), .int .u8 x.t, .slice x.A x.bs.length x.c, .slice A l.length c, .func (.func 38) #[] #[.pointer (some ⟨B, 0, none⟩)], .func (.func 38) #[] #[.pointer (some ⟨B, 0, none⟩)], .bool false, .func (.func 38) #[] #[.pointer (some ⟨B, 0, none⟩)],
      .int .u8 x.t, .slice x.A x.bs.length x.c, undef, undef, undef, undef, undef, undef, undef, undef, undef, undef, undef, undef, undef, undef, undef, undef, undef, undef, undef, undef, undef, undef, undef, undef, undef, undef, undef, undef, undef, undef, undef, undef, undef], defers := [] })
    ?stA ?assign ?body ?done ?stop
  case stI =>
    intro pre X Y row hs' hg hr
    exact ⟨hs'.1.stays hg hr, hs'.2.grown hg hs'.2.size (fun k hk => by have := (hr k hk).1; omega)⟩
  case stX =>
    intro cd pre X Y row hs' hg hr
    exact ⟨hs'.1, blk_stays (pv := noT) rfl hs'.2.1 hg hr, hs'.2.2.grown hg hs'.2.2.size (fun k hk => by have := (hr k hk).1; omega)⟩
  case stA =>
    intro x a' _ X Y row hs' hg hr
    exact ⟨rd_stays hs'.1 hg hr, hs'.2⟩
  case assign =>
    intro lb' pre x Wp K hI hG hK
    gi_wp2
    exact hK _ _ (KP.refl _) hI ⟨hG, rfl⟩
  case body =>
    rintro lb' pre x a' Wp hlb' ⟨r, hr⟩ ⟨hI, hBx⟩ ⟨hrd, rfl⟩ ⟨rest, hpre⟩
    obtain ⟨hlt, hat⟩ := hand_at (HI.out.trans hpre)
    have hg := HG.out (hs.getD pre.length default) (by rw [List.getD_eq_getElem?_getD, List.getElem?_eq_getElem hlt]; exact List.getElem_mem hlt)
    obtain ⟨bw, offw, rfl, hbw, hcw⟩ := HW.out (by omega)
    have y0 := (hBx.cell (p := ⟨bw, offw + pre.length * 2 + 0, none⟩) hbw).trans (hcw pre.length hlt 0 _ rfl)
    have y1 := (hBx.cell (p := ⟨bw, offw + pre.length * 2 + 1, none⟩) hbw).trans (hcw pre.length hlt 1 _ rfl)
    have hgr := hg.below hBx
    generalize hs.getD pre.length default = y at *
    obtain ⟨yt, yA, yc, ybs⟩ := y
    obtain ⟨xt, xA, xc, xbs⟩ := x
    simp only [Hand.it, Prod.mk.injEq] at hat
    obtain ⟨rfl, rfl⟩ := hat
    simp only [Nat.add_zero] at y0 y1 hgr hrd
    have hcx := fun n => conv_of (Wp.drewN n) xA xc Wp.heap.size ybs (hrd.drewN n) (by cases xA <;> simp)
    have hcy := fun n => conv_of (Wp.drewN n) yA yc w.heap.size ybs (hgr.drewN n) (by cases yA <;> simp)
    have c0 : Wp.cell? ⟨w.heap.size, 0, none⟩ = some (.slice (some ⟨bw, offw, none⟩) hs.length cw) := hI.b0.cell 0
    have c1 : Wp.cell? ⟨w.heap.size + 1, 0, none⟩ = some (.int .i64 most) := hI.b1.cell 0
    have c2 : Wp.cell? ⟨w.heap.size + 1 + 1, 0, none⟩ = some (.bool false) := hI.b2.cell 0
    have f2 := hI.b2.frozen 0
    have c4 : Wp.cell? ⟨w1.heap.size, 0, none⟩ = some (.int .i64 pre.length) := hI.b4.cell 0
    have f4 := hI.b4.frozen 0
    have hge : decide (hs.length ≤ pre.length) = false := by simp; omega
    have HX := Lib.hid (And.intro hI (And.intro hBx (And.intro hrd hgr)))
    have hlen : Hid ((pre ++ [(⟨yt, xA, xc, ybs⟩ : Hand)]).length = pre.length + 1) := Lib.hid (by simp)
    clear hI hBx hrd hgr hg hpre hcw
    generalize hk : pre.length = k at *
    have Hk := Lib.hid hk
    clear hk
    gi_wp2
    refine quiet_round lb' rfl (by kernel_rfl) (by kernel_rfl) (by kernel_rfl) ?_
    repeat (gi_big_quiet_step (fail))
    refine wpQuietIn_nil ?_
    intro _ hw'
    obtain ⟨nq, hw''⟩ := hw'
    subst hw''
    clear hcx hcy
    have hlo := HX.out.1.lo
    have HO1 : OI w.heap.size w1.heap.size (.slice (some ⟨bw, offw, none⟩) hs.length cw) most false k (Wp.drewN nq) := ⟨HX.out.1.b0, HX.out.1.b1, HX.out.1.b2, HX.out.1.b4, HX.out.1.lo⟩
    have HB1 : Below w.heap.size w (Wp.drewN nq) := below_drewN HX.out.2.1 nq
    have HO2 := Lib.hid (HO1.setI (k + 1 : Int) (k + 1) (by omega))
    have HB2 := Lib.hid (HB1.setCell (p := ⟨w1.heap.size, 0, none⟩) (by simp; omega) (.int .i64 (k + 1 : Int)))
    have HK2 := Lib.hid ((kp_of (below_drewN (Below.refl _ _) nq) (by have := HX.out.1.b4.lt; omega) : KP w1.heap.size noT Wp (Wp.drewN nq)).trans (KP.set (Nat.le_refl _) HO1.b4 rfl 0 (.int .i64 (k + 1 : Int))))
    clear HO1 HB1
    gi_wp2
    · exact ⟨((KP.oth HK2.out).trans (KeepsOthers.setCell _ _ _)).from _, rfl, by simpa using HO2.out.b2.set_ 0 (.bool true), HB2.out.setCell (p := ⟨w.heap.size + 1 + 1, 0, none⟩) (by simp; omega) _⟩
    · exact ⟨HK2.out, by rw [hlen.out]; exact HO2.out, HB2.out⟩
  case done =>
    rintro D ys Wp hD hys ⟨hI, hBx⟩ hK
    have hlen : ys.length = hs.length := by
      have := congrArg List.length (hys.trans HI.out.symm)
      simpa using this
    rw [hlen] at hI
    have c0 := hI.b0.cell 0
    have c2 := hI.b2.cell 0
    have f2 := hI.b2.frozen 0
    have c4 := hI.b4.cell 0
    have hlo := hI.lo
    have HII := Lib.hid hI
    clear hI
    go_wp2_with fail
    rw [← HQ.out]
    have hK' := (KeepsOthers.setCell Wp ⟨w.heap.size + 1 + 1, 0, none⟩ (.bool true)).same D _ hK rfl
    refine ⟨by simp, .inl ⟨_, _, rfl, run_takeDeferred hK', ?_⟩⟩
    have hc5 := (blk_put (D := D) (by simpa using HII.out.b2.set_ 0 (.bool true)) (by omega) (.deferred none) : Blk _ (w.heap.size + 1 + 1) 4 #[.bool true] ).cell 0
    have hB5 : Below w.heap.size w (Wp.setCell ⟨w.heap.size + 1 + 1, 0, none⟩ (.bool true)) := hBx.setCell (p := ⟨w.heap.size + 1 + 1, 0, none⟩) (by simp; omega) _
    refine ⟨.bool true, ?_, rfl, below_put hB5 hB5.size (by omega) _⟩
    simp [results, Try.f14, go_sem, hc5]
  case stop =>
    rintro D cd pre Wp hD _ ⟨rfl, hx, hBx⟩ hK
    gi_wp2
    rw [← HQ.out]
    have hlo := hO.lo
    refine ⟨by simp, .inl ⟨_, _, rfl, run_takeDeferred hK, ?_⟩⟩
    have hc5 := (blk_put (D := D) hx (by omega) (.deferred none)).cell 0
    refine ⟨.bool true, ?_, rfl, below_put hBx hBx.size (by omega) _⟩
    simp [results, Try.f14, go_sem, hc5]
end Go.Proofs.Ytiakfdfpikheaaa
