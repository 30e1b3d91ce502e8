/- weigh.Walk's function over one that writes a variable of the caller's. -/
import Derived.Test.YtlemiejmjdhcgaaWalk
import Derived.Test.YtlemiejmjdhcgaaRangeA
namespace Go.Proofs.Ytlemiejmjdhcgaa
open Go.RowKit Go.Shelf
set_option linter.unusedVariables false
set_option linter.unusedSimpArgs false
attribute [local go_sem] Oper.semAt_some

set_option maxRecDepth 100000 in
set_option maxHeartbeats 8000000 in
theorem walk1_A (a₀ : Nat) (sh : Bool) (lv : Int) (l : List El) (n : Nat) (hn : 2 ≤ n) (lb Bo Bp gi n₀ : Nat) (ha₀ : a₀ < n₀) (hpa : a₀ ≠ Bp) (lbi : Array Value) (J Jx : List Wt → World → Prop) (W : World)
    (egi : ∀ args w, (callFunc gi args).run Try.prog w = .ok (.enter gi args) w)
    (hinner : ∀ W1, Below W.heap.size W W1 → SeqA noT a₀ n₀ noT (n - 1) gi lbi (fun x : El => #[x.agg]) (fun pre _ W => Blk W a₀ 3 #[.int .i64 ((pre.length : Int) + 1)]) (fun ys => ys = l) (fun pre => ∃ rest, l = pre ++ rest) W1)
    (hY : ∀ pre x W, J pre W → Blk W a₀ 3 #[.int .i64 ((pre.length : Int) + 1)] → (∃ rest, ofE sh false l = (pre ++ [x]) ++ rest) → YieldAt Fence.wide (n - 1) Try.prog lb #[x.agg] W fun e W' =>
      (e = .returned (.bool true) ∧ J (pre ++ [x]) W' ∧ KP n₀ tyW W W') ∨ (e = .returned (.bool false) ∧ Jx (pre ++ [x]) W' ∧ KeepsFrom (lb + 1) W W'))
    (hJ : StaysA pvW W.heap.size a₀ J) (hJx : Stays pvW W.heap.size Jx)
    (ho : Blk W Bo 47 #[.func (.func gi) #[] lbi]) (hp : Blk W Bp 23 #[.bool sh, .int .i64 lv]) (hmay : mayB lv = true) (h0 : J [] W) (hs : n₀ ≤ W.heap.size) (hlbW : lb < W.heap.size) :
    CallsIn Fence.wide n Try.prog 17 #[.func (.yield lb) #[] #[], .pointer (some ⟨Bo, 0, none⟩), .pointer (some ⟨Bp, 0, none⟩)] W fun e W' => (∃ v, e = .returned v) ∧
      ((∃ ys, ys = ofE sh false l ∧ J ys W') ∨ (∃ pre, (∃ rest, ofE sh false l = pre ++ rest) ∧ Jx pre W')) := by
  refine callsIn_of_wp_marks Try.func17 rfl trivial ?_ rfl
  refine wpIn_wide.2 ?_
  simp only [Try.ntmps17, List.size_toArray, List.length_cons, List.length_nil, Nat.reduceAdd, Nat.reduceSub, Array.replicate_succ, Array.replicate_zero, List.push_toArray, List.append_toArray, List.nil_append, List.cons_append]
  generalize hQ : bodyPostM _ _ _ _ _ = Q'
  have HQ := Lib.hid hQ
  clear hQ
  have hb0 : Below W.heap.size W (W.alloc (.cells #[.func (.yield lb) #[] #[]] 49)) := (Below.refl _ _).alloc (Nat.le_refl _) _
  have co := (ho.alloc (.cells #[.func (.yield lb) #[] #[]] 49)).cell 0
  have cp0 := (hp.alloc (.cells #[.func (.yield lb) #[] #[]] 49)).cell 0
  have cp1 := (hp.alloc (.cells #[.func (.yield lb) #[] #[]] 49)).cell 1
  have hnf : ∀ W, (binOp BinOp.eql 47 (Value.func (.func gi) #[] lbi) Value.nilFunc).run Try.prog W = .ok (.bool false) W := fun W => rfl
  have H := Lib.hid (And.intro hinner (And.intro hY (And.intro hJ (And.intro hJx (And.intro ho (And.intro hp (And.intro h0 hb0)))))))
  clear hinner hY hJ hJx ho hp h0 hb0
  go_wp2_with fail
  refine (may_any sh lv _).mono ?_
  rintro e W2 ⟨rfl, hb2⟩
  rw [hmay]
  clear co cp0 cp1 hnf
  have co := ((H.out.2.2.2.2.1.alloc (.cells #[.func (.yield lb) #[] #[]] 49)).on hb2).cell 0
  have hbo := ((H.out.2.2.2.2.1.alloc (.cells #[.func (.yield lb) #[] #[]] 49)).on hb2).lt
  go_wp2_with fail
  obtain ⟨hinner, hY, hJ, hJx, ho, hp, h0, hb0⟩ := H.out
  clear H
  have hz0 : (W.alloc (.cells #[.func (.yield lb) #[] #[]] 49)).heap.size = W.heap.size + 1 := by simp
  have hz2 := hb2.size
  have bY := ((Blk.new W 49 #[.func (.yield lb) #[] #[]]).on hb2).alloc (.cells #[.bool false] 4)
  have bP := ((hp.alloc (.cells #[.func (.yield lb) #[] #[]] 49)).on hb2).alloc (.cells #[.bool false] 4)
  have bB := Blk.new W2 4 #[.bool false]
  have hW3 : Below W.heap.size W (W2.alloc (.cells #[.bool false] 4)) := (hb0.trans (hb2.mono (by omega))).alloc (by omega) _
  have j3 := hJ.1 [] W _ none h0 (grown_of hW3) (fun r e => by cases e)
  have hz3 : (W2.alloc (.cells #[.bool false] 4)).heap.size = W2.heap.size + 1 := by simp
  clear hb2 co
  generalize W2.alloc (.cells #[.bool false] 4) = W3 at *
  refine (wpIn_wide (n := n)).1 ?_
  refine range_A (pv := noT) (a₀ := a₀) (n₀ := n₀) (ty := noT) (by omega) (gf := gi) (lb := lbi) rfl egi (hinner W3 hW3) (Below.refl _ _) (by omega) (by omega) (fun _ => rfl)
    (WI sh lv lb W2.heap.size W.heap.size Bp W3.heap.size J) (fun c pre Wp => c = .ret ∧ Jx (ofE sh false pre) Wp)
    ?stI ?stX ⟨j3, by simpa [stB] using bB, bY, bP, Nat.le_refl _⟩
    (fun pre x a' Wp => Blk Wp a₀ 3 #[.int .i64 ((pre.length : Int) + 1)] ∧ ∃ Bx, W3.heap.size ≤ Bx ∧ Blk Wp Bx 42 #[.int .u16 x.p, .int .u16 x.s, .int .u16 x.t, .bool x.var] ∧ a' = { tmps := #[.func (.yield lb) #[] #[], .pointer (some ⟨Bo, 0, none⟩), .pointer (some ⟨Bp, 0, none⟩), .pointer (some ⟨W.heap.size, 0, none⟩), .pointer (some ⟨W2.heap.size, 0, none⟩), .pointer (some ⟨Bx, 0, none⟩), undef,
      .func (.func gi) #[] lbi, .bool false, .bool false, .agg #[.bool sh, .int .i64 lv], .bool true, .bool false, .bool false, .func (.func gi) #[] lbi, x.agg, undef, undef, undef, undef, undef, undef, undef, undef, undef, undef, undef, undef, undef, undef, undef, undef, undef, undef, undef], defers := [] })
    ?stA ?assign ?body ?done ?stop
  case stI =>
    refine ⟨fun pre A B row hs hg hr => ?_, fun pre A k hs => ⟨hJ.2 _ _ _ hs.j, hs.bb.far (p := ⟨a₀, 0, none⟩) (fun e => by have : W2.heap.size = a₀ := e; omega) _, hs.y.far (p := ⟨a₀, 0, none⟩) (fun e => by have : W.heap.size = a₀ := e; omega) _, hs.p.far (p := ⟨a₀, 0, none⟩) (fun e => hpa e.symm) _, by have := hs.le; simp; omega⟩⟩
    have hr2 : ∀ r, row = some r → W.heap.size ≤ r ∧ ∃ o : Obj, A.heap[r]? = some o ∧ privO pvW o = true := fun r e => by
      obtain ⟨h1, o, h2, h3⟩ := hr r e
      exact ⟨by omega, o, h2, priv_mono h3⟩
    exact ⟨hJ.1 _ _ _ _ hs.j hg hr2, blk_stays (pv := noT) rfl hs.bb hg hr, blk_stays (pv := noT) rfl hs.y hg hr, blk_stays (pv := noT) rfl hs.p hg hr, Nat.le_trans hs.le hg.size⟩
  case stX =>
    intro c pre A B row hs hg hr
    have hr2 : ∀ r, row = some r → W.heap.size ≤ r ∧ ∃ o : Obj, A.heap[r]? = some o ∧ privO pvW o = true := fun r e => by
      obtain ⟨h1, o, h2, h3⟩ := hr r e
      exact ⟨by omega, o, h2, priv_mono h3⟩
    exact ⟨hs.1, hJx _ _ _ _ hs.2 hg hr2⟩
  case stA =>
    intro pre x a' _ A B row hs hg hr
    obtain ⟨h0, Bx, h1, h2, h3⟩ := hs
    exact ⟨blk_stays (pv := noT) rfl h0 hg hr, Bx, h1, blk_stays (pv := noT) rfl h2 hg hr, h3⟩
  case assign =>
    intro lb' pre x Wp K hI hG hK
    gi_wp2
    have hle := hI.le
    exact hK _ _ (KP.alloc (by omega) _) ⟨hJ.1.alloc _ hI.j, hI.bb.alloc _, hI.y.alloc _, hI.p.alloc _, by simp; omega⟩ ⟨hG.alloc _, Wp.heap.size, hle, Blk.new Wp 42 _, rfl⟩
  case body =>
    rintro lb' pre x a' Wp hlb ⟨r, hr⟩ hI ⟨hA0, Bx, hBx, bX, rfl⟩ ⟨rest, hlt⟩
    have HA0 := Lib.hid hA0
    have HLT := Lib.hid hlt
    clear hA0 hlt
    have hle := hI.le
    have x0 := bX.cell 0
    have x1 := bX.cell 1
    have x2 := bX.cell 2
    have x3 := bX.cell 3
    have hbx := bX.lt
    have hbp := hI.p.lt
    have hbb := hI.bb.lt
    have hby := hI.y.lt
    have p0 := hI.p.cell 0
    have hII := Lib.hid hI
    have HBX := Lib.hid bX
    clear hI bX
    gi_upto_if 24 with fail
    gi_cut [] from 16 (fun wc => Blk wc Wp.heap.size 31 #[.int .u16 (wOf sh (stB false pre) x).a, .int .u16 (wOf sh (stB false pre) x).b, .int .u16 (wOf sh (stB false pre) x).c, .int .u16 (wOf sh (stB false pre) x).d] ∧ WI sh lv lb W2.heap.size W.heap.size Bp W3.heap.size (fun _ W' => J (ofE sh false pre) W') (pre ++ [x]) wc ∧ Below n₀ Wp wc ∧ KeepsOthers Wp wc)
    case first =>
      have hI := hII.out
      have bX := HBX.out
      cases sh
      · gi_wp2
        gi_meet
        case rel =>
          exact ⟨Blk.new _ _ _, ⟨hJ.1.alloc _ hI.j, hI.bb.alloc _, hI.y.alloc _, hI.p.alloc _, by simp; omega⟩, (Below.refl _ _).alloc (by omega) _, KeepsOthers.alloc _ _⟩
      · have hbW : Below Wp.heap.size Wp (Wp.alloc (.cells #[.int .u16 x.p, .int .u16 x.s, .int .u16 x.t, .int .u16 0] 31)) := (Below.refl _ _).alloc (Nat.le_refl _) _
        have c4 := (hI.bb.alloc (.cells #[.int .u16 x.p, .int .u16 x.s, .int .u16 x.t, .int .u16 0] 31)).cell 0
        have hst : stB false (pre ++ [x]) = nextB x (stB false pre) := stB_snoc _ _ _
        have hsh := fun W => shifted_any x (stB false pre) W
        have hww : wOf true (stB false pre) x = shW x (stB false pre) := rfl
        have hbw0 := Blk.new Wp 31 #[.int .u16 x.p, .int .u16 x.s, .int .u16 x.t, .int .u16 0]
        have hbb0 := hI.bb.alloc (.cells #[.int .u16 x.p, .int .u16 x.s, .int .u16 x.t, .int .u16 0] 31)
        have HSH := Lib.hid hsh
        have HST := Lib.hid hst
        have HBW := Lib.hid hbw0
        have HBB := Lib.hid hbb0
        have HW := Lib.hid hbW
        clear hsh hst hbw0 hbb0 hI bX hbW
        simp only [Bool.true_and] at c4 HBB
        gi_wp2_with fail
        refine ⟨trivial, fun h => by simp [Fence.wide] at h, (call_at (HSH.out _)).mono ?_⟩
        rintro e w8 ⟨rfl, hb8⟩
        have B8 := HBW.out.on hb8
        have B9 := HBB.out.on hb8
        have q0 := B8.cell 0
        have q1 := B8.cell 1
        have q2 := B8.cell 2
        have q3 := B8.cell 3
        have f0 := B8.frozen 0
        have f1 := B8.frozen 1
        have f2 := B8.frozen 2
        have f3 := B8.frozen 3
        have q4 := B9.cell 0
        have f4 := B9.frozen 0
        have hne : W2.heap.size ≠ Wp.heap.size := by omega
        gi_wp2_with fail
        gi_meet
        case rel =>
          have hI := hII.out
          have h9 : Below Wp.heap.size Wp ((((w8.setCell ⟨Wp.heap.size, 0, none⟩ (.int .u16 (shW x (stB false pre)).a)).setCell ⟨Wp.heap.size, 1, none⟩ (.int .u16 (shW x (stB false pre)).b)).setCell ⟨Wp.heap.size, 2, none⟩ (.int .u16 (shW x (stB false pre)).c)).setCell ⟨Wp.heap.size, 3, none⟩ (.int .u16 (shW x (stB false pre)).d)) :=
            ((((HW.out.trans (hb8.mono HW.out.size)).setCell (p := ⟨Wp.heap.size, 0, none⟩) (Nat.le_refl _) _).setCell (p := ⟨Wp.heap.size, 1, none⟩) (Nat.le_refl _) _).setCell (p := ⟨Wp.heap.size, 2, none⟩) (Nat.le_refl _) _).setCell (p := ⟨Wp.heap.size, 3, none⟩) (Nat.le_refl _) _
          have k1 := (((((B8.set_ 0 (.int .u16 (shW x (stB false pre)).a)).set_ 1 (.int .u16 (shW x (stB false pre)).b)).set_ 2 (.int .u16 (shW x (stB false pre)).c)).set_ 3 (.int .u16 (shW x (stB false pre)).d)).far (p := ⟨W2.heap.size, 0, none⟩) (fun e => hne e.symm) (.bool (nextB x (stB false pre))))
          have k2 := (((((B9.far (p := ⟨Wp.heap.size, 0, none⟩) hne (.int .u16 (shW x (stB false pre)).a)).far (p := ⟨Wp.heap.size, 1, none⟩) hne (.int .u16 (shW x (stB false pre)).b)).far (p := ⟨Wp.heap.size, 2, none⟩) hne (.int .u16 (shW x (stB false pre)).c)).far (p := ⟨Wp.heap.size, 3, none⟩) hne (.int .u16 (shW x (stB false pre)).d)).set_ 0 (.bool (nextB x (stB false pre))))
          have hpl := hp.lt
          refine ⟨by simpa [wOf] using k1, ⟨?_, by simpa [HST.out] using k2, (hI.y.on h9).far (by simp; omega) _, (hI.p.on h9).far (by simp; omega) _, by have := h9.size; simp at this ⊢; omega⟩, (h9.mono (by omega)).setCell (p := ⟨W2.heap.size, 0, none⟩) (by simp; omega) _, (others_of h9).trans (KeepsOthers.setCell _ _ _)⟩
          exact hJ.1 _ _ _ _ hI.j (grown_set h9) (fun r e => by cases e; exact ⟨by omega, _, hI.bb, rfl⟩)
    case rest =>
      obtain ⟨kW, kI, kB, kO⟩ := hcut
      obtain ⟨fn, tmps, assign, body, hy, hRd⟩ := hY (ofE sh false pre) (wOf sh (stB false pre) x) wc kI.j (by rw [ofE_length]; exact HA0.out.below kB ha₀) ⟨ofE sh (stB false (pre ++ [x])) rest, by rw [HLT.out, ofE_append, ofE_append (l := pre)]; rfl⟩
      have y0 := kI.y.cell 0
      have w0 := kW.cell 0
      have w1 := kW.cell 1
      have w2 := kW.cell 2
      have w3 := kW.cell 3
      have hof : ofE sh false (pre ++ [x]) = ofE sh false pre ++ [wOf sh (stB false pre) x] := by rw [ofE_append]; rfl
      have HOF := Lib.hid hof
      have HK := Lib.hid (And.intro kI (And.intro kB kO))
      clear kW kI kB kO hII hY hof
      gi_wp2_with fail
      refine ⟨fun h => by simp [Fence.wide] at h, (round_at hRd).mono ?_⟩
      rintro e W9 (⟨rfl, hj9, hkp⟩ | ⟨rfl, hjx, hkf⟩)
      · gi_wp2_with fail
        obtain ⟨kI, kB, kO⟩ := HK.out
        exact And.intro (⟨kB.trans hkp.bel, fun b t cs ht => (by cases ht), kO.trans hkp.oth⟩ : KP n₀ noT Wp W9) (⟨by rw [HOF.out]; exact hj9, hkp.ty _ 4 _ rfl kI.bb, hkp.ty _ 49 _ rfl kI.y, hkp.ty _ 23 _ rfl kI.p, Nat.le_trans kI.le hkp.oth.size⟩ : WI sh lv lb W2.heap.size W.heap.size Bp W3.heap.size J (pre ++ [x]) W9)
      · gi_wp2_with fail
        obtain ⟨kI, kB, kO⟩ := HK.out
        exact And.intro ((kO.from W3.heap.size).trans (keeps_mono hkf (by omega))) ⟨rfl, by rw [HOF.out]; exact hjx⟩
  case done =>
    rintro D ys Wp hD rfl hI hK
    have hj := hJ.1.putObj (.deferred none) hI.j (by omega) hK rfl
    go_wp2_with fail
    rw [← HQ.out]
    refine ⟨by simp, .inl ⟨_, _, rfl, run_takeDeferred hK, ?_⟩⟩
    exact ⟨_, results_none rfl _ _ _, ⟨_, rfl⟩, .inl ⟨_, rfl, hj⟩⟩
  case stop =>
    rintro D c pre Wp hD ⟨rest, hpre⟩ ⟨rfl, hx⟩ hK
    have hj := hJx.putObj (.deferred none) hx (by omega) hK rfl
    gi_wp2
    rw [← HQ.out]
    refine ⟨by simp, .inl ⟨_, _, rfl, run_takeDeferred hK, ?_⟩⟩
    exact ⟨_, results_none rfl _ _ _, ⟨_, rfl⟩, .inr ⟨_, ⟨ofE sh (stB false pre) rest, by rw [hpre, ofE_append]⟩, hj⟩⟩
end Go.Proofs.Ytlemiejmjdhcgaa
