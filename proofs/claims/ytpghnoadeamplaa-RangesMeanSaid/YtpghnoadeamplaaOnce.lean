/- once: goes over a map's ranges, up to a number of them. -/
import Derived.Test.YtpghnoadeamplaaRound
import Derived.Laws.StructEq
import Derived.Test.YtpghnoadeamplaaMany
namespace Go.Proofs.Ytpghnoadeamplaa
open Go.RowKit Go.Shelf
set_option linter.unusedVariables false
set_option linter.unusedSimpArgs false
attribute [local go_sem] Oper.semAt_some

theorem eql_nil_func (f : Fn) (c : Array Value) (W : World) : (binOp BinOp.eql 42 (Value.func f #[] c) Value.nilFunc).run Try.prog W = .ok (.bool false) W := by
  rfl
/-- What once's own variables hold. -/
structure OI (B : Nat) (sl : Value) (most : Int) (rb : Bool) (i : Nat) (W : World) : Prop where
  b0 : Boxed W B 22 sl
  b1 : Boxed W (B + 1) 3 (.int .i64 most)
  b2 : Boxed W (B + 1 + 1) 4 (.bool rb)
  b4 : Boxed W (B + 1 + 1 + 1 + 1) 3 (.int .i64 i)
section
variable {B : Nat} {sl : Value} {most : Int} {rb : Bool} {i : Nat} {W W' : World}
theorem OI.kept (h : OI B sl most rb i W) {row : Option Nat} (hg : W.grownBy W' row) (hr : ∀ r, row = some r → ∃ o : Obj, W.heap[r]? = some o ∧ o.isCells = false) : OI B sl most rb i W' :=
  ⟨boxed_own _ _ (fun (_ : Unit) => _) () _ _ row h.b0 hg hr, boxed_own _ _ (fun (_ : Unit) => _) () _ _ row h.b1 hg hr, boxed_own _ _ (fun (_ : Unit) => _) () _ _ row h.b2 hg hr, boxed_own _ _ (fun (_ : Unit) => _) () _ _ row h.b4 hg hr⟩
theorem OI.alloc (h : OI B sl most rb i W) (o : Obj) : OI B sl most rb i (W.alloc o) :=
  h.kept (row := none) (World.grownBy_alloc W o none) (fun r e => by cases e)
theorem OI.drewN (h : OI B sl most rb i W) (n : Nat) : OI B sl most rb i (W.drewN n) := ⟨h.b0, h.b1, h.b2, h.b4⟩
theorem OI.setI (h : OI B sl most rb i W) (i' : Int) (k : Nat) (e : i' = k) : OI B sl most rb k (W.setCell ⟨B + 1 + 1 + 1 + 1, 0, none⟩ (.int .i64 i')) := by
  subst e
  exact ⟨h.b0.other (by omega) _, h.b1.other (by omega) _, h.b2.other (by omega) _, h.b4.set _⟩
theorem OI.setR (h : OI B sl most rb i W) (r' : Bool) : OI B sl most r' i (W.setCell ⟨B + 1 + 1, 0, none⟩ (.bool r')) :=
  ⟨h.b0.other (by omega) _, h.b1.other (by omega) _, h.b2.set _, h.b4.other (by omega) _⟩
end
theorem koDrewN (W : World) (n : Nat) : KeepsOthers W (W.drewN n) := ⟨Nat.le_refl _, fun _ _ h _ => h⟩
theorem le2 (n : Nat) : n ≤ n + 1 + 1 := by omega
theorem le4 (n : Nat) : n ≤ n + 1 + 1 + 1 + 1 := by omega

set_option maxRecDepth 100000 in
set_option maxHeartbeats 8000000 in
theorem once_any (q : Option Addr) (l : List Rg) (A : Option Addr) (c : Nat) (most : Int) (w : World) (hm : MapR w w.heap.size q l) (hl : l.length ≤ 1000000) (hw : RdR w w.heap.size A l) :
    Calls Try.prog 16 #[.pointer q, .slice A l.length c, .int .i64 most] w fun e w' => e = .returned (.bool true) ∧ Below w.heap.size w w' := by
  have hnf := fun W => eql_nil_func (Fn.func 24) #[Value.pointer (some { block := w.heap.size + 1 + 1 + 1, off := 0 })] W
  refine (callsIn_wide (n := 3)).1 ?_
  refine callsIn_of_wp_marks Try.func16 rfl trivial ?_ rfl
  simp only [Try.ntmps16, List.size_toArray, List.length_cons, List.length_nil, Nat.reduceAdd, Nat.reduceSub, Array.replicate_succ, Array.replicate_zero, List.push_toArray, List.append_toArray, List.nil_append, List.cons_append]
  gi_wp2_with (refine ⟨trivial, ?_⟩; gi_at_call 18; refine (all_in _ _ _).mono ?_; rintro e w' ⟨rfl, rfl⟩)
  clear hnf
  have b0 := ((((Boxed.new w 22 (.slice A l.length c)).alloc (.cells #[.int .i64 most] 3)).alloc (.cells #[.bool false] 4)).alloc (.cells #[.pointer q] 26)).alloc (.cells #[.int .i64 0] 3)
  have b1 := (((Boxed.new (w.alloc (.cells #[.slice A l.length c] 22)) 3 (.int .i64 most)).alloc (.cells #[.bool false] 4)).alloc (.cells #[.pointer q] 26)).alloc (.cells #[.int .i64 0] 3)
  have b2 := ((Boxed.new ((w.alloc (.cells #[.slice A l.length c] 22)).alloc (.cells #[.int .i64 most] 3)) 4 (.bool false)).alloc (.cells #[.pointer q] 26)).alloc (.cells #[.int .i64 0] 3)
  have b3 := (Boxed.new (((w.alloc (.cells #[.slice A l.length c] 22)).alloc (.cells #[.int .i64 most] 3)).alloc (.cells #[.bool false] 4)) 26 (.pointer q)).alloc (.cells #[.int .i64 0] 3)
  have b4 := Boxed.new ((((w.alloc (.cells #[.slice A l.length c] 22)).alloc (.cells #[.int .i64 most] 3)).alloc (.cells #[.bool false] 4)).alloc (.cells #[.pointer q] 26)) 3 (.int .i64 0)
  simp only [World.size_alloc] at b1 b2 b3 b4
  have hB0 : Below w.heap.size w (((((w.alloc (.cells #[.slice A l.length c] 22)).alloc (.cells #[.int .i64 most] 3)).alloc (.cells #[.bool false] 4)).alloc (.cells #[.pointer q] 26)).alloc (.cells #[.int .i64 0] 3)) :=
    (((((Below.refl _ w).alloc (Nat.le_refl _) _).alloc (by simp) _).alloc (by simp; omega) _).alloc (by simp; omega) _).alloc (by simp; omega) _
  have hsz : (((((w.alloc (.cells #[.slice A l.length c] 22)).alloc (.cells #[.int .i64 most] 3)).alloc (.cells #[.bool false] 4)).alloc (.cells #[.pointer q] 26)).alloc (.cells #[.int .i64 0] 3)).heap.size = w.heap.size + 5 := by simp
  obtain ⟨W0, hW0⟩ : ∃ W0, (((((w.alloc (.cells #[.slice A l.length c] 22)).alloc (.cells #[.int .i64 most] 3)).alloc (.cells #[.bool false] 4)).alloc (.cells #[.pointer q] 26)).alloc (.cells #[.int .i64 0] 3)) = W0 := ⟨_, rfl⟩
  rw [hW0] at b0 b1 b2 b3 b4 hB0 hsz ⊢
  clear hW0
  have hO : OI w.heap.size (.slice A l.length c) most false 0 W0 := ⟨b0, b1, b2, b4⟩
  refine wpIn_rangeFunc_ownH rfl (by omega) (gf := 24) (lb := #[.pointer (some ⟨w.heap.size + 1 + 1 + 1, 0, none⟩)]) rfl trivial (enters_of Try.func24 (by kernel_rfl) rfl)
    (all_stops q l hl _ (by omega) (w.heap.size + 1 + 1 + 1) w.heap.size W0 (by omega) b3.cell (hm.below hB0) (by omega)) belowK_t (belowK_b (by omega)) (Below.refl _ _) (fun _ => rfl)
    (fun pre W => ((∃ rest, l = pre ++ rest) ∧ OI w.heap.size (.slice A l.length c) most false pre.length W) ∧ Below w.heap.size w W)
    (fun cd pre W => (cd = .ret ∧ ∃ (rb : Bool) (i : Nat), (rb = true ∨ ¬ ∃ rest, l = pre ++ rest) ∧ OI w.heap.size (.slice A l.length c) most rb i W) ∧ Below w.heap.size w W)
    (OwnFrom.and (Own.from (fun pre A B row hs hg hr => by obtain ⟨e1, e2⟩ := hs; exact ⟨e1, e2.kept hg hr⟩) _) (ownFrom_below (Nat.le_refl _) (by omega)))
    (fun cd => OwnFrom.and (Own.from (fun pre A B row hs hg hr => by obtain ⟨hc, rb, i, e1, e2⟩ := hs; exact ⟨hc, rb, i, e1, e2.kept hg hr⟩) _) (ownFrom_below (Nat.le_refl _) (by omega)))
    ⟨⟨⟨l, rfl⟩, hO⟩, hB0⟩
    (fun x a' W => ∃ Bx, w.heap.size + 4 < Bx ∧ Blk W Bx 24 #[.int .i32 x.lo, .int .i32 x.hi, .int .i64 x.val] ∧ a' = { tmps := #[.pointer q, .slice A l.length c, .int .i64 most, undef, .pointer (some ⟨w.heap.size, 0, none⟩), .pointer (some ⟨w.heap.size + 1, 0, none⟩), .pointer (some ⟨w.heap.size + 1 + 1, 0, none⟩),
      .func (.func 24) #[] #[.pointer (some ⟨w.heap.size + 1 + 1 + 1, 0, none⟩)], .pointer (some ⟨w.heap.size + 1 + 1 + 1 + 1, 0, none⟩), .pointer (some ⟨Bx, 0, none⟩), .pointer q, .func (.func 24) #[] #[.pointer (some ⟨w.heap.size + 1 + 1 + 1, 0, none⟩)], .func (.func 24) #[] #[.pointer (some ⟨w.heap.size + 1 + 1 + 1, 0, none⟩)], .bool false, .func (.func 24) #[] #[.pointer (some ⟨w.heap.size + 1 + 1 + 1, 0, none⟩)],
      (.agg #[.int .i32 x.lo, .int .i32 x.hi, .int .i64 x.val]), undef, undef, undef, undef, undef, undef, undef, undef, undef, undef, undef, undef, undef, undef, undef, undef, undef, undef, undef, undef, undef], defers := [] })
    (fun x a' _ X Y row hs hg hr => by obtain ⟨Bx, h1, h2, h3⟩ := hs; exact ⟨Bx, h1, blk_own Bx 24 (fun (_ : Unit) => #[.int .i32 x.lo, .int .i32 x.hi, .int .i64 x.val]) () X Y row h2 hg (fun r e => (hr r e).2), h3⟩)
    ?assign ?body ?done ?stop
  case assign =>
    rintro lb pre x W K ⟨⟨hp, hO⟩, hB1⟩ hK
    gi_wp2
    exact hK _ _ ((KeepsOthers.alloc _ _).from _) ((Below.refl _ W).alloc hB1.size _) ⟨⟨hp, hO.alloc _⟩, hB1.alloc hB1.size _⟩ ⟨W.heap.size, hO.b4.lt, Blk.new W 24 _, rfl⟩
  case body =>
    rintro lb pre x a' W hlb ⟨r, hr⟩ ⟨⟨hp, hO⟩, hB1⟩ ⟨Bx, hBx, bX, rfl⟩ hlt
    have c0 := hO.b0.cell
    have c1 := hO.b1.cell
    have c2 := hO.b2.cell
    have f2 := hO.b2.frozen
    have c4 := hO.b4.cell
    have f4 := hO.b4.frozen
    have x0 : W.cell? ⟨Bx, 0, none⟩ = some (.int .i32 x.lo) := bX.cell 0
    have x1 : W.cell? ⟨Bx, 1, none⟩ = some (.int .i32 x.hi) := bX.cell 1
    have x2 : W.cell? ⟨Bx, 2, none⟩ = some (.int .i64 x.val) := bX.cell 2
    obtain ⟨b, off, rfl, hbl, hcs⟩ := hw (by omega)
    have hr2 := hcs pre.length hlt
    have y0 := (hB1.cell (p := ⟨b, off + pre.length * 3, none⟩) hbl).trans (hr2 0 _ rfl)
    have y1 := (hB1.cell (p := ⟨b, off + pre.length * 3 + 1, none⟩) hbl).trans (hr2 1 _ rfl)
    have y2 := (hB1.cell (p := ⟨b, off + pre.length * 3 + 2, none⟩) hbl).trans (hr2 2 _ rfl)
    have HO := Lib.hid hO
    have HB := Lib.hid hB1
    have hps : x = l.getD pre.length default → ∃ rest, l = (pre ++ [x]) ++ rest := fun e => by
      obtain ⟨rest, hp⟩ := hp
      cases rest with
      | nil => rw [hp] at hlt; simp at hlt
      | cons z t =>
        have : l.getD pre.length default = z := by rw [hp]; simp [List.getD_eq_getElem?_getD]
        exact ⟨t, by rw [e, this, hp]; simp⟩
    have hnp : x ≠ l.getD pre.length default → ¬ ∃ rest, l = (pre ++ [x]) ++ rest := fun h ⟨rest, e⟩ => h (by rw [e]; simp [List.getD_eq_getElem?_getD])
    have hlen : Hid ((pre ++ [x]).length = pre.length + 1) := Lib.hid (by simp)
    have hge : decide (l.length ≤ pre.length) = false := by simp; omega
    clear hO hB1 hp hcs hr2 bX hm hw
    generalize l.getD pre.length default = y at *
    generalize hk : pre.length = k at *
    have Hk := Lib.hid hk
    clear hk
    by_cases hxy : x = y
    · subst hxy
      have Hps := Lib.hid (hps rfl)
      clear hps hnp
      gi_wp2
      refine quiet_round lb rfl (by kernel_rfl) (by kernel_rfl) (by kernel_rfl) ?_
      repeat (gi_big_quiet_step (fail))
      refine wpQuietIn_nil ?_
      intro _ hw'
      obtain ⟨nq, hw''⟩ := hw'
      subst hw''
      gi_wp2
      · exact ⟨(((koDrewN W nq).trans (KeepsOthers.setCell _ _ _)).trans (KeepsOthers.setCell _ _ _)).from _, ⟨rfl, true, _, .inl rfl, ((HO.out.drewN nq).setI _ (k + 1) (by omega)).setR true⟩, ((below_drewN HB.out nq).setCell (p := ⟨w.heap.size + 1 + 1 + 1 + 1, 0, none⟩) (le4 _) _).setCell (p := ⟨w.heap.size + 1 + 1, 0, none⟩) (le2 _) _⟩
      · exact ⟨((koDrewN W nq).trans (KeepsOthers.setCell _ _ _)).from _, (below_drewN (Below.refl _ W) nq).setCell (p := ⟨w.heap.size + 1 + 1 + 1 + 1, 0, none⟩) (le4 _) _, ⟨Hps.out, (HO.out.drewN nq).setI _ _ (by rw [hlen.out]; omega)⟩, (below_drewN HB.out nq).setCell (p := ⟨w.heap.size + 1 + 1 + 1 + 1, 0, none⟩) (le4 _) _⟩
    · have Hnp := Lib.hid (hnp hxy)
      have hne : x.lo ≠ y.lo ∨ (x.lo = y.lo ∧ x.hi ≠ y.hi) ∨ (x.lo = y.lo ∧ x.hi = y.hi ∧ x.val ≠ y.val) := by
        by_cases h1 : x.lo = y.lo
        · by_cases h2 : x.hi = y.hi
          · refine .inr (.inr ⟨h1, h2, fun h3 => hxy ?_⟩)
            obtain ⟨a, b, c⟩ := x
            obtain ⟨a', b', c'⟩ := y
            simp_all
          · exact .inr (.inl ⟨h1, h2⟩)
        · exact .inl h1
      clear hps hnp hxy
      rcases hne with h1 | ⟨h1, h2⟩ | ⟨h1, h2, h3⟩
      all_goals
        gi_wp2
        refine quiet_round lb rfl (by kernel_rfl) (by kernel_rfl) (by kernel_rfl) ?_
        repeat (gi_big_quiet_step (fail))
        refine wpQuietIn_nil ?_
        intro _ hw'
        obtain ⟨nq, hw''⟩ := hw'
        subst hw''
        gi_wp2
        exact ⟨((koDrewN W nq).trans (KeepsOthers.setCell _ _ _)).from _, ⟨rfl, false, _, .inr Hnp.out, (HO.out.drewN nq).setR false⟩, (below_drewN HB.out nq).setCell (p := ⟨w.heap.size + 1 + 1, 0, none⟩) (le2 _) _⟩
  case done =>
    rintro D ys W hD rfl ⟨⟨hv, hO⟩, hB1⟩ hK
    have c0 := hO.b0.cell
    have c2 := hO.b2.cell
    have f2 := hO.b2.frozen
    have c4 := hO.b4.cell
    gi_wp2
    have hK' := (KeepsOthers.setCell W ⟨w.heap.size + 1 + 1, 0, none⟩ (.bool true)).same D _ hK rfl
    refine ⟨by simp, .inl ⟨_, _, rfl, run_takeDeferred hK', ?_⟩⟩
    have hc5 := cell_kept (World.cell?_setCell_same' W ⟨w.heap.size + 1 + 1, 0, none⟩ (.bool true) (by rw [c2]; rfl)) (grownBy_putObj' _ D (.deferred none)) (fun r e => by cases e; exact ⟨_, hK', rfl⟩)
    refine ⟨.bool true, ?_, rfl, (hB1.setCell (p := ⟨w.heap.size + 1 + 1, 0, none⟩) (le2 _) _).trans (belowK_b (w := w) (Nat.le_refl _) _ D _ _ (by omega) hK' rfl rfl)⟩
    simp [results, Try.f16, go_sem, hc5]
  case stop =>
    rintro D cd pre W hD hpre ⟨⟨rfl, rb, i, hrb, hO⟩, hB⟩ hK
    obtain rfl : rb = true := hrb.resolve_right (fun h => h hpre)
    have c2 := hO.b2.cell
    gi_wp2
    refine ⟨by simp, .inl ⟨_, _, rfl, run_takeDeferred hK, ?_⟩⟩
    have hc5 := cell_kept c2 (grownBy_putObj' _ D (.deferred none)) (fun r e => by cases e; exact ⟨_, hK, rfl⟩)
    refine ⟨.bool true, ?_, rfl, hB.trans (belowK_b (w := w) (Nat.le_refl _) W D _ _ (by omega) hK rfl rfl)⟩
    simp [results, Try.f16, go_sem, hc5]
end Go.Proofs.Ytpghnoadeamplaa
