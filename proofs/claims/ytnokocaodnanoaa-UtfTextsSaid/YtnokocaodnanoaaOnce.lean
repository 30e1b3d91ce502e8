/- UtfTexts, its helper: once goes over a text's runes, up to a number of them. -/
import Derived.Test.YtnokocaodnanoaaIter
namespace Go.Proofs.Ytnokocaodnanoaa
open Go.RowKit Go.Shelf
set_option linter.unusedVariables false
attribute [local go_sem] Oper.semAt_some

theorem eql_nil_func (f : Fn) (c : Array Value) (W : World) : (binOp BinOp.eql 54 (Value.func f #[] c) Value.nilFunc).run Try.prog W = .ok (.bool false) W := by
  rfl

/-- What once's own variables hold: the wanted runes, how many at most, the answer, how many have come, the next place. -/
structure OI (B : Nat) (sl : Value) (most : Int) (rb : Bool) (i a : Nat) (W : World) : Prop where
  c0 : W.cell? ⟨B, 0, none⟩ = some sl
  c1 : W.cell? ⟨B + 1, 0, none⟩ = some (.int .i64 most)
  c2 : W.cell? ⟨B + 1 + 1, 0, none⟩ = some (.bool rb)
  f2 : W.frozen? ⟨B + 1 + 1, 0, none⟩ = false
  c4 : W.cell? ⟨B + 1 + 1 + 1 + 1, 0, none⟩ = some (.int .i64 i)
  f4 : W.frozen? ⟨B + 1 + 1 + 1 + 1, 0, none⟩ = false
  c5 : W.cell? ⟨B + 1 + 1 + 1 + 1 + 1, 0, none⟩ = some (.int .i64 a)
  f5 : W.frozen? ⟨B + 1 + 1 + 1 + 1 + 1, 0, none⟩ = false
section
variable {B : Nat} {sl : Value} {most : Int} {rb : Bool} {i a : Nat} {W W' : World}
theorem OI.kept (h : OI B sl most rb i a W) {row : Option Nat} (hg : W.grownBy W' row) (hr : ∀ r, row = some r → ∃ o : Obj, W.heap[r]? = some o ∧ o.isCells = false) : OI B sl most rb i a W' :=
  ⟨cell_kept h.c0 hg hr, cell_kept h.c1 hg hr, cell_kept h.c2 hg hr, (frozen_kept h.c2 hg hr).trans h.f2, cell_kept h.c4 hg hr, (frozen_kept h.c4 hg hr).trans h.f4, cell_kept h.c5 hg hr, (frozen_kept h.c5 hg hr).trans h.f5⟩
theorem OI.alloc (h : OI B sl most rb i a W) (o : Obj) : OI B sl most rb i a (W.alloc o) :=
  h.kept (row := none) (World.grownBy_alloc W o none) (fun r e => by cases e)
theorem OI.drew (h : OI B sl most rb i a W) : OI B sl most rb i a W.drew := ⟨h.c0, h.c1, h.c2, h.f2, h.c4, h.f4, h.c5, h.f5⟩
theorem OI.drewN (h : OI B sl most rb i a W) (n : Nat) : OI B sl most rb i a (W.drewN n) := ⟨h.c0, h.c1, h.c2, h.f2, h.c4, h.f4, h.c5, h.f5⟩
theorem OI.setA (h : OI B sl most rb i a W) (a' : Nat) : OI B sl most rb i a' (W.setCell ⟨B + 1 + 1 + 1 + 1 + 1, 0, none⟩ (.int .i64 a')) :=
  ⟨(World.cell?_setCell_other _ _ _ _ (by simp)).trans h.c0, (World.cell?_setCell_other _ _ _ _ (by simp)).trans h.c1, (World.cell?_setCell_other _ _ _ _ (by simp)).trans h.c2, (World.frozen?_setCell _ _ _ _).trans h.f2,
    (World.cell?_setCell_other _ _ _ _ (by simp)).trans h.c4, (World.frozen?_setCell _ _ _ _).trans h.f4, World.cell?_setCell_same _ _ _ h.c5, (World.frozen?_setCell _ _ _ _).trans h.f5⟩
theorem OI.setI (h : OI B sl most rb i a W) (i' : Nat) : OI B sl most rb i' a (W.setCell ⟨B + 1 + 1 + 1 + 1, 0, none⟩ (.int .i64 i')) :=
  ⟨(World.cell?_setCell_other _ _ _ _ (by simp)).trans h.c0, (World.cell?_setCell_other _ _ _ _ (by simp)).trans h.c1, (World.cell?_setCell_other _ _ _ _ (by simp)).trans h.c2, (World.frozen?_setCell _ _ _ _).trans h.f2,
    World.cell?_setCell_same _ _ _ h.c4, (World.frozen?_setCell _ _ _ _).trans h.f4, (World.cell?_setCell_other _ _ _ _ (by simp)).trans h.c5, (World.frozen?_setCell _ _ _ _).trans h.f5⟩
theorem OI.setR (h : OI B sl most rb i a W) (r' : Bool) : OI B sl most r' i a (W.setCell ⟨B + 1 + 1, 0, none⟩ (.bool r')) :=
  ⟨(World.cell?_setCell_other _ _ _ _ (by simp)).trans h.c0, (World.cell?_setCell_other _ _ _ _ (by simp)).trans h.c1, World.cell?_setCell_same _ _ _ h.c2, (World.frozen?_setCell _ _ _ _).trans h.f2,
    (World.cell?_setCell_other _ _ _ _ (by simp)).trans h.c4, (World.frozen?_setCell _ _ _ _).trans h.f4, (World.cell?_setCell_other _ _ _ _ (by simp)).trans h.c5, (World.frozen?_setCell _ _ _ _).trans h.f5⟩
end
theorem OI.new (w : World) (sl : Value) (most : Int) (s : ByteArray) :
    OI w.heap.size sl most false 0 0 ((((((w.alloc (.cells #[sl] 34)).alloc (.cells #[.int .i64 most] 3)).alloc (.cells #[.bool false] 4)).alloc (.cells #[.string s] 9)).alloc (.cells #[.int .i64 0] 3)).alloc (.cells #[.int .i64 0] 3)) := by
  constructor
  all_goals
    go_simp
    try rfl

theorem prs_runes (s : ByteArray) : ∀ (f a : Nat), s.size - a ≤ f → (prs s a).map Prod.snd = (dec s a).1 := by
  intro f
  induction f with
  | zero => intro a hf; rw [prs_stop (NN_zero_past s a (by omega)), dec_stop (NN_zero_past s a (by omega))]; rfl
  | succ f ih =>
    intro a hf
    by_cases hn : NN s a = 0
    · rw [prs_stop hn, dec_stop hn]; rfl
    · have hr := NN_range s a
      rw [prs_step hn, dec_step hn, List.map_cons, ih _ (by omega)]
/-- Behind 'pre', at a place where a rune stands: it is the next of the wanted ones. -/
theorem once_next {s : ByteArray} {pre : List (Nat × Int)} {a : Nat} (h : prs s 0 = pre ++ prs s a) :
    (NN s a = 0 → pre.length = (runes s).length ∧ prs s 0 = pre) ∧
    (NN s a ≠ 0 → pre.length < (runes s).length ∧ (runes s).getD pre.length 0 = RR s a ∧ prs s 0 = (pre ++ [(a, RR s a)]) ++ prs s (a + (NN s a).toNat)) := by
  have hm := prs_runes s s.size 0 (by omega)
  have hm' : (prs s 0).map Prod.snd = runes s := hm
  constructor
  · intro hn
    rw [prs_stop hn, List.append_nil] at h
    exact ⟨by rw [← hm', h, List.length_map], h⟩
  · intro hn
    rw [prs_step hn] at h
    refine ⟨?_, ?_, by rw [h]; simp⟩
    · rw [← hm', h]; simp
    · rw [← hm', h]; simp [List.getD_eq_getElem?_getD]
/-- A round that came with something else: no beginning of the text's runes. -/
theorem once_other {s : ByteArray} {pre : List (Nat × Int)} {a : Nat} {x : Nat × Int} (h : prs s 0 = pre ++ prs s a) (hx : NN s a = 0 ∨ x ≠ (a, RR s a)) : ¬ ∃ rest, prs s 0 = (pre ++ [x]) ++ rest := by
  rintro ⟨rest, e⟩
  rw [h, List.append_assoc] at e
  have e2 := List.append_cancel_left e
  by_cases hn : NN s a = 0
  · rw [prs_stop hn] at e2; simp at e2
  · rw [prs_step hn] at e2
    rcases hx with hx | hx
    · exact hn hx
    · simp at e2
      exact hx e2.1.symm

theorem le2 (n : Nat) : n ≤ n + 1 + 1 := by omega
theorem le4 (n : Nat) : n ≤ n + 1 + 1 + 1 + 1 := by omega
theorem le5 (n : Nat) : n ≤ n + 1 + 1 + 1 + 1 + 1 := by omega

theorem W_ret {w W : World} {sl : Value} {most : Int} {k a n N : Nat} {X : Obj} (hO : OI w.heap.size sl most false k a W) (hB : Below w.heap.size w W) (hs : w.heap.size + 1 + 1 + 1 + 1 + 1 < W.heap.size) :
    KeepsFrom N W ((((W.setCell ⟨w.heap.size + 1 + 1 + 1 + 1 + 1, 0, none⟩ (.int .i64 ((a : Int) + (n : Int)))).setCell ⟨w.heap.size + 1 + 1 + 1 + 1, 0, none⟩ (.int .i64 ((k : Int) + 1))).setCell ⟨w.heap.size + 1 + 1, 0, none⟩ (.bool true)).alloc X).drew ∧
    OI w.heap.size sl most true (k + 1) (a + n) ((((W.setCell ⟨w.heap.size + 1 + 1 + 1 + 1 + 1, 0, none⟩ (.int .i64 ((a : Int) + (n : Int)))).setCell ⟨w.heap.size + 1 + 1 + 1 + 1, 0, none⟩ (.int .i64 ((k : Int) + 1))).setCell ⟨w.heap.size + 1 + 1, 0, none⟩ (.bool true)).alloc X).drew ∧
    Below w.heap.size w ((((W.setCell ⟨w.heap.size + 1 + 1 + 1 + 1 + 1, 0, none⟩ (.int .i64 ((a : Int) + (n : Int)))).setCell ⟨w.heap.size + 1 + 1 + 1 + 1, 0, none⟩ (.int .i64 ((k : Int) + 1))).setCell ⟨w.heap.size + 1 + 1, 0, none⟩ (.bool true)).alloc X).drew := by
  have e1 : ((a : Int) + (n : Int)) = ((a + n : Nat) : Int) := by omega
  have e2 : ((k : Int) + 1) = ((k + 1 : Nat) : Int) := by omega
  rw [e1, e2]
  refine ⟨(((((KeepsOthers.setCell _ _ _).trans (KeepsOthers.setCell _ _ _)).trans (KeepsOthers.setCell _ _ _)).trans (KeepsOthers.alloc _ _)).trans (KeepsOthers.drew _)).from _, ((((hO.setA (a + n)).setI (k + 1)).setR true).alloc _).drew, ?_⟩
  refine Below.drew ?_
  refine Below.alloc ?_ ?_ _
  · exact ((hB.setCell (p := ⟨w.heap.size + 1 + 1 + 1 + 1 + 1, 0, none⟩) (le5 _) _).setCell (p := ⟨w.heap.size + 1 + 1 + 1 + 1, 0, none⟩) (le4 _) _).setCell (p := ⟨w.heap.size + 1 + 1, 0, none⟩) (le2 _) _
  · simp [World.setCell]; omega
theorem W_norm {w W : World} {sl : Value} {most : Int} {k a n N : Nat} {X : Obj} (hO : OI w.heap.size sl most false k a W) (hB : Below w.heap.size w W) (hs : w.heap.size + 1 + 1 + 1 + 1 + 1 < W.heap.size) :
    KeepsFrom N W (((W.setCell ⟨w.heap.size + 1 + 1 + 1 + 1 + 1, 0, none⟩ (.int .i64 ((a : Int) + (n : Int)))).setCell ⟨w.heap.size + 1 + 1 + 1 + 1, 0, none⟩ (.int .i64 ((k : Int) + 1))).alloc X).drew ∧
    Below (w.heap.size + 1 + 1 + 1 + 1) W (((W.setCell ⟨w.heap.size + 1 + 1 + 1 + 1 + 1, 0, none⟩ (.int .i64 ((a : Int) + (n : Int)))).setCell ⟨w.heap.size + 1 + 1 + 1 + 1, 0, none⟩ (.int .i64 ((k : Int) + 1))).alloc X).drew ∧
    OI w.heap.size sl most false (k + 1) (a + n) (((W.setCell ⟨w.heap.size + 1 + 1 + 1 + 1 + 1, 0, none⟩ (.int .i64 ((a : Int) + (n : Int)))).setCell ⟨w.heap.size + 1 + 1 + 1 + 1, 0, none⟩ (.int .i64 ((k : Int) + 1))).alloc X).drew ∧
    Below w.heap.size w (((W.setCell ⟨w.heap.size + 1 + 1 + 1 + 1 + 1, 0, none⟩ (.int .i64 ((a : Int) + (n : Int)))).setCell ⟨w.heap.size + 1 + 1 + 1 + 1, 0, none⟩ (.int .i64 ((k : Int) + 1))).alloc X).drew := by
  have e1 : ((a : Int) + (n : Int)) = ((a + n : Nat) : Int) := by omega
  have e2 : ((k : Int) + 1) = ((k + 1 : Nat) : Int) := by omega
  rw [e1, e2]
  refine ⟨((((KeepsOthers.setCell _ _ _).trans (KeepsOthers.setCell _ _ _)).trans (KeepsOthers.alloc _ _)).trans (KeepsOthers.drew _)).from _, ?_, (((hO.setA (a + n)).setI (k + 1)).alloc _).drew, ?_⟩
  · refine Below.drew ?_
    refine Below.alloc ?_ ?_ _
    · exact ((Below.refl (w.heap.size + 1 + 1 + 1 + 1) W).setCell (p := ⟨w.heap.size + 1 + 1 + 1 + 1 + 1, 0, none⟩) (Nat.le_succ _) _).setCell (p := ⟨w.heap.size + 1 + 1 + 1 + 1, 0, none⟩) (Nat.le_refl _) _
    · simp [World.setCell]; omega
  · refine Below.drew ?_
    refine Below.alloc ?_ ?_ _
    · exact (hB.setCell (p := ⟨w.heap.size + 1 + 1 + 1 + 1 + 1, 0, none⟩) (le5 _) _).setCell (p := ⟨w.heap.size + 1 + 1 + 1 + 1, 0, none⟩) (le4 _) _
    · simp [World.setCell]; omega

set_option maxRecDepth 100000 in
set_option maxHeartbeats 8000000 in
theorem once_any (s : ByteArray) (A : Option Addr) (cap : Nat) (most : Int) (w : World) (h1 : s.size ≤ 40000) (hin : In32 w w.heap.size A (runes s)) :
    Calls Try.prog 21 #[.string s, .slice A (runes s).length cap, .int .i64 most] w fun e w' => e = .returned (.bool true) ∧ Below w.heap.size w w' := by
  have Hin := Lib.hid hin
  have hrl := runes_len s
  clear hin
  have hnf := fun W => eql_nil_func (Fn.func 28) #[Value.pointer (some { block := w.heap.size + 1 + 1 + 1, off := 0 })] W
  have hO := Lib.hid (OI.new w (.slice A (runes s).length cap) most s)
  have hBe := Lib.hid (((((((Below.refl w.heap.size w).alloc (Nat.le_refl _) (.cells #[.slice A (runes s).length cap] 34)).alloc (by simp) (.cells #[.int .i64 most] 3)).alloc (by simp; omega) (.cells #[.bool false] 4)).alloc (by simp; omega) (.cells #[.string s] 9)).alloc (by simp; omega) (.cells #[.int .i64 0] 3)).alloc (by simp; omega) (.cells #[.int .i64 0] 3))
  refine (callsIn_wide (n := 3)).1 ?_
  refine callsIn_of_wp_marks Try.func21 rfl trivial ?_ rfl
  simp only [Try.ntmps21, List.size_toArray, List.length_cons, List.length_nil, Nat.reduceAdd, Nat.reduceSub, Array.replicate_succ, Array.replicate_zero, List.push_toArray, List.append_toArray, List.nil_append, List.cons_append]
  gi_wp2_with (refine ⟨trivial, ?_⟩; gi_at_call 26; refine (callsIn_wide.2 (runes_in s _)).mono ?_; rintro e w' ⟨rfl, rfl⟩)
  clear hnf
  refine wpIn_rangeFunc_ownG rfl (by omega) (gf := 28) (lb := #[.pointer (some ⟨w.heap.size + 1 + 1 + 1, 0, none⟩)]) rfl trivial (enters_of Try.func28 (by kernel_rfl) rfl)
    (runes_stops s h1 _ (by omega) (w.heap.size + 1 + 1 + 1) (w.heap.size + 1 + 1 + 1 + 1) (by omega) _ (by simp) (by
      rw [World.cell?_alloc_past _ _ _ (by simp), World.cell?_alloc_past _ _ _ (by simp), World.cell?_alloc_at _ _ _ _ (by simp)]; rfl))
    belowK_t (belowK_b (by simp)) (Below.refl _ _) (fun _ => rfl)
    (fun pre W => (∃ a : Nat, Hid (prs s 0 = pre ++ prs s a) ∧ a ≤ s.size ∧ OI w.heap.size (.slice A (runes s).length cap) most false pre.length a W) ∧ Below w.heap.size w W)
    (fun c pre W => (c = .ret ∧ ∃ (rb : Bool) (i a : Nat), Hid (rb = true ∨ ¬ ∃ rest, prs s 0 = pre ++ rest) ∧ OI w.heap.size (.slice A (runes s).length cap) most rb i a W) ∧ Below w.heap.size w W)
    (OwnFrom.and (Own.from (fun pre A B row hs hg hr => by obtain ⟨a, e1, e2, e3⟩ := hs; exact ⟨a, e1, e2, e3.kept hg hr⟩) _) (ownFrom_below (Nat.le_refl _) (by simp; omega)))
    (fun c => OwnFrom.and (Own.from (fun pre A B row hs hg hr => by obtain ⟨hc, rb, i, a, e1, e2⟩ := hs; exact ⟨hc, rb, i, a, e1, e2.kept hg hr⟩) _) (ownFrom_below (Nat.le_refl _) (by simp; omega)))
    ⟨⟨0, Lib.hid rfl, Nat.zero_le _, hO.out⟩, hBe.out⟩
    (fun x => { tmps := #[.string s, .slice A (runes s).length cap, .int .i64 most, undef, .pointer (some ⟨w.heap.size, 0, none⟩), .pointer (some ⟨w.heap.size + 1, 0, none⟩), .pointer (some ⟨w.heap.size + 1 + 1, 0, none⟩),
      .func (.func 28) #[] #[.pointer (some ⟨w.heap.size + 1 + 1 + 1, 0, none⟩)], .pointer (some ⟨w.heap.size + 1 + 1 + 1 + 1, 0, none⟩), .pointer (some ⟨w.heap.size + 1 + 1 + 1 + 1 + 1, 0, none⟩), .int .i64 (x.1 : Int), .int .i32 x.2, .string s,
      .func (.func 28) #[] #[.pointer (some ⟨w.heap.size + 1 + 1 + 1, 0, none⟩)], .func (.func 28) #[] #[.pointer (some ⟨w.heap.size + 1 + 1 + 1, 0, none⟩)], .bool false, .func (.func 28) #[] #[.pointer (some ⟨w.heap.size + 1 + 1 + 1, 0, none⟩)],
      .int .i64 (x.1 : Int), .int .i32 x.2, undef, undef, undef, undef, undef, undef, undef, undef, undef, undef, undef, undef, undef, undef, undef, undef, undef, undef, undef, undef, undef, undef, undef, undef, undef, undef, undef, undef, undef, undef, undef], defers := [] }) ?assign ?body ?done ?stop
  case assign =>
    intro l x W K hK
    gi_wp2
    exact hK
  case body =>
    rintro l pre x W ⟨⟨a, hd, ha, hO⟩, hB⟩ hlen
    obtain ⟨hz, hnz⟩ := once_next hd.out
    have hoth := fun h => once_other (x := x) hd.out h
    obtain ⟨c0, c1, c2, f2, c4, f4, c5, f5⟩ := hO
    have hO : Hid (OI w.heap.size (.slice A (runes s).length cap) most false pre.length a W) := Lib.hid ⟨c0, c1, c2, f2, c4, f4, c5, f5⟩
    have HB := Lib.hid hB
    by_cases hn : NN s a = 0
    · have hl := (hz hn).1
      have hge : ((runes s).length : Int) ≤ (pre.length : Int) := by omega
      have Hx := Lib.hid (hoth (.inl hn))
      clear hz hnz hoth hn hd hlen hB
      generalize (runes s).length = L at *
      generalize pre.length = k at *
      have Hl := Lib.hid hl
      clear hl
      gi_wp2
      exact ⟨(KeepsOthers.setCell _ _ _).from _, ⟨rfl, false, _, a, Lib.hid (.inr Hx.out), hO.out.setR false⟩, HB.out.setCell (p := ⟨w.heap.size + 1 + 1, 0, none⟩) (by show w.heap.size ≤ w.heap.size + 1 + 1; omega) _⟩
    · obtain ⟨hl, hr, hd2⟩ := hnz hn
      obtain ⟨hmr, hlenr⟩ := NN_size hn
      have hrg := NN_range s a
      obtain ⟨b, off, rfl, hbl, hcs⟩ := Hin.out (by omega)
      have hc := (hB.cell (p := ⟨b, off + pre.length, none⟩) hbl).trans (hcs pre.length hl)
      rw [hr] at hc
      have hlt : (pre.length : Int) < ((runes s).length : Int) := by omega
      by_cases hx2 : x.2 = RR s a
      · by_cases hx1 : x.1 = a
        · obtain rfl : x = (a, RR s a) := Prod.ext hx1 hx2
          obtain ⟨n', hN⟩ : ∃ n' : Nat, NN s a = n' := ⟨(NN s a).toNat, by omega⟩
          rw [hN] at hd2 hlenr hrg
          rw [Int.toNat_natCast] at hd2
          have hpp := fun W => put_any (RR s a) W hmr
          have hn0 : 0 < n' := by omega
          generalize RR s a = r at *
          have hpl : (putI r).length = n' := by omega
          have Hpl := Lib.hid hpl
          have HD := Lib.hid hd2
          have HP := Lib.hid hpp
          clear hz hnz hoth hn hd hB hr hcs hmr hlenr hN hpl hpp hd2 hx1 hx2
          generalize (putI r).length = n'' at *
          obtain rfl : n'' = n' := Hpl.out
          clear Hpl
          generalize hL : (runes s).length = L at *
          clear hL
          have ha2 : a + n'' ≤ s.size := by omega
          have hmx : Try.prog.follows .mixedOrders = true := by kernel_rfl
          have hsz : w.heap.size + 1 + 1 + 1 + 1 + 1 < W.heap.size := World.block_lt_of_cell? W _ c5
          have HL1 := Lib.hid (show (pre ++ [(a, r)]).length = pre.length + 1 by simp)
          have hsz4 : w.heap.size + 1 + 1 + 1 + 1 < W.heap.size := by omega
          have hsz2 : w.heap.size + 1 + 1 < W.heap.size := by omega
          have hsz1 : w.heap.size + 1 < W.heap.size := by omega
          gi_wp2
          gi_region_with_o (refine ⟨trivial, ?_⟩; gi_at_call 13; refine (CallsIn.inRound l (callsIn_wide.2 (HP.out _))).mono ?_; rintro e w' ⟨rfl, rfl⟩)
          all_goals gi_wp2
          · exact ⟨(W_ret hO.out HB.out hsz).1, ⟨rfl, true, _, _, Lib.hid (.inl rfl), (W_ret (N := 0) hO.out HB.out hsz).2.1⟩, (W_ret (N := 0) hO.out HB.out hsz).2.2⟩
          · exact ⟨(W_norm hO.out HB.out hsz).1, (W_norm (N := 0) hO.out HB.out hsz).2.1, ⟨a + n'', HD, ha2, by rw [HL1.out]; exact (W_norm (N := 0) hO.out HB.out hsz).2.2.1⟩, (W_norm (N := 0) hO.out HB.out hsz).2.2.2⟩
          · exact ⟨(W_ret hO.out HB.out hsz).1, ⟨rfl, true, _, _, Lib.hid (.inl rfl), (W_ret (N := 0) hO.out HB.out hsz).2.1⟩, (W_ret (N := 0) hO.out HB.out hsz).2.2⟩
          · exact ⟨(W_norm hO.out HB.out hsz).1, (W_norm (N := 0) hO.out HB.out hsz).2.1, ⟨a + n'', HD, ha2, by rw [HL1.out]; exact (W_norm (N := 0) hO.out HB.out hsz).2.2.1⟩, (W_norm (N := 0) hO.out HB.out hsz).2.2.2⟩
          · exact ⟨(W_ret hO.out HB.out hsz).1, ⟨rfl, true, _, _, Lib.hid (.inl rfl), (W_ret (N := 0) hO.out HB.out hsz).2.1⟩, (W_ret (N := 0) hO.out HB.out hsz).2.2⟩
          · exact ⟨(W_norm hO.out HB.out hsz).1, (W_norm (N := 0) hO.out HB.out hsz).2.1, ⟨a + n'', HD, ha2, by rw [HL1.out]; exact (W_norm (N := 0) hO.out HB.out hsz).2.2.1⟩, (W_norm (N := 0) hO.out HB.out hsz).2.2.2⟩
          · exact ⟨(W_ret hO.out HB.out hsz).1, ⟨rfl, true, _, _, Lib.hid (.inl rfl), (W_ret (N := 0) hO.out HB.out hsz).2.1⟩, (W_ret (N := 0) hO.out HB.out hsz).2.2⟩
          · exact ⟨(W_norm hO.out HB.out hsz).1, (W_norm (N := 0) hO.out HB.out hsz).2.1, ⟨a + n'', HD, ha2, by rw [HL1.out]; exact (W_norm (N := 0) hO.out HB.out hsz).2.2.1⟩, (W_norm (N := 0) hO.out HB.out hsz).2.2.2⟩
        · have Hx := Lib.hid (hoth (.inr (fun e => hx1 (by rw [e]))))
          have t1 : (x.2 != RR s a) = false := by simp [hx2]
          have t2 : (((x.1 : Nat) : Int) != (a : Int)) = true := by simp; omega
          clear hz hnz hoth hn hd hB hcs hx1 hx2 hmr hlenr hrg hd2 hr
          generalize RR s a = r at *
          generalize x.1 = x1 at *
          generalize x.2 = x2 at *
          generalize (runes s).length = L at *
          gi_wp2
          exact ⟨(KeepsOthers.setCell _ _ _).from _, ⟨rfl, false, _, a, Lib.hid (.inr Hx.out), hO.out.setR false⟩, HB.out.setCell (p := ⟨w.heap.size + 1 + 1, 0, none⟩) (le2 _) _⟩
      · have Hx := Lib.hid (hoth (.inr (fun e => hx2 (by rw [e]))))
        have t1 : (x.2 != RR s a) = true := by simpa using hx2
        clear hz hnz hoth hn hd hB hcs hx2 hmr hlenr hrg hd2 hr
        generalize RR s a = r at *
        generalize x.1 = x1 at *
        generalize x.2 = x2 at *
        generalize (runes s).length = L at *
        gi_wp2
        exact ⟨(KeepsOthers.setCell _ _ _).from _, ⟨rfl, false, _, a, Lib.hid (.inr Hx.out), hO.out.setR false⟩, HB.out.setCell (p := ⟨w.heap.size + 1 + 1, 0, none⟩) (le2 _) _⟩
  case done =>
    rintro D ys W hD rfl ⟨⟨a, hd, ha, hO⟩, hB⟩ hK
    have hlen : (prs s 0).length = (runes s).length := by
      have := prs_runes s s.size 0 (by omega)
      rw [show runes s = (prs s 0).map Prod.snd from this.symm, List.length_map]
    rw [hlen] at hO
    obtain ⟨c0, c1, c2, f2, c4, f4, c5, f5⟩ := hO
    gi_wp2
    have hK' := (KeepsOthers.setCell W ⟨w.heap.size + 1 + 1, 0, none⟩ (.bool true)).same D _ hK rfl
    refine ⟨by simp, .inl ⟨_, _, rfl, run_takeDeferred hK', ?_⟩⟩
    have hc5 := cell_kept (World.cell?_setCell_same' W ⟨w.heap.size + 1 + 1, 0, none⟩ (.bool true) (by rw [c2]; rfl)) (grownBy_putObj' _ D (.deferred none)) (fun r e => by cases e; exact ⟨_, hK', rfl⟩)
    refine ⟨.bool true, ?_, rfl, (hB.setCell (p := ⟨w.heap.size + 1 + 1, 0, none⟩) (le2 _) _).trans (belowK_b (w := w) (Nat.le_refl _) _ D _ _ (by simp at hD; omega) hK' rfl rfl)⟩
    simp [results, Try.f21, go_sem, hc5]
  case stop =>
    rintro D c pre W hD hpre ⟨⟨rfl, rb, i, a, hrb, hO⟩, hB⟩ hK
    obtain rfl : rb = true := hrb.out.resolve_right (fun h => h hpre)
    obtain ⟨c0, c1, c2, f2, c4, f4, c5, f5⟩ := hO
    gi_wp2
    refine ⟨by simp, .inl ⟨_, _, rfl, run_takeDeferred hK, ?_⟩⟩
    have hc5 := cell_kept c2 (grownBy_putObj' _ D (.deferred none)) (fun r e => by cases e; exact ⟨_, hK, rfl⟩)
    refine ⟨.bool true, ?_, rfl, hB.trans (belowK_b (w := w) (Nat.le_refl _) W D _ _ (by simp at hD; omega) hK rfl rfl)⟩
    simp [results, Try.f21, go_sem, hc5]
end Go.Proofs.Ytnokocaodnanoaa
