/- ClientsNil: the walk. -/
import Derived.Test.YtknjlholbelpbaaC5
import Derived.RangeFuncNested
import Derived.RangeFuncCalls
import Derived.RangeFuncLeaves
import Derived.RangeFuncBox
import Derived.Shelf.Abstract
import Derived.Shelf.RegionOpen
import Derived.TacticsInMore
import Derived.LoopNIn
import Derived.LoopIn
import Derived.OwnWalkIn
namespace Go.Proofs.Ytknjlholbelpbaa.Tlv
open Go.RowKit
set_option maxRecDepth 100000
set_option linter.unusedVariables false
set_option linter.unusedSimpArgs false

open Go.Shelf
/-- A range over a function that hands nothing. -/
theorem range0 {n : Nat} {g : Operand} {ps : Array Tmp} {assign body : Code} {Q : Exit → Act → World → Prop} {a : Act} {w : World} (h1 : 1 ≤ n) {gf : Nat} {lb : Array Value} (hg : a.eval g = .func (.func gf) #[] lb)
    (eg : ∀ args w, (callFunc gf args).run Try.prog w = .ok (.enter gf args) w)
    (hz : ∀ l W, Below w.heap.size w W → Calls Try.prog gf (#[.func (.yield l) #[] #[]] ++ lb) W fun e W' => (∃ v, e = .returned v) ∧ W = W')
    (hdone : ∀ (D : Nat) (W : World), w.heap.size ≤ D → Below w.heap.size w W → W.heap[D]? = some (.deferred (some [])) → Q .normal { a with defers := { target := .collected D, args := #[] } :: a.defers } W) :
    (Code.rangeFunc g ps assign body).wp Try.prog Q a w := by
  refine (wpIn_wide (n := n)).1 ?_
  refine wpIn_rangeFunc_ownH (α := Empty) (encs := fun x => nomatch x) (Kp := fun _ _ => True) (S := fun _ => True) (Sp := fun _ => True) (N := 0) (w0 := w) rfl h1 hg trivial eg
    (fun l J Jx W hW _ _ _ h0 => (callsIn_wide.2 (hz l W hW)).mono fun e W' ⟨hv, hw⟩ => ⟨hv, .inl ⟨[], trivial, hw ▸ h0⟩⟩)
    (fun _ _ => trivial) (fun _ _ _ _ _ _ _ _ => trivial) (Below.refl _ _) (fun x => nomatch x)
    (fun _ W => Below w.heap.size w W) (fun _ _ _ => False) (ownFrom_below (Nat.le_refl _) (Nat.le_refl _)) (fun _ _ _ _ _ h _ _ => h) (Below.refl _ _) (fun x => nomatch x) (fun x => nomatch x)
    (fun _ _ x => nomatch x) (fun _ _ x => nomatch x) (fun D xs W hD _ hI hk => hdone D W hD hI hk) (fun _ _ _ _ _ _ h => h.elim)
theorem not_no {q : Option Addr} : (Value.pointer q) = .pointer q := rfl
/-- The law's own blocks: the result, the zero table, the list of both. -/
structure LW (n0 : Nat) (w0 : World) (g b r : Nat) (p : Option Nat) (W : World) : Prop where
  bel : Below n0 w0 W
  dk : ∀ d, p = some d → W.heap[d]? = some (.deferred (some []))
  gt : Blk W g 24 #[.map none]
  bt : Blk W b 25 #[.pointer none, .pointer (some ⟨g, 0, none⟩)]
  rt : Blk W r 4 #[.bool false]
theorem LW.on {n0 g b r : Nat} {p : Option Nat} {w0 W W' : World} (h : LW n0 w0 g b r p W) (hn : n0 ≤ w0.heap.size) (hb : Below W.heap.size W W') : LW n0 w0 g b r p W' := ⟨h.bel.trans (hb.mono (Nat.le_trans hn h.bel.size)), fun d e => (hb.block d (Array.getElem?_eq_some_iff.1 (h.dk d e)).1).trans (h.dk d e), h.gt.on hb, h.bt.on hb, h.rt.on hb⟩
theorem LW.no {n0 g b r : Nat} {p : Option Nat} {w0 W : World} (h : LW n0 w0 g b r p W) : NoT W (some ⟨g, 0, none⟩) := .inr ⟨g, rfl, h.gt.cell 0⟩
/-- The end: two ranges' deferred calls, then the result. -/
theorem fin2 {w W : World} {D0 D1 r : Nat} (tmps : Array Value) (ht : tmps[0]? = some (.pointer (some ⟨r, 0, none⟩))) (hD0 : r < D0) (h01 : D0 < D1) (hr0 : w.heap.size ≤ r) (k0 : W.heap[D0]? = some (.deferred (some []))) (k1 : W.heap[D1]? = some (.deferred (some []))) (hr : Blk W r 4 #[.bool true]) (hB : Below w.heap.size w W) :
    bodyPostM Fence.wide 3 Try.prog Try.f3 (fun e w' => e = .returned (.bool true) ∧ Below w.heap.size w w') .ret { tmps := tmps, defers := [{ target := .collected D1, args := #[] }, { target := .collected D0, args := #[] }] } W := by
  have k0' := (World.putObj_heap_other (w := W) (r := D1) (o := .deferred none) (by omega)).trans k0
  refine ⟨by simp, .inl ⟨_, _, rfl, run_takeDeferred k1, ?_⟩⟩
  refine ⟨by simp, .inl ⟨_, _, rfl, run_takeDeferred k0', ?_⟩⟩
  have hb : ∀ {W : World} {D' : Nat}, D' ≠ r → Blk W r 4 #[.bool true] → Blk (W.putObj D' (.deferred none)) r 4 #[.bool true] := fun h1 h2 => (World.putObj_heap_other (fun e => h1 e.symm)).trans h2
  have hc := (hb (D' := D0) (by omega) (hb (D' := D1) (by omega) hr)).cell 0
  have hp : ∀ {W : World} {D' : Nat}, w.heap.size ≤ D' → Below w.heap.size w W → Below w.heap.size w (W.putObj D' (.deferred none)) := fun h1 h2 => h2.grown (grownBy_putObj' _ _ _) h2.size (fun k e => by cases e; exact h1)
  refine ⟨.bool true, ?_, rfl, hp (by omega) (hp (by omega) hB)⟩
  simp only [List.getElem?_toArray, List.getElem?_cons_zero, List.getElem?_cons_succ] at hc
  simp [results, Try.f3, go_sem, hc, ht]
theorem NoT.nil {W : World} : NoT W none := .inl rfl
theorem fn_eql (f : Fn) (c : Array Value) (W : World) : (binOp BinOp.eql 39 (Value.func f #[] c) Value.nilFunc).run Try.prog W = .ok (.bool false) W := rfl
theorem blkD {w w' : World} {D : Nat} {o : Obj} (h : w.heap[D]? = some o) (hb : Below w.heap.size w w') : w'.heap[D]? = some o := (hb.block D (Array.getElem?_eq_some_iff.1 h).1).trans h
set_option maxHeartbeats 16000000 in
theorem law_c (w : World) : Calls Try.prog 3 #[] w fun e w' => e = .returned (.bool true) ∧ Below w.heap.size w w' := by
  have hr := (((Blk.new w 4 #[.bool false]).alloc (.cells #[.map none] 24)).alloc (.cells #[.pointer none, .pointer (some ⟨w.heap.size + 1, 0, none⟩)] 25))
  have hg := (Blk.new (w.alloc (.cells #[.bool false] 4)) 24 #[.map none]).alloc (.cells #[.pointer none, .pointer (some ⟨w.heap.size + 1, 0, none⟩)] 25)
  have hb := Blk.new ((w.alloc (.cells #[.bool false] 4)).alloc (.cells #[.map none] 24)) 25 #[.pointer none, .pointer (some ⟨w.heap.size + 1, 0, none⟩)]
  have hB : Below w.heap.size w (((w.alloc (.cells #[.bool false] 4)).alloc (.cells #[.map none] 24)).alloc (.cells #[.pointer none, .pointer (some ⟨w.heap.size + 1, 0, none⟩)] 25)) := (((Below.refl _ w).alloc (Nat.le_refl _) _).alloc (by simp) _).alloc (by simp; omega) _
  simp only [World.size_alloc] at hg hb
  have HL := Lib.hid (LW.mk (p := none) hB (fun _ e => by cases e) hg hb hr)
  clear hr hg hb hB
  refine (callsIn_wide (n := 3)).1 ?_
  refine callsIn_of_wp_marks Try.func3 rfl trivial ?_ rfl
  refine wpIn_wide.2 ?_
  simp only [Try.ntmps3, List.size_toArray, List.length_cons, List.length_nil, Nat.reduceAdd, Nat.reduceSub, Array.replicate_succ, Array.replicate_zero, List.push_toArray, List.append_toArray, List.nil_append, List.cons_append]
  generalize hQ : bodyPostM _ _ _ _ _ = Q'
  have HQ := Lib.hid hQ
  clear hQ
  go_upto_region 4 with fail
  refine wp_loop_rounds 3 ?_
  rw [rounds_succ]
  have r0 := HL.out.bt.cell 0
  simp only [List.getElem?_toArray, List.getElem?_cons_zero, List.getElem?_cons_succ] at r0
  go_wp2_with (first
    | (go_at_call 4; (with_reducible refine (ask_no _ _ _ _ NoT.nil).mono ?_); rintro e wa0 ⟨rfl, hb⟩; dsimp only; have HA0 := Lib.hid (HL.out.on (Nat.le_refl _) hb); clear hb)
    | (refine wpList_store_rowTo rfl 32 _ _ rfl rfl wa0.heap.size #[.int .i64 0, .bool false, .slice none 0 0, .slice none 0 0] rfl rfl 32 #[.int .i64 0, .bool false, .slice none 0 0, .slice none 0 0] (Blk.new wa0 32 #[.int .i64 0, .bool false, .slice none 0 0, .slice none 0 0]) (by kernel_rfl) rfl (by kernel_rfl) ?_; have HX0 := Lib.hid (HA0.out.on (Nat.le_refl _) (below_setRow ((Below.refl _ _).alloc (Nat.le_refl _) (.cells #[.int .i64 0, .bool false, .slice none 0 0, .slice none 0 0] 32)) (Nat.le_refl _) #[.int .i64 0, .bool false, .slice none 0 0, .slice none 0 0])))
    | (go_at_call 5; (with_reducible refine (latest_no _ _ _ NoT.nil).mono ?_); rintro e wb0 ⟨rfl, hb⟩; dsimp only; have HB0 := Lib.hid (HX0.out.on (Nat.le_refl _) hb); clear hb)
    | (go_at_call 6; (with_reducible refine (all_no _ _ NoT.nil).mono ?_); rintro e wc0 ⟨a0, b0, rfl, ka0, hb⟩; dsimp only; have HC0 := Lib.hid (And.intro (HB0.out.on (Nat.le_refl _) hb) ka0); clear hb ka0; have hnf := fn_eql (.func 17) #[.pointer (some ⟨a0, 0, none⟩), .pointer (some ⟨b0, 0, none⟩)]))
  refine range0 (n := 3) (by omega) rfl (enters_of Try.func17 (by kernel_rfl) rfl) (fun l W hb => all1_none l a0 _ W (HC0.out.2.on hb)) ?_
  intro D0 wd0 hD0 hbd0 hkd0
  have HD0 := Lib.hid (HC0.out.1.on (Nat.le_refl _) hbd0)
  have HK0 := Lib.hid (And.intro (Nat.lt_of_lt_of_le HC0.out.1.bt.lt hD0) hkd0)
  clear hnf hD0 hbd0 hkd0 r0
  go_wp2_with (first
    | (refine wpList_buildTo rfl 32 _ rfl (some 42) rfl #[.int .i64 0, .bool false, .slice none 0 0, .slice none 0 0] (by kernel_rfl) ?_)
    | (go_at_call 7; (with_reducible refine (put_no _ _ _ _ NoT.nil).mono ?_); rintro e wp0 ⟨rfl, hb⟩; dsimp only; have HP0 := Lib.hid (HD0.out.on (Nat.le_refl _) hb); have HKP0 := Lib.hid (blkD HK0.out.2 hb); clear hb)
    | (go_at_call 8; (with_reducible refine (len_no _ _ NoT.nil).mono ?_); rintro e wx ⟨rfl, rfl⟩; dsimp only)
    | (go_at_call 9; (with_reducible refine (bytes_no _ _ NoT.nil).mono ?_); rintro e wy0 ⟨rfl, hb⟩; dsimp only; have HY0 := Lib.hid (HP0.out.on (Nat.le_refl _) hb); have HKY0 := Lib.hid (blkD HKP0.out hb); clear hb)
    | (go_at_call 10; (with_reducible refine (copy_no _ _ NoT.nil).mono ?_); rintro e wx ⟨rfl, rfl⟩; dsimp only)
    | (go_at_call 12; (with_reducible refine (new_any _).mono ?_); rintro e wn0 ⟨rfl, kg0, _, _, hb⟩; dsimp only; have HN0 := Lib.hid (HY0.out.on (Nat.le_refl _) hb); have HKN0 := Lib.hid (blkD HKY0.out hb); have HG0 := Lib.hid (kg0.cell 0); clear hb kg0)
    | (go_at_call 11; (with_reducible refine (same_no _ _ NoT.nil).mono ?_); rintro e wx ⟨rfl, rfl⟩; dsimp only)
    | (go_at_call 11; (with_reducible refine (same_there _ _ _ _ NoT.nil HG0.out).mono ?_); rintro e wx ⟨rfl, rfl⟩; dsimp only))
  have HL1 : Hid (LW w.heap.size w (w.heap.size + 1) (w.heap.size + 2) w.heap.size (some D0) wn0) := Lib.hid ⟨HN0.out.bel, fun d e => (by injection e with e; subst e; exact HKN0.out), HN0.out.gt, HN0.out.bt, HN0.out.rt⟩
  clear HA0 HX0 HB0 HC0 HD0 HP0 HY0 HN0 HKP0 HKY0 HKN0 HG0
  rw [rounds_succ]
  have r1 := HL1.out.bt.cell 1
  simp only [List.getElem?_toArray, List.getElem?_cons_zero, List.getElem?_cons_succ] at r1
  go_wp2_with (first
    | (go_at_call 4; (with_reducible refine (ask_no _ _ _ _ HL1.out.no).mono ?_); rintro e wa1 ⟨rfl, hb⟩; dsimp only; have HA1 := Lib.hid (HL1.out.on (Nat.le_refl _) hb); clear hb)
    | (refine wpList_store_rowTo rfl 32 _ _ rfl rfl wa1.heap.size #[.int .i64 0, .bool false, .slice none 0 0, .slice none 0 0] rfl rfl 32 #[.int .i64 0, .bool false, .slice none 0 0, .slice none 0 0] (Blk.new wa1 32 #[.int .i64 0, .bool false, .slice none 0 0, .slice none 0 0]) (by kernel_rfl) rfl (by kernel_rfl) ?_; have HX1 := Lib.hid (HA1.out.on (Nat.le_refl _) (below_setRow ((Below.refl _ _).alloc (Nat.le_refl _) (.cells #[.int .i64 0, .bool false, .slice none 0 0, .slice none 0 0] 32)) (Nat.le_refl _) #[.int .i64 0, .bool false, .slice none 0 0, .slice none 0 0])))
    | (go_at_call 5; (with_reducible refine (latest_no _ _ _ HX1.out.no).mono ?_); rintro e wb1 ⟨rfl, hb⟩; dsimp only; have HB1 := Lib.hid (HX1.out.on (Nat.le_refl _) hb); clear hb)
    | (go_at_call 6; (with_reducible refine (all_no _ _ HB1.out.no).mono ?_); rintro e wc1 ⟨a1, b1, rfl, ka1, hb⟩; dsimp only; have HC1 := Lib.hid (And.intro (HB1.out.on (Nat.le_refl _) hb) ka1); clear hb ka1; have hnf := fn_eql (.func 17) #[.pointer (some ⟨a1, 0, none⟩), .pointer (some ⟨b1, 0, none⟩)]))
  refine range0 (n := 3) (by omega) rfl (enters_of Try.func17 (by kernel_rfl) rfl) (fun l W hb => all1_none l a1 _ W (HC1.out.2.on hb)) ?_
  intro D1 wd1 hD1 hbd1 hkd1
  have HD1 := Lib.hid (HC1.out.1.on (Nat.le_refl _) hbd1)
  have HK1 := Lib.hid (And.intro (Nat.lt_of_lt_of_le HC1.out.1.bt.lt hD1) hkd1)
  have HO := Lib.hid (Nat.lt_of_lt_of_le (Array.getElem?_eq_some_iff.1 (HC1.out.1.dk D0 rfl)).1 hD1)
  clear hnf hD1 hbd1 hkd1 r1
  go_wp2_with (first
    | (refine wpList_buildTo rfl 32 _ rfl (some 42) rfl #[.int .i64 0, .bool false, .slice none 0 0, .slice none 0 0] (by kernel_rfl) ?_)
    | (go_at_call 7; (with_reducible refine (put_no _ _ _ _ HD1.out.no).mono ?_); rintro e wp1 ⟨rfl, hb⟩; dsimp only; have HP1 := Lib.hid (HD1.out.on (Nat.le_refl _) hb); have HKP1 := Lib.hid (blkD HK1.out.2 hb); clear hb)
    | (go_at_call 8; (with_reducible refine (len_no _ _ HP1.out.no).mono ?_); rintro e wx ⟨rfl, rfl⟩; dsimp only)
    | (go_at_call 9; (with_reducible refine (bytes_no _ _ HP1.out.no).mono ?_); rintro e wy1 ⟨rfl, hb⟩; dsimp only; have HY1 := Lib.hid (HP1.out.on (Nat.le_refl _) hb); have HKY1 := Lib.hid (blkD HKP1.out hb); clear hb)
    | (go_at_call 10; (with_reducible refine (copy_no _ _ HY1.out.no).mono ?_); rintro e wx ⟨rfl, rfl⟩; dsimp only)
    | (go_at_call 12; (with_reducible refine (new_any _).mono ?_); rintro e wn1 ⟨rfl, kg1, _, _, hb⟩; dsimp only; have HN1 := Lib.hid (HY1.out.on (Nat.le_refl _) hb); have HKN1 := Lib.hid (blkD HKY1.out hb); have HG1 := Lib.hid (kg1.cell 0); clear hb kg1)
    | (go_at_call 11; (with_reducible refine (same_no _ _ HY1.out.no).mono ?_); rintro e wx ⟨rfl, rfl⟩; dsimp only)
    | (go_at_call 11; (with_reducible refine (same_there _ _ _ _ HN1.out.no HG1.out).mono ?_); rintro e wx ⟨rfl, rfl⟩; dsimp only))
  rw [rounds_succ]
  go_wp2_with (go_at_call 13; (with_reducible refine (known_c _).mono ?_); rintro e wk ⟨rfl, hb⟩; dsimp only; have HZ := Lib.hid (HN1.out.on (Nat.le_refl _) hb); have HKZ := Lib.hid (blkD HKN1.out hb); have frz := (HN1.out.rt.on hb).frozen 0; have crz := (HN1.out.rt.on hb).cell 0; clear hb)
  rw [← HQ.out]
  have h0 := HK0.out.1
  have h1 := HO.out
  exact fin2 (D0 := D0) (D1 := D1) (r := w.heap.size) _ rfl (by omega) h1 (Nat.le_refl _) ((Below.heap_setCell wk ⟨w.heap.size, 0, none⟩ (.bool true) D0 (by show D0 ≠ w.heap.size; omega)).trans (HZ.out.dk D0 rfl)) ((Below.heap_setCell wk ⟨w.heap.size, 0, none⟩ (.bool true) D1 (by show D1 ≠ w.heap.size; omega)).trans HKZ.out) (by simpa using HZ.out.rt.set_ 0 (.bool true)) (HZ.out.bel.setCell (p := ⟨w.heap.size, 0, none⟩) (Nat.le_refl _) (.bool true))
end Go.Proofs.Ytknjlholbelpbaa.Tlv
