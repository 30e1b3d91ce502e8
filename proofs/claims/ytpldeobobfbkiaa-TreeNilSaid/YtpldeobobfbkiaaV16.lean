/- No tree: what it answers; the law. -/
import Derived.Test.YtpldeobobfbkiaaV15
import Derived.RangeFuncNested
import Derived.Lib.SlBytesConst
import Derived.RangeFuncCalls
import Derived.RangeFuncLeaves
import Derived.RangeFuncBox
import Derived.Shelf.Abstract
import Derived.Shelf.RegionOpen
import Derived.TacticsInMore
import Derived.LoopNIn
import Derived.LoopIn
import Derived.OwnWalkIn
namespace Go.Proofs.Ytpldeobobfbkiaa.Tlv
open Go.RowKit
set_option maxRecDepth 100000
set_option linter.unusedVariables false
set_option linter.unusedSimpArgs false

theorem put_no (q : Option Addr) (x : Value) (v : Int) (w : World) (h : NoT w q) : Calls Try.prog 4 #[.pointer q, x, .int .i64 v] w fun e w' => e = .returned (.tuple #[.int .i64 0, .bool false]) ∧ w = w' := by
  have HN := Lib.hid (none_no q w h)
  clear h
  go_enter Try.func4, Try.ntmps4
  go_wp2_with (with_reducible refine HN.out.mono ?_; rintro e w1 ⟨rfl, rfl⟩; dsimp only)
  go_ret2
  exact ⟨rfl, rfl⟩
theorem get_no (q : Option Addr) (x : Value) (w : World) (h : NoT w q) : Calls Try.prog 5 #[.pointer q, x] w fun e w' => e = .returned (.tuple #[.int .i64 0, .bool false]) ∧ w = w' := by
  have HN := Lib.hid (none_no q w h)
  clear h
  go_enter Try.func5, Try.ntmps5
  go_wp2_with (with_reducible refine HN.out.mono ?_; rintro e w1 ⟨rfl, rfl⟩; dsimp only)
  go_ret2
  exact ⟨rfl, rfl⟩
theorem len_no (q : Option Addr) (w : World) (h : NoT w q) : Calls Try.prog 9 #[.pointer q] w fun e w' => e = .returned (.int .i64 0) ∧ w = w' := by
  have HN := Lib.hid (none_no q w h)
  clear h
  go_enter Try.func9, Try.ntmps9
  go_wp2_with (with_reducible refine HN.out.mono ?_; rintro e w1 ⟨rfl, rfl⟩; dsimp only)
  go_ret
  exact ⟨rfl, rfl⟩
theorem deg_no (q : Option Addr) (w : World) (h : NoT w q) : Calls Try.prog 10 #[.pointer q] w fun e w' => e = .returned (.int .i64 0) ∧ w = w' := by
  have HN := Lib.hid (none_no q w h)
  clear h
  go_enter Try.func10, Try.ntmps10
  go_wp2_with (with_reducible refine HN.out.mono ?_; rintro e w1 ⟨rfl, rfl⟩; dsimp only)
  go_ret
  exact ⟨rfl, rfl⟩
theorem copy_no (q : Option Addr) (w : World) (h : NoT w q) : Calls Try.prog 12 #[.pointer q] w fun e w' => e = .returned (.pointer none) ∧ w = w' := by
  have HN := Lib.hid (none_no q w h)
  clear h
  go_enter Try.func12, Try.ntmps12
  go_wp2_with (with_reducible refine HN.out.mono ?_; rintro e w1 ⟨rfl, rfl⟩; dsimp only)
  go_ret
  exact ⟨rfl, rfl⟩
theorem del_no (q : Option Addr) (x : Value) (w : World) (h : NoT w q) : Calls Try.prog 6 #[.pointer q, x] w fun e w' => e = .returned (.tuple #[.int .i64 0, .bool false]) ∧ w = w' := by
  have HN := Lib.hid (get_no q x w h)
  clear h
  go_enter Try.func6, Try.ntmps6
  go_wp2_with (with_reducible refine HN.out.mono ?_; rintro e w1 ⟨rfl, rfl⟩; dsimp only)
  go_ret2
  exact ⟨rfl, rfl⟩
theorem shape_no (q : Option Addr) (w : World) (h : NoT w q) : Calls Try.prog 11 #[.pointer q] w fun e w' => e = .returned (.slice none 0 0) ∧ w = w' := by
  have HN := Lib.hid (len_no q w h)
  clear h
  go_enter Try.func11, Try.ntmps11
  go_wp2_with (with_reducible refine HN.out.mono ?_; rintro e w1 ⟨rfl, rfl⟩; dsimp only)
  go_ret
  exact ⟨rfl, rfl⟩
def FromOut (w : World) (e : Ending) (w' : World) : Prop := ∃ a : Nat, e = .returned (.func (.func 23) #[] #[.pointer (some ⟨a, 0, none⟩)]) ∧ Blk w' a 42 #[.slice none 0 0] ∧ Below w.heap.size w w'
theorem from_no (q : Option Addr) (x y : Value) (w : World) (h : NoT w q) : Calls Try.prog 7 #[.pointer q, x, y] w (FromOut w) := by
  have hb : Below w.heap.size w (w.alloc (.cells #[.slice none 0 0] 42)) := (Below.refl _ _).alloc (Nat.le_refl _) _
  have k := Blk.new w 42 #[.slice none 0 0]
  have HB := Lib.hid (And.intro hb k)
  have HN := Lib.hid (none_no q (w.alloc (.cells #[.slice none 0 0] 42)) (h.on hb))
  clear hb k h
  go_enter Try.func7, Try.ntmps7
  go_wp2_with (with_reducible refine HN.out.mono ?_; rintro e w1 ⟨rfl, rfl⟩; dsimp only)
  go_ret
  exact ⟨w.heap.size, rfl, HB.out.2, HB.out.1⟩
theorem all_no (q : Option Addr) (w : World) (h : NoT w q) : Calls Try.prog 8 #[.pointer q] w (FromOut w) := by
  have HN := Lib.hid (from_no q (.slice none 0 0) (.bool false) w h)
  clear h
  go_enter Try.func8, Try.ntmps8
  go_wp2_with ((with_reducible refine HN.out.mono ?_); rintro e w1 ⟨a, rfl, hk, hb⟩; dsimp only)
  go_ret
  exact ⟨a, rfl, hk, hb⟩
theorem all1_none (l a : Nat) (W : World) (h : Blk W a 42 #[.slice none 0 0]) : Calls Try.prog 23 #[.func (.yield l) #[] #[], .pointer (some ⟨a, 0, none⟩)] W fun e W' => (∃ v, e = .returned v) ∧ W = W' := by
  have c0 := h.cell 0
  simp only [List.getElem?_toArray, List.getElem?_cons_zero, List.getElem?_cons_succ] at c0
  clear h
  go_enter Try.func23, Try.ntmps23
  go_wp2
  refine wp_loop_rounds 1 ?_
  rw [rounds_succ]
  go_wp2
  exact bodyPost_end (v := .tuple #[]) (by simp [results, Try.f23, go_sem]) rfl ⟨⟨_, rfl⟩, rfl⟩
open Go.Shelf
/-- A range over a function that hands nothing. -/
theorem range0 {n : Nat} {g : Operand} {ps : Array Tmp} {assign body : Code} {Q : Exit → Act → World → Prop} {a : Act} {w : World} (h1 : 1 ≤ n) {gf : Nat} {lb : Array Value} (hg : a.eval g = .func (.func gf) #[] lb)
    (eg : ∀ args w, (callFunc gf args).run Try.prog w = .ok (.enter gf args) w)
    (hz : ∀ l W, Below w.heap.size w W → Calls Try.prog gf (#[.func (.yield l) #[] #[]] ++ lb) W fun e W' => (∃ v, e = .returned v) ∧ W = W')
    (hdone : ∀ (D : Nat) (W : World), w.heap.size ≤ D → Below w.heap.size w W → W.heap[D]? = some (.deferred (some [])) → Q .normal { a with defers := { target := .collected D, args := #[] } :: a.defers } W) :
    (Code.rangeFunc g ps assign body).wp Try.prog Q a w := by
  refine (wpIn_wide (n := n)).1 ?_
  refine wpIn_rangeFunc_ownH (α := Empty) (encs := fun x => nomatch x) (Kp := fun _ _ => True) (S := fun _ => True) (Sp := fun _ => True) (N := 0) (w0 := w) rfl h1 hg trivial eg
    (fun l J Jx W hW _ _ _ h0 => (callsIn_wide.2 (hz l W hW)).mono fun e W' ⟨hv, hw⟩ => ⟨hv, .inl ⟨[], trivial, hw ▸ h0⟩⟩)
    (fun _ _ => trivial) (fun _ _ _ _ _ _ _ _ => trivial) (Below.refl _ _) (fun x => nomatch x)
    (fun _ W => Below w.heap.size w W) (fun _ _ _ => False) (ownFrom_below (Nat.le_refl _) (Nat.le_refl _)) (fun _ _ _ _ _ h _ _ => h) (Below.refl _ _) (fun x => nomatch x) (fun x => nomatch x)
    (fun _ _ x => nomatch x) (fun _ _ x => nomatch x) (fun D xs W hD _ hI hk => hdone D W hD hI hk) (fun _ _ _ _ _ _ h => h.elim)
/-- The law's own blocks: the result, the zero tree, the list of both, the ranges' deferred calls. -/
structure LW (n0 : Nat) (w0 : World) (g b r : Nat) (ds : List Nat) (W : World) : Prop where
  bel : Below n0 w0 W
  dk : ∀ d ∈ ds, W.heap[d]? = some (.deferred (some []))
  gt : Blk W g 24 #[.int .i64 0, .int .i64 0, .pointer none]
  bt : Blk W b 25 #[.pointer none, .pointer (some ⟨g, 0, none⟩)]
  rt : Blk W r 4 #[.bool false]
theorem LW.on {n0 g b r : Nat} {ds : List Nat} {w0 W W' : World} (h : LW n0 w0 g b r ds W) (hn : n0 ≤ w0.heap.size) (hb : Below W.heap.size W W') : LW n0 w0 g b r ds W' := ⟨h.bel.trans (hb.mono (Nat.le_trans hn h.bel.size)), fun d e => (hb.block d (Array.getElem?_eq_some_iff.1 (h.dk d e)).1).trans (h.dk d e), h.gt.on hb, h.bt.on hb, h.rt.on hb⟩
theorem LW.no {n0 g b r : Nat} {ds : List Nat} {w0 W : World} (h : LW n0 w0 g b r ds W) : NoT W (some ⟨g, 0, none⟩) := .inr ⟨g, rfl, h.gt⟩
theorem LW.add {n0 g b r D : Nat} {ds : List Nat} {w0 W : World} (h : LW n0 w0 g b r ds W) (hD : W.heap[D]? = some (.deferred (some []))) : LW n0 w0 g b r (D :: ds) W := ⟨h.bel, fun d e => by
  rcases List.mem_cons.1 e with e | e
  · subst e; exact hD
  · exact h.dk d e, h.gt, h.bt, h.rt⟩
theorem LW.lt {n0 g b r d : Nat} {ds : List Nat} {w0 W : World} (h : LW n0 w0 g b r ds W) (hd : d ∈ ds) : d < W.heap.size := (Array.getElem?_eq_some_iff.1 (h.dk d hd)).1
/-- The end: four ranges' deferred calls, then the result. -/
theorem fin4 {w W : World} {D0 D1 D2 D3 r : Nat} (tmps : Array Value) (ht : tmps[0]? = some (.pointer (some ⟨r, 0, none⟩))) (hD0 : r < D0) (h01 : D0 < D1) (h12 : D1 < D2) (h23 : D2 < D3) (hr0 : w.heap.size ≤ r) (hk : ∀ d ∈ [D3, D2, D1, D0], W.heap[d]? = some (.deferred (some []))) (hr : Blk W r 4 #[.bool true]) (hB : Below w.heap.size w W) :
    bodyPostM Fence.wide 3 Try.prog Try.f3 (fun e w' => e = .returned (.bool true) ∧ Below w.heap.size w w') .ret { tmps := tmps, defers := [{ target := .collected D3, args := #[] }, { target := .collected D2, args := #[] }, { target := .collected D1, args := #[] }, { target := .collected D0, args := #[] }] } W := by
  have k3 := hk D3 (by simp)
  have k2 := (World.putObj_heap_other (w := W) (r := D3) (o := .deferred none) (by omega)).trans (hk D2 (by simp))
  have k1 := (World.putObj_heap_other (w := W.putObj D3 (.deferred none)) (r := D2) (o := .deferred none) (by omega)).trans ((World.putObj_heap_other (w := W) (r := D3) (o := .deferred none) (by omega)).trans (hk D1 (by simp)))
  have k0 := (World.putObj_heap_other (w := (W.putObj D3 (.deferred none)).putObj D2 (.deferred none)) (r := D1) (o := .deferred none) (by omega)).trans ((World.putObj_heap_other (w := W.putObj D3 (.deferred none)) (r := D2) (o := .deferred none) (by omega)).trans ((World.putObj_heap_other (w := W) (r := D3) (o := .deferred none) (by omega)).trans (hk D0 (by simp))))
  refine ⟨by simp, .inl ⟨_, _, rfl, run_takeDeferred k3, ?_⟩⟩
  refine ⟨by simp, .inl ⟨_, _, rfl, run_takeDeferred k2, ?_⟩⟩
  refine ⟨by simp, .inl ⟨_, _, rfl, run_takeDeferred k1, ?_⟩⟩
  refine ⟨by simp, .inl ⟨_, _, rfl, run_takeDeferred k0, ?_⟩⟩
  have hb : ∀ {W : World} {D' : Nat}, D' ≠ r → Blk W r 4 #[.bool true] → Blk (W.putObj D' (.deferred none)) r 4 #[.bool true] := fun h1 h2 => (World.putObj_heap_other (fun e => h1 e.symm)).trans h2
  have hc := (hb (D' := D0) (by omega) (hb (D' := D1) (by omega) (hb (D' := D2) (by omega) (hb (D' := D3) (by omega) hr)))).cell 0
  have hp : ∀ {W : World} {D' : Nat}, w.heap.size ≤ D' → Below w.heap.size w W → Below w.heap.size w (W.putObj D' (.deferred none)) := fun h1 h2 => h2.grown (grownBy_putObj' _ _ _) h2.size (fun k e => by cases e; exact h1)
  refine ⟨.bool true, ?_, rfl, hp (by omega) (hp (by omega) (hp (by omega) (hp (by omega) hB)))⟩
  simp only [List.getElem?_toArray, List.getElem?_cons_zero, List.getElem?_cons_succ] at hc
  simp [results, Try.f3, go_sem, hc, ht]
theorem NoT.nil {W : World} : NoT W none := .inl rfl
theorem fn_eql (f : Fn) (c : Array Value) (W : World) : (binOp BinOp.eql 32 (Value.func f #[] c) Value.nilFunc).run Try.prog W = .ok (.bool false) W := rfl
theorem ptr_neq (W : World) : (binOp BinOp.neq 25 (Value.pointer none) (Value.pointer none)).run Try.prog W = .ok (.bool false) W := rfl
set_option maxHeartbeats 16000000 in
theorem law_c (w : World) : Calls Try.prog 3 #[] w fun e w' => e = .returned (.bool true) ∧ Below w.heap.size w w' := by
  have hr := (((Blk.new w 4 #[.bool false]).alloc (.cells #[.int .i64 0, .int .i64 0, .pointer none] 24)).alloc (.cells #[.pointer none, .pointer (some ⟨w.heap.size + 1, 0, none⟩)] 25))
  have hg := (Blk.new (w.alloc (.cells #[.bool false] 4)) 24 #[.int .i64 0, .int .i64 0, .pointer none]).alloc (.cells #[.pointer none, .pointer (some ⟨w.heap.size + 1, 0, none⟩)] 25)
  have hb := Blk.new ((w.alloc (.cells #[.bool false] 4)).alloc (.cells #[.int .i64 0, .int .i64 0, .pointer none] 24)) 25 #[.pointer none, .pointer (some ⟨w.heap.size + 1, 0, none⟩)]
  have hB : Below w.heap.size w (((w.alloc (.cells #[.bool false] 4)).alloc (.cells #[.int .i64 0, .int .i64 0, .pointer none] 24)).alloc (.cells #[.pointer none, .pointer (some ⟨w.heap.size + 1, 0, none⟩)] 25)) := (((Below.refl _ w).alloc (Nat.le_refl _) _).alloc (by simp) _).alloc (by simp; omega) _
  simp only [World.size_alloc] at hg hb
  have HL := Lib.hid (LW.mk (ds := []) hB (fun _ e => by cases e) hg hb hr)
  clear hr hg hb hB
  refine (callsIn_wide (n := 3)).1 ?_
  refine callsIn_of_wp_marks Try.func3 rfl trivial ?_ rfl
  refine wpIn_wide.2 ?_
  simp only [Try.ntmps3, List.size_toArray, List.length_cons, List.length_nil, Nat.reduceAdd, Nat.reduceSub, Array.replicate_succ, Array.replicate_zero, List.push_toArray, List.append_toArray, List.nil_append, List.cons_append]
  generalize hQ : bodyPostM _ _ _ _ _ = Q'
  have HQ := Lib.hid hQ
  clear hQ
  go_upto_region 4 with fail
  generalize ((w.alloc (.cells #[.bool false] 4)).alloc (.cells #[.int .i64 0, .int .i64 0, .pointer none] 24)).alloc (.cells #[.pointer none, .pointer (some ⟨w.heap.size + 1, 0, none⟩)] 25) = wl at HL ⊢
  have kc := fun (w : World) (C : Array Value) (n c : Nat) => Lib.run_convert_bytes_const (P := Try.prog) w 29 5 C n c Try.underlying29 Try.underlying5
  refine wp_loop_rounds 3 ?_
  rw [rounds_succ]
  have r0 := HL.out.bt.cell 0
  simp only [List.getElem?_toArray, List.getElem?_cons_zero, List.getElem?_cons_succ] at r0
  have HA0 := Lib.hid (HL.out.on (Nat.le_refl _) ((Below.refl wl.heap.size wl).alloc (Nat.le_refl _) (.cells #[.int .u8 97] 5 (1, 2))))
  go_upto_region 8 with (go_at_call 4; (with_reducible refine (put_no _ _ _ _ NoT.nil).mono ?_); rintro e wx ⟨rfl, rfl⟩; dsimp only)
  generalize wl.alloc (.cells #[.int .u8 97] 5 (1, 2)) = wa0 at HA0 ⊢
  clear r0
  have HB0 := Lib.hid (HA0.out.on (Nat.le_refl _) ((Below.refl wa0.heap.size wa0).alloc (Nat.le_refl _) (.cells #[.int .u8 97] 5 (1, 2))))
  go_upto_region 9 with (go_at_call 5; (with_reducible refine (get_no _ _ _ NoT.nil).mono ?_); rintro e wx ⟨rfl, rfl⟩; dsimp only)
  generalize wa0.alloc (.cells #[.int .u8 97] 5 (1, 2)) = wb0 at HB0 ⊢
  have HC0 := Lib.hid (HB0.out.on (Nat.le_refl _) ((Below.refl wb0.heap.size wb0).alloc (Nat.le_refl _) (.cells #[.int .u8 97] 5 (1, 2))))
  go_upto_region 10 with (go_at_call 6; (with_reducible refine (del_no _ _ _ NoT.nil).mono ?_); rintro e wx ⟨rfl, rfl⟩; dsimp only)
  generalize wb0.alloc (.cells #[.int .u8 97] 5 (1, 2)) = wc0 at HC0 ⊢
  clear HA0 HB0
  go_upto_region 11 with (first
    | (go_at_call 7; (with_reducible refine (from_no _ _ _ _ NoT.nil).mono ?_); rintro e wd0 ⟨a0, rfl, ka0, hb⟩; dsimp only; have HD0 := Lib.hid (HC0.out.on (Nat.le_refl _) hb); have HKa0 := Lib.hid ka0; clear hb ka0)
    | (go_at_call 8; (with_reducible refine (all_no _ _ NoT.nil).mono ?_); rintro e we0 ⟨b0, rfl, kb0, hb⟩; dsimp only; have HE0 := Lib.hid (HD0.out.on (Nat.le_refl _) hb); have HKb0 := Lib.hid (And.intro (HKa0.out.on hb) kb0); clear hb kb0))
  have hnf := fn_eql (.func 23) #[.pointer (some ⟨a0, 0, none⟩)]
  have hnf2 := fn_eql (.func 23) #[.pointer (some ⟨b0, 0, none⟩)]
  go_wp2_with fail
  refine range0 (n := 3) (by omega) rfl (enters_of Try.func23 (by kernel_rfl) rfl) (fun l W hb => all1_none l a0 W (HKb0.out.1.on hb)) ?_
  intro D0 wf0 hD hbd hkd
  have HF0 := Lib.hid ((HE0.out.on (Nat.le_refl _) hbd).add hkd)
  have HKf0 := Lib.hid (HKb0.out.2.on hbd)
  have HO0 := Lib.hid (And.intro (Nat.lt_of_lt_of_le HE0.out.rt.lt hD) (fun d hd => Nat.lt_of_lt_of_le (HE0.out.lt (d := d) hd) hD))
  clear hD hbd hkd hnf hnf2
  go_wp2_with fail
  refine range0 (n := 3) (by omega) rfl (enters_of Try.func23 (by kernel_rfl) rfl) (fun l W hb => all1_none l b0 W (HKf0.out.on hb)) ?_
  intro D1 wg0 hD hbd hkd
  have HG0 := Lib.hid ((HF0.out.on (Nat.le_refl _) hbd).add hkd)
  have HO1 := Lib.hid (And.intro (Nat.lt_of_lt_of_le HF0.out.rt.lt hD) (fun d hd => Nat.lt_of_lt_of_le (HF0.out.lt (d := d) hd) hD))
  clear hD hbd hkd
  go_wp2_with (first
    | (go_at_call 9; (with_reducible refine (len_no _ _ NoT.nil).mono ?_); rintro e wx ⟨rfl, rfl⟩; dsimp only)
    | (go_at_call 10; (with_reducible refine (deg_no _ _ NoT.nil).mono ?_); rintro e wx ⟨rfl, rfl⟩; dsimp only)
    | (go_at_call 11; (with_reducible refine (shape_no _ _ NoT.nil).mono ?_); rintro e wx ⟨rfl, rfl⟩; dsimp only)
    | (go_at_call 12; (with_reducible refine (copy_no _ _ NoT.nil).mono ?_); rintro e wx ⟨rfl, rfl⟩; dsimp only))
  clear HC0 HD0 HE0 HF0 HKa0 HKb0 HKf0
  rw [rounds_succ]
  have r1 := HG0.out.bt.cell 1
  simp only [List.getElem?_toArray, List.getElem?_cons_zero, List.getElem?_cons_succ] at r1
  have HA1 := Lib.hid (HG0.out.on (Nat.le_refl _) ((Below.refl wg0.heap.size wg0).alloc (Nat.le_refl _) (.cells #[.int .u8 97] 5 (1, 2))))
  go_upto_region 8 with (go_at_call 4; (with_reducible refine (put_no _ _ _ _ HA1.out.no).mono ?_); rintro e wx ⟨rfl, rfl⟩; dsimp only)
  generalize wg0.alloc (.cells #[.int .u8 97] 5 (1, 2)) = wa1 at HA1 ⊢
  clear r1
  have HB1 := Lib.hid (HA1.out.on (Nat.le_refl _) ((Below.refl wa1.heap.size wa1).alloc (Nat.le_refl _) (.cells #[.int .u8 97] 5 (1, 2))))
  go_upto_region 9 with (go_at_call 5; (with_reducible refine (get_no _ _ _ HB1.out.no).mono ?_); rintro e wx ⟨rfl, rfl⟩; dsimp only)
  generalize wa1.alloc (.cells #[.int .u8 97] 5 (1, 2)) = wb1 at HB1 ⊢
  have HC1 := Lib.hid (HB1.out.on (Nat.le_refl _) ((Below.refl wb1.heap.size wb1).alloc (Nat.le_refl _) (.cells #[.int .u8 97] 5 (1, 2))))
  go_upto_region 10 with (go_at_call 6; (with_reducible refine (del_no _ _ _ HC1.out.no).mono ?_); rintro e wx ⟨rfl, rfl⟩; dsimp only)
  generalize wb1.alloc (.cells #[.int .u8 97] 5 (1, 2)) = wc1 at HC1 ⊢
  clear HA1 HB1
  go_upto_region 11 with (first
    | (go_at_call 7; (with_reducible refine (from_no _ _ _ _ HC1.out.no).mono ?_); rintro e wd1 ⟨a1, rfl, ka1, hb⟩; dsimp only; have HD1 := Lib.hid (HC1.out.on (Nat.le_refl _) hb); have HKa1 := Lib.hid ka1; clear hb ka1)
    | (go_at_call 8; (with_reducible refine (all_no _ _ HD1.out.no).mono ?_); rintro e we1 ⟨b1, rfl, kb1, hb⟩; dsimp only; have HE1 := Lib.hid (HD1.out.on (Nat.le_refl _) hb); have HKb1 := Lib.hid (And.intro (HKa1.out.on hb) kb1); clear hb kb1))
  have hnf := fn_eql (.func 23) #[.pointer (some ⟨a1, 0, none⟩)]
  have hnf2 := fn_eql (.func 23) #[.pointer (some ⟨b1, 0, none⟩)]
  go_wp2_with fail
  refine range0 (n := 3) (by omega) rfl (enters_of Try.func23 (by kernel_rfl) rfl) (fun l W hb => all1_none l a1 W (HKb1.out.1.on hb)) ?_
  intro D2 wf1 hD hbd hkd
  have HF1 := Lib.hid ((HE1.out.on (Nat.le_refl _) hbd).add hkd)
  have HKf1 := Lib.hid (HKb1.out.2.on hbd)
  have HO2 := Lib.hid (And.intro (Nat.lt_of_lt_of_le HE1.out.rt.lt hD) (fun d hd => Nat.lt_of_lt_of_le (HE1.out.lt (d := d) hd) hD))
  clear hD hbd hkd hnf hnf2
  go_wp2_with fail
  refine range0 (n := 3) (by omega) rfl (enters_of Try.func23 (by kernel_rfl) rfl) (fun l W hb => all1_none l b1 W (HKf1.out.on hb)) ?_
  intro D3 wg1 hD hbd hkd
  have HG1 := Lib.hid ((HF1.out.on (Nat.le_refl _) hbd).add hkd)
  have HO3 := Lib.hid (And.intro (Nat.lt_of_lt_of_le HF1.out.rt.lt hD) (fun d hd => Nat.lt_of_lt_of_le (HF1.out.lt (d := d) hd) hD))
  clear hD hbd hkd
  go_wp2_with (first
    | (go_at_call 9; (with_reducible refine (len_no _ _ HG1.out.no).mono ?_); rintro e wx ⟨rfl, rfl⟩; dsimp only)
    | (go_at_call 10; (with_reducible refine (deg_no _ _ HG1.out.no).mono ?_); rintro e wx ⟨rfl, rfl⟩; dsimp only)
    | (go_at_call 11; (with_reducible refine (shape_no _ _ HG1.out.no).mono ?_); rintro e wx ⟨rfl, rfl⟩; dsimp only)
    | (go_at_call 12; (with_reducible refine (copy_no _ _ HG1.out.no).mono ?_); rintro e wx ⟨rfl, rfl⟩; dsimp only))
  rw [rounds_succ]
  go_wp2_with (go_at_call 13; (with_reducible refine (known_any _).mono ?_); rintro e wk ⟨rfl, hb⟩; dsimp only; have HZ := Lib.hid (HG1.out.on (Nat.le_refl _) hb); have frz := (HG1.out.rt.on hb).frozen 0; have crz := (HG1.out.rt.on hb).cell 0; clear hb)
  rw [← HQ.out]
  have h0 := HO0.out.1
  have h1 := HO1.out.2 D0 (by simp)
  have h2 := HO2.out.2 D1 (by simp)
  have h3 := HO3.out.2 D2 (by simp)
  exact fin4 (D0 := D0) (D1 := D1) (D2 := D2) (D3 := D3) (r := w.heap.size) _ rfl h0 h1 h2 h3 (Nat.le_refl _) (fun d hd => (Below.heap_setCell wk ⟨w.heap.size, 0, none⟩ (.bool true) d (by show d ≠ w.heap.size; simp at hd; rcases hd with rfl | rfl | rfl | rfl <;> omega)).trans (HZ.out.dk d hd)) (by simpa using HZ.out.rt.set_ 0 (.bool true)) (HZ.out.bel.setCell (p := ⟨w.heap.size, 0, none⟩) (Nat.le_refl _) (.bool true))
end Go.Proofs.Ytpldeobobfbkiaa.Tlv
