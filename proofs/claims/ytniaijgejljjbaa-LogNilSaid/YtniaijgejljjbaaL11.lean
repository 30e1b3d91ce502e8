/- A log of the chapter's requests: what is dropped. -/
import Derived.Test.YtniaijgejljjbaaL10
import Derived.BigRegion
namespace Go.Proofs.Ytniaijgejljjbaa.Tlv
open Go.RowKit
set_option maxRecDepth 100000
set_option linter.unusedVariables false
set_option linter.unusedSimpArgs false

theorem index_ok (g b k c n : Nat) (A : Option Addr) (z : Value) (w : World) (h : Blk w g 54 #[.bool true, .int .u64 b, .slice A k c, z]) (hb : b ≤ 4611686018427387904) (hk : k ≤ 1000000) (h1 : b ≤ n) (h2 : n ≤ b + k) :
    Calls Try.prog 36 #[.pointer (some ⟨g, 0, none⟩), .int .u64 n] w fun e w' => e = .returned (.tuple #[.int .i64 (n - b : Nat), .int .i64 0]) ∧ w = w' := by
  have c1 : w.cell? ⟨g, 1, none⟩ = some (.int .u64 b) := h.cell 1
  have HN := Lib.hid (none_is g true _ _ _ w h)
  have HE := Lib.hid (end_is g b k c A z w h hb hk)
  have e1 : decide ((n : Int) < (b : Int)) = false := by simp; omega
  have e1' : decide (n < b) = false := by simp; omega
  have e2 : decide (((b + k : Nat) : Int) < (n : Int)) = false := by simp; omega
  have e2' : decide ((b + k : Nat) < n) = false := by simp; omega
  have e3 : IntKind.u64.wrap ((n : Int) - (b : Int)) = ((n - b : Nat) : Int) := by rw [IntKind.wrap_u64]; omega
  have e4 : IntKind.i64.wrap ((n - b : Nat) : Int) = ((n - b : Nat) : Int) := IntWalk.i64_in _ (by omega)
  generalize b + k = q at HE e2 e2'
  generalize n - b = d at e3 e4 ⊢
  clear h h1 h2
  go_enter Try.func36, Try.ntmps36
  go_wp2_with (first
    | (go_at_call 35; (with_reducible refine HN.out.mono ?_); rintro e w1 ⟨rfl, rfl⟩)
    | (go_at_call 20; (with_reducible refine HE.out.mono ?_); rintro e w1 ⟨rfl, rfl⟩))
  go_ret2
  exact ⟨rfl, rfl⟩
theorem size_one (g' c : Nat) (w : World) (cs : Array Value) (h : Blk w g' 66 cs) (n : Int) (hc : ∀ i, i < 10 → cs[i]? = (#[.int .u64 1, .int .u64 n, .int .i64 6, .string ⟨#[97]⟩, .string ⟨#[]⟩, .slice none 0 0, .slice none 0 0, .slice none 0 0, .int .i64 0, .int .i64 50] : Array Value)[i]?) :
    Calls Try.prog 38 #[.slice (some ⟨g', 0, none⟩) 1 c] w fun e w' => e = .returned (.int .i64 50) ∧ Below w.heap.size w w' := by
  have i0 : w.cell? ⟨g', 0, none⟩ = some (.int .u64 1) := (h.cell 0).trans (hc 0 (by decide))
  have i1 : w.cell? ⟨g', 1, none⟩ = some (.int .u64 n) := (h.cell 1).trans (hc 1 (by decide))
  have i2 : w.cell? ⟨g', 2, none⟩ = some (.int .i64 6) := (h.cell 2).trans (hc 2 (by decide))
  have i3 : w.cell? ⟨g', 3, none⟩ = some (.string ⟨#[97]⟩) := (h.cell 3).trans (hc 3 (by decide))
  have i4 : w.cell? ⟨g', 4, none⟩ = some (.string ⟨#[]⟩) := (h.cell 4).trans (hc 4 (by decide))
  have i5 : w.cell? ⟨g', 5, none⟩ = some (.slice none 0 0) := (h.cell 5).trans (hc 5 (by decide))
  have i6 : w.cell? ⟨g', 6, none⟩ = some (.slice none 0 0) := (h.cell 6).trans (hc 6 (by decide))
  have i7 : w.cell? ⟨g', 7, none⟩ = some (.slice none 0 0) := (h.cell 7).trans (hc 7 (by decide))
  have i8 : w.cell? ⟨g', 8, none⟩ = some (.int .i64 0) := (h.cell 8).trans (hc 8 (by decide))
  have i9 : w.cell? ⟨g', 9, none⟩ = some (.int .i64 50) := (h.cell 9).trans (hc 9 (by decide))
  have hb1 := (Below.refl w.heap.size w).alloc (Nat.le_refl _) (.cells #[.int .u64 1, .int .u64 n, .int .i64 6, .string ⟨#[97]⟩, .string ⟨#[]⟩, .slice none 0 0, .slice none 0 0, .slice none 0 0, .int .i64 0, .int .i64 50] 66)
  have HB := Lib.hid hb1
  clear h hb1 hc
  go_enter Try.func38, Try.ntmps38
  go_wp2_with fail
  refine wp_loop_rounds 2 ?_
  rw [rounds_succ]
  go_wp2_with fail
  rw [rounds_succ]
  go_wp2_with fail
  go_ret
  exact ⟨rfl, HB.out⟩
theorem grown_set {w w5 : World} {g : Nat} (h : w.grownBy w5 (some g)) (i : Nat) (u : Value) : w.grownBy (w5.setCell ⟨g, i, none⟩ u) (some g) :=
  ⟨h.os, h.tape, h.output, by rw [World.size_setCell]; exact h.size, fun k hk hne => (Below.heap_setCell w5 ⟨g, i, none⟩ u k (fun e => hne (by rw [e]))).trans (h.block k hk hne)⟩
set_option maxHeartbeats 8000000 in
theorem drop_one (g g' c : Nat) (w : World) (cs : Array Value) (n : Int) (hk : Blk w g 54 #[.bool true, .int .u64 5, .slice (some ⟨g', 0, none⟩) 3 c, .int .i64 150]) (h : Blk w g' 66 cs) (hne : g' ≠ g) (hc3 : 3 ≤ c) (hcm : c ≤ 9223372036854775807) (hc : ∀ i, i < 10 → cs[i]? = (#[.int .u64 1, .int .u64 n, .int .i64 6, .string ⟨#[97]⟩, .string ⟨#[]⟩, .slice none 0 0, .slice none 0 0, .slice none 0 0, .int .i64 0, .int .i64 50] : Array Value)[i]?) :
    Calls Try.prog 18 #[.pointer (some ⟨g, 0, none⟩), .int .u64 6] w fun e w' => e = .returned (.int .i64 0) ∧ Blk w' g 54 #[.bool true, .int .u64 6, .slice (some ⟨g', 10, none⟩) 2 (c - 1), .int .i64 100] ∧ Blk w' g' 66 cs ∧ w.grownBy w' (some g) := by
  have HI : Hid (Calls Try.prog 36 #[.pointer (some ⟨g, 0, none⟩), .int .u64 6] w fun e w' => e = .returned (.tuple #[.int .i64 1, .int .i64 0]) ∧ w = w') := Lib.hid (index_ok g 5 3 c 6 (some ⟨g', 0, none⟩) _ w hk (by decide) (by decide) (by decide) (by decide))
  have c1 : w.cell? ⟨g, 1, none⟩ = some (.int .u64 5) := hk.cell 1
  have c2 : w.cell? ⟨g, 2, none⟩ = some (.slice (some ⟨g', 0, none⟩) 3 c) := hk.cell 2
  have c3 : w.cell? ⟨g, 3, none⟩ = some (.int .i64 150) := hk.cell 3
  have f1 := hk.frozen 1
  have f2 := hk.frozen 2
  have f3 := hk.frozen 3
  have hw100 : IntKind.i64.wrap 100 = 100 := by decide
  have hce : (1 : Int) ≤ (c : Int) := by omega
  have hce2 : (3 : Int) ≤ (c : Int) := by omega
  have hcn : ¬ (c = 1) := by omega
  have hcn2 : ¬ ((c : Int) = 1) := by omega
  have HS := Lib.hid (size_one g' c w.drew cs h n hc)
  have HK := Lib.hid (And.intro hk h)
  clear hk h hc
  go_enter Try.func18, Try.ntmps18
  go_wp2_with (go_at_call 36; (with_reducible refine HI.out.mono ?_); rintro e w1 ⟨rfl, rfl⟩)
  go_region_law (first
    | (go_simp; (with_reducible refine HS.out.mono ?_); clear HS c1 c2 c3 f1 f2 f3; rintro e w5 ⟨rfl, hb5'⟩; dsimp only; have hb5 : Below w.heap.size w w5 := (below_drew (Below.refl _ _)).trans hb5'; clear hb5'; have k5 := HK.out.1.on (w' := w5) hb5; have c1 := k5.cell 1; have c2 := k5.cell 2; have c3 := k5.cell 3; have f1 := k5.frozen 1; have f2 := k5.frozen 2; have f3 := k5.frozen 3; have H5 := Lib.hid (And.intro k5 (And.intro (HK.out.2.on (w' := w5) hb5) hb5)); clear k5 hb5; simp only [List.getElem?_toArray, List.getElem?_cons_zero, List.getElem?_cons_succ] at c1 c2 c3))
  all_goals
    clear c1 c2 c3 f1 f2 f3
    have k6 : Blk (w5.setCell ⟨g, 3, none⟩ (.int .i64 100)) g 54 #[.bool true, .int .u64 5, .slice (some ⟨g', 0, none⟩) 3 c, .int .i64 100] := H5.out.1.set_ 3 (.int .i64 100)
    have h6 := H5.out.2.1.far (p := ⟨g, 3, none⟩) hne (.int .i64 100)
    have g6 : w.grownBy (w5.setCell ⟨g, 3, none⟩ (.int .i64 100)) (some g) := grown_set ⟨H5.out.2.2.os, H5.out.2.2.tape, H5.out.2.2.output, H5.out.2.2.size, fun k hk _ => H5.out.2.2.block k hk⟩ 3 _
    generalize w5.setCell ⟨g, 3, none⟩ (.int .i64 100) = w6 at k6 h6 g6 ⊢
    have c1 := k6.cell 1
    have c2 := k6.cell 2
    have f1 := k6.frozen 1
    have f2 := k6.frozen 2
    simp only [List.getElem?_toArray, List.getElem?_cons_zero, List.getElem?_cons_succ] at c1 c2
    have H6 := Lib.hid (And.intro k6 (And.intro h6 g6))
    clear k6 h6 g6
    go_wp2_with fail
    go_region
    all_goals
      have k7 := (H6.out.1.set_ 1 (.int .u64 6)).set_ 2 (.slice (some ⟨g', 10, none⟩) 2 (c - 1))
      have h7 := (H6.out.2.1.far (p := ⟨g, 1, none⟩) hne (.int .u64 6)).far (p := ⟨g, 2, none⟩) hne (.slice (some ⟨g', 10, none⟩) 2 (c - 1))
      have g7 := grown_set (grown_set H6.out.2.2 1 (.int .u64 6)) 2 (.slice (some ⟨g', 10, none⟩) 2 (c - 1))
      have H7 := Lib.hid (And.intro k7 (And.intro h7 g7))
      clear k7 h7 g7
      go_wp2
      go_ret
      exact ⟨rfl, H7.out.1, H7.out.2.1, H7.out.2.2.os, H7.out.2.2.tape, H7.out.2.2.output, H7.out.2.2.size, H7.out.2.2.block⟩
set_option maxHeartbeats 8000000 in
theorem at_one (g g' c : Nat) (w : World) (cs : Array Value) (n : Int) (hk : Blk w g 54 #[.bool true, .int .u64 6, .slice (some ⟨g', 10, none⟩) 2 c, .int .i64 100]) (h : Blk w g' 66 cs) (hc : ∀ i, i < 10 → cs[10 + i]? = (#[.int .u64 1, .int .u64 n, .int .i64 6, .string ⟨#[97]⟩, .string ⟨#[]⟩, .slice none 0 0, .slice none 0 0, .slice none 0 0, .int .i64 0, .int .i64 50] : Array Value)[i]?) :
    Calls Try.prog 15 #[.pointer (some ⟨g, 0, none⟩), .int .u64 7] w fun e w' => e = .returned (.tuple #[rqV n, .int .i64 0]) ∧ Below w.heap.size w w' := by
  have hb1 := (Below.refl w.heap.size w).alloc (Nat.le_refl _) (.cells #[.int .u64 0, .int .u64 0, .int .i64 0, .string ⟨#[]⟩, .string ⟨#[]⟩, .slice none 0 0, .slice none 0 0, .slice none 0 0, .int .i64 0] 42)
  have kR := Blk.new w 42 #[.int .u64 0, .int .u64 0, .int .i64 0, .string ⟨#[]⟩, .string ⟨#[]⟩, .slice none 0 0, .slice none 0 0, .slice none 0 0, .int .i64 0]
  have hk1 := hk.alloc (.cells #[.int .u64 0, .int .u64 0, .int .i64 0, .string ⟨#[]⟩, .string ⟨#[]⟩, .slice none 0 0, .slice none 0 0, .slice none 0 0, .int .i64 0] 42)
  have h1 := h.alloc (.cells #[.int .u64 0, .int .u64 0, .int .i64 0, .string ⟨#[]⟩, .string ⟨#[]⟩, .slice none 0 0, .slice none 0 0, .slice none 0 0, .int .i64 0] 42)
  have HI : Hid (Calls Try.prog 36 #[.pointer (some ⟨g, 0, none⟩), .int .u64 7] (w.alloc (.cells #[.int .u64 0, .int .u64 0, .int .i64 0, .string ⟨#[]⟩, .string ⟨#[]⟩, .slice none 0 0, .slice none 0 0, .slice none 0 0, .int .i64 0] 42)) fun e w' => e = .returned (.tuple #[.int .i64 1, .int .i64 0]) ∧ (w.alloc (.cells #[.int .u64 0, .int .u64 0, .int .i64 0, .string ⟨#[]⟩, .string ⟨#[]⟩, .slice none 0 0, .slice none 0 0, .slice none 0 0, .int .i64 0] 42)) = w') := Lib.hid (index_ok g 6 2 c 7 (some ⟨g', 10, none⟩) _ _ hk1 (by decide) (by decide) (by decide) (by decide))
  have c2 : (w.alloc (.cells #[.int .u64 0, .int .u64 0, .int .i64 0, .string ⟨#[]⟩, .string ⟨#[]⟩, .slice none 0 0, .slice none 0 0, .slice none 0 0, .int .i64 0] 42)).cell? ⟨g, 2, none⟩ = some (.slice (some ⟨g', 10, none⟩) 2 c) := hk1.cell 2
  have i0 : (w.alloc (.cells #[.int .u64 0, .int .u64 0, .int .i64 0, .string ⟨#[]⟩, .string ⟨#[]⟩, .slice none 0 0, .slice none 0 0, .slice none 0 0, .int .i64 0] 42)).cell? ⟨g', 10, none⟩ = some (.int .u64 1) := (h1.cell 10).trans (hc 0 (by decide))
  have i1 : (w.alloc (.cells #[.int .u64 0, .int .u64 0, .int .i64 0, .string ⟨#[]⟩, .string ⟨#[]⟩, .slice none 0 0, .slice none 0 0, .slice none 0 0, .int .i64 0] 42)).cell? ⟨g', 11, none⟩ = some (.int .u64 n) := (h1.cell 11).trans (hc 1 (by decide))
  have i2 : (w.alloc (.cells #[.int .u64 0, .int .u64 0, .int .i64 0, .string ⟨#[]⟩, .string ⟨#[]⟩, .slice none 0 0, .slice none 0 0, .slice none 0 0, .int .i64 0] 42)).cell? ⟨g', 12, none⟩ = some (.int .i64 6) := (h1.cell 12).trans (hc 2 (by decide))
  have i3 : (w.alloc (.cells #[.int .u64 0, .int .u64 0, .int .i64 0, .string ⟨#[]⟩, .string ⟨#[]⟩, .slice none 0 0, .slice none 0 0, .slice none 0 0, .int .i64 0] 42)).cell? ⟨g', 13, none⟩ = some (.string ⟨#[97]⟩) := (h1.cell 13).trans (hc 3 (by decide))
  have i4 : (w.alloc (.cells #[.int .u64 0, .int .u64 0, .int .i64 0, .string ⟨#[]⟩, .string ⟨#[]⟩, .slice none 0 0, .slice none 0 0, .slice none 0 0, .int .i64 0] 42)).cell? ⟨g', 14, none⟩ = some (.string ⟨#[]⟩) := (h1.cell 14).trans (hc 4 (by decide))
  have i5 : (w.alloc (.cells #[.int .u64 0, .int .u64 0, .int .i64 0, .string ⟨#[]⟩, .string ⟨#[]⟩, .slice none 0 0, .slice none 0 0, .slice none 0 0, .int .i64 0] 42)).cell? ⟨g', 15, none⟩ = some (.slice none 0 0) := (h1.cell 15).trans (hc 5 (by decide))
  have i6 : (w.alloc (.cells #[.int .u64 0, .int .u64 0, .int .i64 0, .string ⟨#[]⟩, .string ⟨#[]⟩, .slice none 0 0, .slice none 0 0, .slice none 0 0, .int .i64 0] 42)).cell? ⟨g', 16, none⟩ = some (.slice none 0 0) := (h1.cell 16).trans (hc 6 (by decide))
  have i7 : (w.alloc (.cells #[.int .u64 0, .int .u64 0, .int .i64 0, .string ⟨#[]⟩, .string ⟨#[]⟩, .slice none 0 0, .slice none 0 0, .slice none 0 0, .int .i64 0] 42)).cell? ⟨g', 17, none⟩ = some (.slice none 0 0) := (h1.cell 17).trans (hc 7 (by decide))
  have i8 : (w.alloc (.cells #[.int .u64 0, .int .u64 0, .int .i64 0, .string ⟨#[]⟩, .string ⟨#[]⟩, .slice none 0 0, .slice none 0 0, .slice none 0 0, .int .i64 0] 42)).cell? ⟨g', 18, none⟩ = some (.int .i64 0) := (h1.cell 18).trans (hc 8 (by decide))
  have HB := Lib.hid (And.intro hb1 kR)
  clear hk h hk1 h1 hc hb1 kR
  go_enter Try.func15, Try.ntmps15
  go_wp2_with (first
    | (go_at_call 36; (with_reducible refine HI.out.mono ?_); rintro e w1 ⟨rfl, rfl⟩)
    | (go_at_call 37; (with_reducible refine (copyReq n _).mono ?_); clear c2 i0 i1 i2 i3 i4 i5 i6 i7 i8; rintro e w2 ⟨rfl, hb2⟩; have kR := HB.out.2.on hb2; have r0 := kR.cell 0; have fr0 := kR.frozen 0; have r1 := kR.cell 1; have fr1 := kR.frozen 1; have r2 := kR.cell 2; have fr2 := kR.frozen 2; have r3 := kR.cell 3; have fr3 := kR.frozen 3; have r4 := kR.cell 4; have fr4 := kR.frozen 4; have r5 := kR.cell 5; have fr5 := kR.frozen 5; have r6 := kR.cell 6; have fr6 := kR.frozen 6; have r7 := kR.cell 7; have fr7 := kR.frozen 7; have r8 := kR.cell 8; have fr8 := kR.frozen 8; simp only [List.getElem?_toArray, List.getElem?_cons_zero, List.getElem?_cons_succ] at r0 r1 r2 r3 r4 r5 r6 r7 r8; have HB2 := Lib.hid (And.intro (HB.out.1.trans (hb2.mono HB.out.1.size)) kR); clear hb2 kR))
  have kS := Lib.hid (Blk.set_ (Blk.set_ (Blk.set_ (Blk.set_ (Blk.set_ (Blk.set_ (Blk.set_ (Blk.set_ (Blk.set_ HB2.out.2 0 (.int .u64 1)) 1 (.int .u64 n)) 2 (.int .i64 6)) 3 (.string ⟨#[97]⟩)) 4 (.string ⟨#[]⟩)) 5 (.slice none 0 0)) 6 (.slice none 0 0)) 7 (.slice none 0 0)) 8 (.int .i64 0))
  have bS := Lib.hid (Below.setCell (p := ⟨w.heap.size, 8, none⟩) (Below.setCell (p := ⟨w.heap.size, 7, none⟩) (Below.setCell (p := ⟨w.heap.size, 6, none⟩) (Below.setCell (p := ⟨w.heap.size, 5, none⟩) (Below.setCell (p := ⟨w.heap.size, 4, none⟩) (Below.setCell (p := ⟨w.heap.size, 3, none⟩) (Below.setCell (p := ⟨w.heap.size, 2, none⟩) (Below.setCell (p := ⟨w.heap.size, 1, none⟩) (Below.setCell (p := ⟨w.heap.size, 0, none⟩) HB2.out.1 (Nat.le_refl _) (.int .u64 1)) (Nat.le_refl _) (.int .u64 n)) (Nat.le_refl _) (.int .i64 6)) (Nat.le_refl _) (.string ⟨#[97]⟩)) (Nat.le_refl _) (.string ⟨#[]⟩)) (Nat.le_refl _) (.slice none 0 0)) (Nat.le_refl _) (.slice none 0 0)) (Nat.le_refl _) (.slice none 0 0)) (Nat.le_refl _) (.int .i64 0))
  generalize hW : (World.setCell (World.setCell (World.setCell (World.setCell (World.setCell (World.setCell (World.setCell (World.setCell (World.setCell w2 ⟨w.heap.size, 0, none⟩ (.int .u64 1)) ⟨w.heap.size, 1, none⟩ (.int .u64 n)) ⟨w.heap.size, 2, none⟩ (.int .i64 6)) ⟨w.heap.size, 3, none⟩ (.string ⟨#[97]⟩)) ⟨w.heap.size, 4, none⟩ (.string ⟨#[]⟩)) ⟨w.heap.size, 5, none⟩ (.slice none 0 0)) ⟨w.heap.size, 6, none⟩ (.slice none 0 0)) ⟨w.heap.size, 7, none⟩ (.slice none 0 0)) ⟨w.heap.size, 8, none⟩ (.int .i64 0)) = W at kS bS ⊢
  have t0 := kS.out.cell 0
  have t1 := kS.out.cell 1
  have t2 := kS.out.cell 2
  have t3 := kS.out.cell 3
  have t4 := kS.out.cell 4
  have t5 := kS.out.cell 5
  have t6 := kS.out.cell 6
  have t7 := kS.out.cell 7
  have t8 := kS.out.cell 8
  simp at t0 t1 t2 t3 t4 t5 t6 t7 t8
  exact bodyPost_ret (v := .tuple #[rqV n, .int .i64 0]) (by simp [results, Try.f15, go_sem, t0, t1, t2, t3, t4, t5, t6, t7, t8]) rfl ⟨rfl, bS.out⟩
end Go.Proofs.Ytniaijgejljjbaa.Tlv
