/- A result's bytes. -/
import Derived.Test.YtknjlholbelpbaaC2
import Derived.Deep.RegionLaw
namespace Go.Proofs.Ytknjlholbelpbaa.Tlv
open Go.RowKit
set_option maxRecDepth 100000
set_option linter.unusedVariables false
set_option linter.unusedSimpArgs false

set_option maxHeartbeats 4000000 in
theorem mayFields8 (w : World) : Calls Try.prog 30 #[r8] w fun e w' => e = .returned (.bool true) ∧ Below w.heap.size w w' := by
  have hb := (Below.refl w.heap.size w).alloc (Nat.le_refl _) (.cells #[.int .i64 8, .bool false, .slice none 0 0, .slice none 0 0] 32)
  go_enter Try.func30, Try.ntmps30
  go_wp2
  go_ret
  exact ⟨rfl, hb⟩
abbrev q8 : List Int := [] ++ valB 1 (be8 8) ++ valB 2 [0] ++ valB 3 [] ++ valB 4 []
theorem below_drew {B : Nat} {a w : World} (h : Below B a w) : Below B a w.drew := ⟨h.os, h.tape, h.output, h.size, h.block⟩
theorem makeS0 (W : World) : (Instr.makeSlice 72 (.int .i64 0) (.int .i64 0)).run Try.prog W = .ok (.slice (some ⟨W.heap.size, 0, none⟩) 0 0) (W.alloc (.cells #[] 30)) := by kernel_rfl
theorem list0 (g B5 base : Nat) (q : List Int) (m : Nat) (w : World) (hs : WS w base g (some q) m) (hb : base ≤ w.heap.size) (hl : q.length ≤ 100000000) (hm : m ≤ 1000000) (hgb : base ≤ g) :
    Hid (Calls Try.prog 34 #[.pointer (some ⟨g, 0, none⟩), .int .u8 3, .int .i64 0, .func (.func 35) #[] #[.pointer (some ⟨B5, 0, none⟩)]] w fun e w' => e = .returned (.pointer (some ⟨g, 0, none⟩)) ∧ WS w' base g (some (q ++ valB 3 [])) (cntS (some q) 3 m) ∧ WB base w w') := Lib.hid (by
  have hz : ∀ k, (allI (fun _ => ([] : List Int)) k).length ≤ 4000000 := fun k => by
    have : allI (fun _ => ([] : List Int)) k = [] := by unfold allI; simp
    rw [this]; decide
  have h := listO_any g B5 base (some q) m 0 (fun _ => []) 3 w hs hb (by decide) (fun k _ _ _ hk => absurd hk (Nat.not_lt_zero k)) (fun k hk => hz k) hgb (by decide) (by decide) (fun l e => by injection e with e; subst e; exact hl) hm
  rw [show allI (fun _ => ([] : List Int)) 0 = [] from rfl, puts_app (by decide)] at h
  exact h)
theorem bytes0 (g base : Nat) (q : List Int) (m : Nat) (w : World) (hs : WS w base g (some q) m) (hb : base ≤ w.heap.size) (hl : q.length ≤ 100000000) (hm : m ≤ 1000000) (hgb : base ≤ g) :
    Hid (Calls Try.prog 36 #[.pointer (some ⟨g, 0, none⟩), .int .u8 4, .slice none 0 0] w fun e w' => e = .returned (.pointer (some ⟨g, 0, none⟩)) ∧ WS w' base g (some (q ++ valB 4 [])) (cntS (some q) 4 m) ∧ WB base w w') := Lib.hid (by
  have h := bytes_any g (some q) m [] 4 none 0 base w hs hb (fun l e => by injection e with e; subst e; exact src_low hs Rd.nil hgb) (fun _ => rfl) (by decide) (by decide) (by decide) (fun l e => by injection e with e; subst e; exact hl) hm hgb
  rw [puts_app (by decide)] at h
  exact h)
set_option maxHeartbeats 16000000 in
theorem resBytes8 (w : World) : Calls Try.prog 21 #[r8] w fun e w' => ∃ A n c, e = .returned (.tuple #[.slice A n c, .int .i64 0]) ∧ Below w.heap.size w w' := by
  have hb := (Below.refl w.heap.size w).alloc (Nat.le_refl _) (.cells #[.int .i64 8, .bool false, .slice none 0 0, .slice none 0 0] 32)
  have k := Blk.new w 32 #[.int .i64 8, .bool false, .slice none 0 0, .slice none 0 0]
  have HB := Lib.hid (And.intro hb k)
  clear hb k
  have hmk := makeS0
  go_enter Try.func21, Try.ntmps21
  go_upto_region 1 with fail
  obtain ⟨W, hW⟩ : ∃ W, W = w.alloc (.cells #[.int .i64 8, .bool false, .slice none 0 0, .slice none 0 0] 32) := ⟨_, rfl⟩
  rw [← hW] at HB ⊢
  clear hW
  go_upto_region 3 with (first
    | (refine wpList_load_row rfl 32 _ rfl w.heap.size rfl 32 #[.int .i64 8, .bool false, .slice none 0 0, .slice none 0 0] (0, 0) _ HB.out.2 rfl rfl (by kernel_rfl) ?_)
    | (with_reducible refine (mayFields8 _).mono ?_; rintro e W1 ⟨rfl, hb1⟩; dsimp only; have HB1 := Lib.hid (And.intro (HB.out.1.trans (hb1.mono HB.out.1.size)) (HB.out.2.on hb1)); clear hb1))
  have c2 := HB1.out.2.cell 2
  have hq := ((Below.refl W1.heap.size W1).alloc (Nat.le_refl _) (.cells #[] 30)).alloc (by simp) (.cells #[.slice (some ⟨W1.heap.size, 0, none⟩) 0 0] 72)
  have kq := Blk.new (W1.alloc (.cells #[] 30)) 72 #[.slice (some ⟨W1.heap.size, 0, none⟩) 0 0]
  rw [World.size_alloc] at kq
  simp only [List.getElem?_toArray, List.getElem?_cons_zero, List.getElem?_cons_succ] at c2
  have HQ := Lib.hid (And.intro hq kq)
  clear hq kq
  go_upto_region 4 with fail
  have HB2 := Lib.hid (And.intro (HB1.out.1.trans (HQ.out.1.mono HB1.out.1.size)) (And.intro (HB1.out.2.on HQ.out.1) HQ.out.2))
  have hz1 : w.heap.size < W1.heap.size + 1 := by have := HB1.out.1.size; omega
  obtain ⟨b2, hb2⟩ : ∃ b, b = W1.heap.size + 1 := ⟨_, rfl⟩
  rw [← hb2] at HB2 hz1 ⊢
  obtain ⟨d2, hd2⟩ : ∃ b, b = W1.heap.size := ⟨_, rfl⟩
  rw [← hd2] at HB2 ⊢
  generalize (W1.alloc (.cells #[] 30)).alloc (.cells #[.slice (some ⟨d2, 0, none⟩) 0 0] 72) = W2 at HB2 ⊢
  have HZ1 := Lib.hid hz1
  clear hz1 hb2 hd2 HQ HB1 c2 hmk HB
  have c2 := HB2.out.2.1.cell 2
  simp only [List.getElem?_toArray, List.getElem?_cons_zero, List.getElem?_cons_succ] at c2
  go_wp2_with fail
  refine wp_loop_rounds 1 ?_
  rw [rounds_succ]
  go_wp2_with fail
  have hws : WS ((W2.alloc (.cells #[.slice none 0 0, .int .i64 0, .int .i64 0] 76)).drew) W2.heap.size W2.heap.size (some []) 0 := ws_new W2
  have hb3 : Below W2.heap.size W2 ((W2.alloc (.cells #[.slice none 0 0, .int .i64 0, .int .i64 0] 76)).drew) := below_drew ((Below.refl _ _).alloc (Nat.le_refl _) _)
  have HN1 := Lib.hid (number_any W2.heap.size (some []) 0 1 8 W2.heap.size _ hws hb3.size (by decide) (by decide) (by decide) (by decide) (fun l e => by injection e with e; subst e; decide) (by decide) (Nat.le_refl _))
  have HB3 := Lib.hid hb3
  have HY := Lib.hid fun W (hb : Below W2.heap.size W2 W) => And.intro (HB2.out.2.1.on hb) (HB2.out.2.2.on hb)
  have hcv : ∀ W, (convert 28 35 (.int .i64 8)).run Try.prog W = .ok (.int .u64 8) W := fun _ => rfl
  have a0 := HB2.out.2.1.cell 0
  have a1 := HB2.out.2.1.cell 1
  have d0 := (HY.out _ ((Below.refl _ _).alloc (Nat.le_refl _) (.cells #[.slice none 0 0, .int .i64 0, .int .i64 0] 76))).1.cell 0
  have d1 := (HY.out _ ((Below.refl _ _).alloc (Nat.le_refl _) (.cells #[.slice none 0 0, .int .i64 0, .int .i64 0] 76))).1.cell 1
  simp only [List.getElem?_toArray, List.getElem?_cons_zero, List.getElem?_cons_succ] at a0 a1 d0 d1
  clear hws hb3 c2
  go_region_law (first
    | (go_simp; (with_reducible refine HN1.out.mono ?_); clear HN1 a0 a1 d0 d1; rintro e w5 ⟨rfl, hs5, hwb5⟩; dsimp only; rw [puts_app (by decide)] at hs5; have HB5 := Lib.hid (HB3.out.trans hwb5.bel); have a1 : w5.cell? ⟨w.heap.size, 1, none⟩ = some (.bool false) := (HY.out _ HB5.out).1.cell 1; have HF := Lib.hid (flag_any W2.heap.size _ _ 2 false W2.heap.size _ hs5 HB5.out.size (by decide) (by decide) (fun l e => by injection e with e; subst e; decide) (by decide) (Nat.le_refl _)); clear hs5 hwb5)
    | (go_simp; (with_reducible refine HF.out.mono ?_); clear HF a1; rintro e w6 ⟨rfl, hs6, hwb6⟩; dsimp only; rw [puts_app (by decide)] at hs6; have HB6 := Lib.hid (HB5.out.trans hwb6.bel); have HS6 := Lib.hid hs6; clear hs6 hwb6))
  all_goals
    have HK6 := Lib.hid (HY.out _ HB6.out)
    have e4 : w6.cell? ⟨b2, 0, none⟩ = some (.slice (some ⟨d2, 0, none⟩) 0 0) := HK6.out.2.cell 0
    have HLI := list0 W2.heap.size b2 W2.heap.size _ _ w6 HS6.out HB6.out.size (by decide) (by decide) (Nat.le_refl _)
    go_upto_region 14 with (go_at_call 34; (with_reducible refine HLI.out.mono ?_); clear HLI e4; rintro e w7 ⟨rfl, hs7, hwb7⟩; dsimp only; have HB7 := Lib.hid (HB6.out.trans hwb7.bel); have HS7 := Lib.hid hs7; clear hs7 hwb7)
    have a3 : w7.cell? ⟨w.heap.size, 3, none⟩ = some (.slice none 0 0) := (HY.out _ HB7.out).1.cell 3
    have HBY := bytes0 W2.heap.size W2.heap.size _ _ w7 HS7.out HB7.out.size (by decide) (by decide) (Nat.le_refl _)
    go_wp2_with (first
      | (go_at_call 36; (with_reducible refine HBY.out.mono ?_); clear HBY a3; rintro e w8 ⟨rfl, hs8, hwb8⟩; dsimp only; have HB8 := Lib.hid (HB7.out.trans hwb8.bel); have HEN := Lib.hid (ended_ws _ _ _ q8 _ hs8 (by decide)); clear hs8 hwb8)
      | (go_at_call 37; (with_reducible refine HEN.out.mono ?_); clear HEN; rintro e w9 ⟨v9, rfl, hr9, hb9⟩; dsimp only; have HB9 := Lib.hid (HB2.out.1.trans ((HB8.out.trans (hb9.mono HB8.out.size)).mono HB2.out.1.size)); obtain ⟨A9, c9, rfl, _, _⟩ := hr9.rd; clear hr9 hb9))
    go_ret2
    exact ⟨A9, _, c9, rfl, HB9.out⟩
theorem mayRes8 (w : World) : Calls Try.prog 19 #[r8] w fun e w' => e = .returned (.bool true) ∧ Below w.heap.size w w' := by
  have hb := (Below.refl w.heap.size w).alloc (Nat.le_refl _) (.cells #[.int .i64 8, .bool false, .slice none 0 0, .slice none 0 0] 32)
  have k := Blk.new w 32 #[.int .i64 8, .bool false, .slice none 0 0, .slice none 0 0]
  have HB := Lib.hid (And.intro hb k)
  clear hb k
  go_enter Try.func19, Try.ntmps19
  go_upto_region 1 with fail
  obtain ⟨W, hW⟩ : ∃ W, W = w.alloc (.cells #[.int .i64 8, .bool false, .slice none 0 0, .slice none 0 0] 32) := ⟨_, rfl⟩
  rw [← hW] at HB ⊢
  clear hW
  go_wp2_with (first
    | (refine wpList_load_row rfl 32 _ rfl w.heap.size rfl 32 #[.int .i64 8, .bool false, .slice none 0 0, .slice none 0 0] (0, 0) _ HB.out.2 rfl rfl (by kernel_rfl) ?_)
    | (with_reducible refine (resBytes8 _).mono ?_; rintro e W1 ⟨A1, n1, c1, rfl, hb1⟩; dsimp only; have HB1 := Lib.hid (HB.out.1.trans (hb1.mono HB.out.1.size)); clear hb1))
  go_ret
  exact ⟨rfl, HB1.out⟩
end Go.Proofs.Ytknjlholbelpbaa.Tlv
