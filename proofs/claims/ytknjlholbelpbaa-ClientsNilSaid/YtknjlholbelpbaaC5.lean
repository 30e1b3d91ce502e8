/- Put; the chapter's rows. -/
import Derived.Test.YtknjlholbelpbaaC4
namespace Go.Proofs.Ytknjlholbelpbaa.Tlv
open Go.RowKit
set_option maxRecDepth 100000
set_option linter.unusedVariables false
set_option linter.unusedSimpArgs false

theorem put_ob {w : World} {m : Nat} {n0 : Nat} {w0 : World} (hb : Below n0 w0 w) (hm : n0 ≤ m) (hn : n0 ≤ w0.heap.size) (o : Obj) : Below n0 w0 (w.putObj m o) :=
  hb.grown (grownBy_putObj' _ _ _) (Nat.le_trans hn hb.size) (fun k e => by cases e; exact hm)
set_option maxHeartbeats 8000000 in
theorem put7 (g m n0 : Nat) (w : World) (hg : Blk w g 24 #[.map (some m)]) (ho : w.heap[m]? = some mapE) (h0 : n0 ≤ m) (hgm : g ≠ m) : Calls Try.prog 7 #[.pointer (some ⟨g, 0, none⟩), .int .u64 7, .int .u64 3, r8] w fun e w' => e = .returned (.int .i64 0) ∧ Tab w' g m ∧ Below n0 w w' := by
  have hb : Below w.heap.size w (w.alloc (.cells #[.int .i64 8, .bool false, .slice none 0 0, .slice none 0 0] 32)) := (Below.refl _ _).alloc (Nat.le_refl _) _
  have k := Blk.new w 32 #[.int .i64 8, .bool false, .slice none 0 0, .slice none 0 0]
  have hmlt : m < w.heap.size := (Array.getElem?_eq_some_iff.1 ho).1
  have HF := Lib.hid (findAt g m mapE 0 0 false (w.alloc (.cells #[.int .i64 8, .bool false, .slice none 0 0, .slice none 0 0] 32)) ((hg.on hb).cell 0) ((hb.block m hmlt).trans ho) fun W hW => look_e hW)
  have HB := Lib.hid (And.intro hb (And.intro k (And.intro (hg.on hb) ((hb.block m hmlt).trans ho))))
  have HM := Lib.hid (And.intro hmlt (And.intro h0 hgm))
  clear hb k hg ho hmlt h0 hgm
  go_enter Try.func7, Try.ntmps7
  go_upto_region 2 with (first
    | (with_reducible refine HF.out.mono ?_; rintro e w1 ⟨rfl, hb1⟩; dsimp only; have HB1 := Lib.hid (And.intro (HB.out.1.trans (hb1.mono HB.out.1.size)) (And.intro (HB.out.2.1.on hb1) (And.intro (HB.out.2.2.1.on hb1) ((hb1.block m (Nat.lt_of_lt_of_le HM.out.1 HB.out.1.size)).trans HB.out.2.2.2)))); clear hb1)
    | (refine wpList_store_rowTo rfl 48 _ _ rfl rfl w1.heap.size #[.int .u64 0, .int .i64 0, .bool false, .slice none 0 0, .slice none 0 0] rfl rfl 48 #[.int .u64 0, .int .i64 0, .bool false, .slice none 0 0, .slice none 0 0] (Blk.new w1 48 #[.int .u64 0, .int .i64 0, .bool false, .slice none 0 0, .slice none 0 0]) (by kernel_rfl) rfl (by kernel_rfl) ?_))
  have hb2 : Below w1.heap.size w1 ((w1.alloc (.cells #[.int .u64 0, .int .i64 0, .bool false, .slice none 0 0, .slice none 0 0] 48)).setRow w1.heap.size #[.int .u64 0, .int .i64 0, .bool false, .slice none 0 0, .slice none 0 0]) := below_setRow ((Below.refl _ _).alloc (Nat.le_refl _) (.cells #[.int .u64 0, .int .i64 0, .bool false, .slice none 0 0, .slice none 0 0] 48)) (Nat.le_refl _) #[.int .u64 0, .int .i64 0, .bool false, .slice none 0 0, .slice none 0 0]
  generalize (w1.alloc (.cells #[.int .u64 0, .int .i64 0, .bool false, .slice none 0 0, .slice none 0 0] 48)).setRow w1.heap.size #[.int .u64 0, .int .i64 0, .bool false, .slice none 0 0, .slice none 0 0] = W at hb2 ⊢
  have hmW : W.heap[m]? = some mapE := (hb2.block m (Nat.lt_of_lt_of_le HM.out.1 HB1.out.1.size)).trans HB1.out.2.2.2
  have kgW := HB1.out.2.2.1.on hb2
  have kRW := HB1.out.2.1.on hb2
  have HB2 := Lib.hid (And.intro (HB1.out.1.trans (hb2.mono HB1.out.1.size)) (And.intro kRW (And.intro kgW hmW)))
  have HN := Lib.hid (none_there g m W (kgW.cell 0))
  clear hb2 kRW kgW hmW HB1 HF
  have HY := Lib.hid fun (X : World) (hb : Below W.heap.size W X) => And.intro (HB2.out.1.trans (hb.mono HB2.out.1.size)) (And.intro (HB2.out.2.1.on hb) (And.intro (HB2.out.2.2.1.on hb) ((hb.block m (Array.getElem?_eq_some_iff.1 HB2.out.2.2.2).1).trans HB2.out.2.2.2)))
  go_upto_region 6 with (first
    | (go_at_call 18; with_reducible refine HN.out.mono ?_; rintro e w2 ⟨rfl, rfl⟩; dsimp only)
    | (refine wpList_load_row rfl 32 _ rfl w.heap.size rfl 32 #[.int .i64 8, .bool false, .slice none 0 0, .slice none 0 0] (0, 0) _ HB2.out.2.1 rfl rfl (by kernel_rfl) ?_)
    | (go_at_call 19; (with_reducible refine (mayRes8 _).mono ?_); rintro e w3 ⟨rfl, hb3⟩; dsimp only; have HB3 := Lib.hid (And.intro hb3 (HY.out _ hb3)); clear hb3))
  have hlen : ∀ ty, (Builtin.len_ #[22] ty #[.map (some m)]).run Try.prog w3 = .ok (goInt 0) w3 := fun ty => len_e HB3.out.2.2.2.2 ty
  have c0 := HB3.out.2.2.2.1.cell 0
  simp only [List.getElem?_toArray, List.getElem?_cons_zero, List.getElem?_cons_succ] at c0
  go_upto_region 10 with fail
  have hw3 : ∀ n, (w3.drewN n).heap = w3.heap := fun _ => rfl
  have HC := Lib.hid (copy8 w3.drew)
  have hu : ∀ X, Below w3.heap.size w3 X → (Instr.mapUpdate 22 (.map (some m)) (.int .u64 7) row3).run Try.prog X = .ok () (X.putObj m mapP) := fun X hb => upd_e ((hb.block m (Array.getElem?_eq_some_iff.1 HB3.out.2.2.2.2).1).trans HB3.out.2.2.2.2)
  have HU := Lib.hid hu
  clear hu hlen
  have r0 := HB3.out.2.2.1.cell 0
  have r1 := HB3.out.2.2.1.cell 1
  have r2 := HB3.out.2.2.1.cell 2
  have r3 := HB3.out.2.2.1.cell 3
  simp only [List.getElem?_toArray, List.getElem?_cons_zero, List.getElem?_cons_succ] at r0 r1 r2 r3
  go_region_law (first
    | (go_simp; (with_reducible refine HC.out.mono ?_); clear HC c0 r0 r1 r2 r3; rintro e w4 ⟨rfl, hb4⟩; dsimp only; have hb4' : Below w3.heap.size w3 w4 := (below_drew (Below.refl _ _)).trans hb4; have HB4 := Lib.hid hb4'; have hu := HU.out w4 hb4'; have c0 : w4.cell? ⟨g, 0, none⟩ = some (.map (some m)) := (HB3.out.2.2.2.1.on hb4').cell 0; clear hb4 hb4'))
  all_goals
    go_wp2
    go_ret
    have hbF : Below w.heap.size w w4 := HB3.out.2.1.trans (HB4.out.mono HB3.out.2.1.size)
    refine ⟨rfl, ⟨?_, ?_⟩, ?_⟩
    · exact (World.putObj_heap_other HM.out.2.2).trans (HB3.out.2.2.2.1.on HB4.out)
    · have : m < w4.heap.size := Nat.lt_of_lt_of_le HM.out.1 hbF.size
      simp [World.putObj, this]
    · exact put_ob (hbF.mono (Nat.le_trans HM.out.2.1 (Nat.le_of_lt HM.out.1))) HM.out.2.1 (Nat.le_trans HM.out.2.1 (Nat.le_of_lt HM.out.1)) _
set_option maxHeartbeats 8000000 in
theorem known_c (w : World) : Calls Try.prog 13 #[] w fun e w' => e = .returned (.bool true) ∧ Below w.heap.size w w' := by
  go_enter Try.func13, Try.ntmps13
  go_upto_region 3 with (first
    | (go_at_call 12; (with_reducible refine (new_any _).mono ?_); rintro e w1 ⟨rfl, kg, hm, hz, hb1⟩; dsimp only; have HP := Lib.hid (put7 (w.heap.size + 1) w.heap.size w.heap.size w1 kg hm (Nat.le_refl _) (by omega)); have HB1 := Lib.hid hb1; clear kg hm hz hb1)
    | (refine wpList_buildTo rfl 32 _ rfl (some 11) rfl #[.int .i64 8, .bool false, .slice none 0 0, .slice none 0 0] (by kernel_rfl) ?_)
    | (go_at_call 7; with_reducible refine HP.out.mono ?_; rintro e w2 ⟨rfl, ht, hb2⟩; dsimp only; have HB2 := Lib.hid (And.intro (HB1.out.trans hb2) ht); clear hb2 ht))
  clear HP HB1
  go_upto_region 4 with (first
    | (go_at_call 4; (with_reducible refine (ask3 _ _ _ HB2.out.2).mono ?_); rintro e w3 ⟨rfl, hb3⟩; dsimp only; have HB3 := Lib.hid (And.intro (HB2.out.1.trans (hb3.mono HB2.out.1.size)) (HB2.out.2.on hb3)); clear hb3)
    | (refine wpList_store_rowTo rfl 32 _ _ rfl rfl w3.heap.size #[.int .i64 8, .bool false, .slice none 0 0, .slice none 0 0] rfl rfl 32 #[.int .i64 0, .bool false, .slice none 0 0, .slice none 0 0] (Blk.new w3 32 #[.int .i64 0, .bool false, .slice none 0 0, .slice none 0 0]) (by kernel_rfl) rfl (by kernel_rfl) ?_))
  have hq : Below w3.heap.size w3 ((w3.alloc (.cells #[.int .i64 0, .bool false, .slice none 0 0, .slice none 0 0] 32)).setRow w3.heap.size #[.int .i64 8, .bool false, .slice none 0 0, .slice none 0 0]) := below_setRow ((Below.refl _ _).alloc (Nat.le_refl _) _) (Nat.le_refl _) _
  have kr : Blk ((w3.alloc (.cells #[.int .i64 0, .bool false, .slice none 0 0, .slice none 0 0] 32)).setRow w3.heap.size #[.int .i64 8, .bool false, .slice none 0 0, .slice none 0 0]) w3.heap.size 32 #[.int .i64 8, .bool false, .slice none 0 0, .slice none 0 0] := (Blk.new w3 32 #[.int .i64 0, .bool false, .slice none 0 0, .slice none 0 0]).row #[.int .i64 8, .bool false, .slice none 0 0, .slice none 0 0]
  obtain ⟨b3, hb3⟩ : ∃ b, b = w3.heap.size := ⟨_, rfl⟩
  have HB4 := Lib.hid (And.intro (HB3.out.1.trans (hq.mono HB3.out.1.size)) (And.intro (HB3.out.2.on hq) kr))
  rw [← hb3] at HB4 ⊢
  generalize (w3.alloc (.cells #[.int .i64 0, .bool false, .slice none 0 0, .slice none 0 0] 32)).setRow b3 #[.int .i64 8, .bool false, .slice none 0 0, .slice none 0 0] = w4 at HB4 ⊢
  clear hq kr hb3 HB3 HB2
  go_upto_region 5 with (first
    | (go_at_call 4; (with_reducible refine (ask2 _ _ _ HB4.out.2.1).mono ?_); rintro e w5 ⟨rfl, hb5⟩; dsimp only; have HB5 := Lib.hid (And.intro (HB4.out.1.trans (hb5.mono HB4.out.1.size)) (And.intro (HB4.out.2.1.on hb5) (HB4.out.2.2.on hb5))); clear hb5)
    | (refine wpList_store_rowTo rfl 32 _ _ rfl rfl w5.heap.size #[.int .i64 0, .bool false, .slice none 0 0, .slice none 0 0] rfl rfl 32 #[.int .i64 0, .bool false, .slice none 0 0, .slice none 0 0] (Blk.new w5 32 #[.int .i64 0, .bool false, .slice none 0 0, .slice none 0 0]) (by kernel_rfl) rfl (by kernel_rfl) ?_))
  have hq : Below w5.heap.size w5 ((w5.alloc (.cells #[.int .i64 0, .bool false, .slice none 0 0, .slice none 0 0] 32)).setRow w5.heap.size #[.int .i64 0, .bool false, .slice none 0 0, .slice none 0 0]) := below_setRow ((Below.refl _ _).alloc (Nat.le_refl _) _) (Nat.le_refl _) _
  have HB6 := Lib.hid (And.intro (HB5.out.1.trans (hq.mono HB5.out.1.size)) (And.intro (HB5.out.2.1.on hq) (HB5.out.2.2.on hq)))
  generalize (w5.alloc (.cells #[.int .i64 0, .bool false, .slice none 0 0, .slice none 0 0] 32)).setRow w5.heap.size #[.int .i64 0, .bool false, .slice none 0 0, .slice none 0 0] = w6 at HB6 ⊢
  clear hq HB4 HB5
  go_upto_region 6 with (first
    | (go_at_call 4; (with_reducible refine (ask4 _ _ _ HB6.out.2.1).mono ?_); rintro e w7 ⟨rfl, hb7⟩; dsimp only; have HB7 := Lib.hid (And.intro (HB6.out.1.trans (hb7.mono HB6.out.1.size)) (And.intro (HB6.out.2.1.on hb7) (HB6.out.2.2.on hb7))); clear hb7)
    | (refine wpList_store_rowTo rfl 32 _ _ rfl rfl w7.heap.size #[.int .i64 0, .bool false, .slice none 0 0, .slice none 0 0] rfl rfl 32 #[.int .i64 0, .bool false, .slice none 0 0, .slice none 0 0] (Blk.new w7 32 #[.int .i64 0, .bool false, .slice none 0 0, .slice none 0 0]) (by kernel_rfl) rfl (by kernel_rfl) ?_))
  have hq : Below w7.heap.size w7 ((w7.alloc (.cells #[.int .i64 0, .bool false, .slice none 0 0, .slice none 0 0] 32)).setRow w7.heap.size #[.int .i64 0, .bool false, .slice none 0 0, .slice none 0 0]) := below_setRow ((Below.refl _ _).alloc (Nat.le_refl _) _) (Nat.le_refl _) _
  have HB8 := Lib.hid (HB7.out.1.trans (hq.mono HB7.out.1.size))
  have c0 := (HB7.out.2.2.on hq).cell 0
  simp only [List.getElem?_toArray, List.getElem?_cons_zero, List.getElem?_cons_succ] at c0
  generalize (w7.alloc (.cells #[.int .i64 0, .bool false, .slice none 0 0, .slice none 0 0] 32)).setRow w7.heap.size #[.int .i64 0, .bool false, .slice none 0 0, .slice none 0 0] = w8 at HB8 c0 ⊢
  clear hq HB6 HB7
  go_wp2
  go_ret
  exact ⟨rfl, HB8.out⟩
def AllOut (w : World) (e : Ending) (w' : World) : Prop := ∃ a b : Nat, e = .returned (.func (.func 17) #[] #[.pointer (some ⟨a, 0, none⟩), .pointer (some ⟨b, 0, none⟩)]) ∧ Blk w' a 52 #[.slice none 0 0] ∧ Below w.heap.size w w'
/-- All of no table: a closure over two slices of nothing. -/
theorem all_no (q : Option Addr) (w : World) (h : NoT w q) : Calls Try.prog 6 #[.pointer q] w (AllOut w) := by
  have HN := Lib.hid (sorted_no q w h)
  have hmk : ∀ W : World, (Instr.makeSlice 52 (.int .i64 0) (.int .i64 0)).run Try.prog W = .ok (.slice (some ⟨W.heap.size, 0, none⟩) 0 0) (W.alloc (.cells #[] 35)) := fun W => by kernel_rfl
  have hb := ((Below.refl w.heap.size w).alloc (Nat.le_refl _) (.cells #[.slice none 0 0] 52))
  have k := Blk.new w 52 #[.slice none 0 0]
  have HB := Lib.hid (And.intro hb k)
  clear hb k h
  go_enter Try.func6, Try.ntmps6
  go_wp2_with (with_reducible refine HN.out.mono ?_; rintro e w1 ⟨rfl, rfl⟩; dsimp only)
  refine wp_loop_rounds 1 ?_
  rw [rounds_succ]
  go_wp2
  go_ret
  refine ⟨w.heap.size, w.heap.size + 2, by simp, ?_, ?_⟩
  · exact (HB.out.2.alloc _).alloc _
  · exact (HB.out.1.alloc (by simp) _).alloc (by simp; omega) _
theorem all1_none (l a : Nat) (b : Value) (W : World) (h : Blk W a 52 #[.slice none 0 0]) : Calls Try.prog 17 #[.func (.yield l) #[] #[], .pointer (some ⟨a, 0, none⟩), b] W fun e W' => (∃ v, e = .returned v) ∧ W = W' := by
  have c0 := h.cell 0
  simp only [List.getElem?_toArray, List.getElem?_cons_zero, List.getElem?_cons_succ] at c0
  clear h
  go_enter Try.func17, Try.ntmps17
  go_wp2
  refine wp_loop_rounds 1 ?_
  rw [rounds_succ]
  go_wp2
  exact bodyPost_end (v := .tuple #[]) (by simp [results, Try.f17, go_sem]) rfl ⟨⟨_, rfl⟩, rfl⟩
end Go.Proofs.Ytknjlholbelpbaa.Tlv
