/- The chapter's rows. -/
import Derived.Test.YtidkpdoiblomjaaZ49
import Derived.Test.YtidkpdoiblomjaaZ44
import Derived.Test.YtidkpdoiblomjaaZ46
namespace Go.Proofs.Ytidkpdoiblomjaa.Tlv
open Go.RowKit Go.Maps
set_option maxRecDepth 100000
set_option linter.unusedVariables false
set_option linter.unusedSimpArgs false
abbrev r8 : Res := res0 8
theorem may8 : mayR r8 = true := by decide
theorem good8 : ResGood r8 := ⟨res0_lim 8, fit_few (by decide), by decide⟩
theorem pc8 : putC (fun _ => none) 0 7 3 r8 = 0 := by unfold putC; rw [may8]; rfl
theorem in7 : InU 7 := ⟨by decide, by decide⟩
theorem in3 : InU 3 := ⟨by decide, by decide⟩
theorem put8 (g m : Nat) (w : World) (h : Tab w 0 g m (fun _ => none) 0) : Calls Try.prog 11 #[.pointer (some ⟨g, 0, none⟩), .int .u64 7, .int .u64 3, .agg #[.int .i64 8, .bool false, .slice none 0 0, .slice none 0 0]] w fun e w' =>
   e = .returned (.int .i64 0) ∧ (∃ T, Tab w' 0 g m T 1 ∧ T 7 = some (3, r8)) ∧ w.grownBy w' (some m) := by
 refine (putTab_any g m 0 0 (fun _ => none) 7 3 r8 (.slice none 0 0) (.slice none 0 0) w h in7 in3 (res0_at 8 w) good8 (Nat.zero_le _)).mono fun e w' ⟨h1, h2, h3⟩ => ?_
 have e1 : putN (fun _ => none) 0 7 3 r8 = 1 := by unfold putN; rw [if_pos pc8]; rfl
 rw [pc8] at h1
 rw [e1] at h2
 exact ⟨h1, ⟨_, h2, by unfold putT; rw [if_pos pc8]; rfl⟩, h3⟩
set_option maxHeartbeats 8000000 in
theorem known_c (w : World) : Calls Try.prog 6 #[] w fun e w' => e = .returned (.bool true) ∧ Below w.heap.size w w' := by
 go_enter Try.func6, Try.ntmps6
 go_upto_region 3 with (first
   | (go_at_call 13; (with_reducible refine (new_any 0 _).mono ?_); rintro e w1 ⟨rfl, ht, hz, hb1⟩; dsimp only; have HP := Lib.hid (put8 _ _ w1 ht); have HB1 := Lib.hid hb1; clear ht hz hb1)
   | (refine wpList_buildTo rfl 39 _ rfl (some 11) rfl #[.int .i64 8, .bool false, .slice none 0 0, .slice none 0 0] (by kernel_rfl) ?_)
   | (go_at_call 11; (with_reducible refine HP.out.mono ?_); rintro e w2 ⟨rfl, ⟨T, ht, hT⟩, hg2⟩; dsimp only; have HB2 := Lib.hid (And.intro (HB1.out.grown hg2 HB1.out.size (fun k e => by cases e; exact Nat.le_refl _)) (And.intro ht hT)); clear hg2 ht hT))
 clear HP HB1
 go_upto_region 4 with (first
   | (go_at_call 14; (with_reducible refine (ask_same _ _ 0 1 T 7 3 3 r8 _ HB2.out.2.1 in7 HB2.out.2.2 rfl).mono ?_); rintro e w3 ⟨⟨A5, n5, c5, A6, n6, c6, rfl⟩, hb3⟩; dsimp only; have HB3 := Lib.hid (And.intro (HB2.out.1.trans (hb3.mono HB2.out.1.size)) (HB2.out.2.1.on hb3)); clear hb3)
   | (refine wpList_store_rowTo rfl 39 _ _ rfl rfl w3.heap.size #[.int .i64 8, .bool false, .slice A5 n5 c5, .slice A6 n6 c6] rfl rfl 39 #[.int .i64 0, .bool false, .slice none 0 0, .slice none 0 0] (Blk.new w3 39 #[.int .i64 0, .bool false, .slice none 0 0, .slice none 0 0]) (by kernel_rfl) rfl (by kernel_rfl) ?_))
 have hq : Below w3.heap.size w3 ((w3.alloc (.cells #[.int .i64 0, .bool false, .slice none 0 0, .slice none 0 0] 39)).setRow w3.heap.size #[.int .i64 8, .bool false, .slice A5 n5 c5, .slice A6 n6 c6]) := below_setRow ((Below.refl _ _).alloc (Nat.le_refl _) _) (Nat.le_refl _) _
 have kr : Blk ((w3.alloc (.cells #[.int .i64 0, .bool false, .slice none 0 0, .slice none 0 0] 39)).setRow w3.heap.size #[.int .i64 8, .bool false, .slice A5 n5 c5, .slice A6 n6 c6]) w3.heap.size 39 #[.int .i64 8, .bool false, .slice A5 n5 c5, .slice A6 n6 c6] := (Blk.new w3 39 #[.int .i64 0, .bool false, .slice none 0 0, .slice none 0 0]).row #[.int .i64 8, .bool false, .slice A5 n5 c5, .slice A6 n6 c6]
 obtain ⟨b3, hb3⟩ : ∃ b, b = w3.heap.size := ⟨_, rfl⟩
 have HB4 := Lib.hid (And.intro (HB3.out.1.trans (hq.mono HB3.out.1.size)) (And.intro (HB3.out.2.on hq) kr))
 rw [← hb3] at HB4 ⊢
 generalize (w3.alloc (.cells #[.int .i64 0, .bool false, .slice none 0 0, .slice none 0 0] 39)).setRow b3 #[.int .i64 8, .bool false, .slice A5 n5 c5, .slice A6 n6 c6] = w4 at HB4 ⊢
 have HTT := Lib.hid HB2.out.2.2
 clear hq kr hb3 HB3 HB2
 go_upto_region 5 with (first
   | (go_at_call 14; (with_reducible refine (ask_old _ _ 0 1 T 7 2 3 r8 _ HB4.out.2.1 in7 HTT.out (by decide)).mono ?_); rintro e w5 ⟨rfl, hb5⟩; dsimp only; have HB5 := Lib.hid (And.intro (HB4.out.1.trans (hb5.mono HB4.out.1.size)) (And.intro (HB4.out.2.1.on hb5) (HB4.out.2.2.on hb5))); clear hb5)
   | (refine wpList_store_rowTo rfl 39 _ _ rfl rfl w5.heap.size #[.int .i64 0, .bool false, .slice none 0 0, .slice none 0 0] rfl rfl 39 #[.int .i64 0, .bool false, .slice none 0 0, .slice none 0 0] (Blk.new w5 39 #[.int .i64 0, .bool false, .slice none 0 0, .slice none 0 0]) (by kernel_rfl) rfl (by kernel_rfl) ?_))
 have hq : Below w5.heap.size w5 ((w5.alloc (.cells #[.int .i64 0, .bool false, .slice none 0 0, .slice none 0 0] 39)).setRow w5.heap.size #[.int .i64 0, .bool false, .slice none 0 0, .slice none 0 0]) := below_setRow ((Below.refl _ _).alloc (Nat.le_refl _) _) (Nat.le_refl _) _
 have HB6 := Lib.hid (And.intro (HB5.out.1.trans (hq.mono HB5.out.1.size)) (And.intro (HB5.out.2.1.on hq) (HB5.out.2.2.on hq)))
 generalize (w5.alloc (.cells #[.int .i64 0, .bool false, .slice none 0 0, .slice none 0 0] 39)).setRow w5.heap.size #[.int .i64 0, .bool false, .slice none 0 0, .slice none 0 0] = w6 at HB6 ⊢
 clear hq HB4 HB5
 go_upto_region 6 with (first
   | (go_at_call 14; (with_reducible refine (ask_new _ _ 0 1 T 7 4 3 r8 _ HB6.out.2.1 in7 HTT.out (by decide)).mono ?_); rintro e w7 ⟨rfl, hb7⟩; dsimp only; have HB7 := Lib.hid (And.intro (HB6.out.1.trans (hb7.mono HB6.out.1.size)) (And.intro (HB6.out.2.1.on hb7) (HB6.out.2.2.on hb7))); clear hb7)
   | (refine wpList_store_rowTo rfl 39 _ _ rfl rfl w7.heap.size #[.int .i64 0, .bool false, .slice none 0 0, .slice none 0 0] rfl rfl 39 #[.int .i64 0, .bool false, .slice none 0 0, .slice none 0 0] (Blk.new w7 39 #[.int .i64 0, .bool false, .slice none 0 0, .slice none 0 0]) (by kernel_rfl) rfl (by kernel_rfl) ?_))
 have hq : Below w7.heap.size w7 ((w7.alloc (.cells #[.int .i64 0, .bool false, .slice none 0 0, .slice none 0 0] 39)).setRow w7.heap.size #[.int .i64 0, .bool false, .slice none 0 0, .slice none 0 0]) := below_setRow ((Below.refl _ _).alloc (Nat.le_refl _) _) (Nat.le_refl _) _
 have HB8 := Lib.hid (HB7.out.1.trans (hq.mono HB7.out.1.size))
 have c0 := (HB7.out.2.2.on hq).cell 0
 simp only [List.getElem?_toArray, List.getElem?_cons_zero, List.getElem?_cons_succ] at c0
 generalize (w7.alloc (.cells #[.int .i64 0, .bool false, .slice none 0 0, .slice none 0 0] 39)).setRow w7.heap.size #[.int .i64 0, .bool false, .slice none 0 0, .slice none 0 0] = w8 at HB8 c0 ⊢
 clear hq HB6 HB7
 go_wp2
 go_ret
 exact ⟨rfl, HB8.out⟩
end Go.Proofs.Ytidkpdoiblomjaa.Tlv
