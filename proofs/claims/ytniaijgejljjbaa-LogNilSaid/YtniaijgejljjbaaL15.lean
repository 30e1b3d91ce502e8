/- LogNil's walk. -/
import Derived.Test.YtniaijgejljjbaaL14
namespace Go.Proofs.Ytniaijgejljjbaa.Tlv
open Go.RowKit
set_option maxRecDepth 100000
set_option linter.unusedVariables false
set_option linter.unusedSimpArgs false

set_option maxHeartbeats 8000000 in
theorem nil_walk (w : World) : Calls Try.prog 5 #[] w fun e w' => e = .returned (.bool true) ∧ Below w.heap.size w w' := by
  have hb0 : Below w.heap.size w ((w.alloc (.cells #[.bool false, .int .u64 0, .slice none 0 0, .int .i64 0] 54)).alloc (.cells #[.pointer none, .pointer (some ⟨w.heap.size, 0, none⟩)] 27)) := ((Below.refl _ _).alloc (Nat.le_refl _) _).alloc (by simp) _
  have k0 := (Blk.new w 54 #[.bool false, .int .u64 0, .slice none 0 0, .int .i64 0]).alloc (.cells #[.pointer none, .pointer (some ⟨w.heap.size, 0, none⟩)] 27)
  have s0 := Blk.new (w.alloc (.cells #[.bool false, .int .u64 0, .slice none 0 0, .int .i64 0] 54)) 27 #[.pointer none, .pointer (some ⟨w.heap.size, 0, none⟩)]
  rw [World.size_alloc] at s0
  generalize hW0 : (w.alloc (.cells #[.bool false, .int .u64 0, .slice none 0 0, .int .i64 0] 54)).alloc (.cells #[.pointer none, .pointer (some ⟨w.heap.size, 0, none⟩)] 27) = W0 at hb0 k0 s0
  have HB := Lib.hid hb0
  have HS := Lib.hid fun W (hb : Below W0.heap.size W0 W) => s0.on hb
  have HN0 : Hid (∀ W, Below W0.heap.size W0 W → NoLog W none) := Lib.hid fun W hb => .inl rfl
  have HN1 : Hid (∀ W, Below W0.heap.size W0 W → NoLog W (some ⟨w.heap.size, 0, none⟩)) := Lib.hid fun W hb => .inr ⟨_, rfl, k0.on hb⟩
  clear hb0 k0 s0
  subst hW0
  go_enter Try.func5, Try.ntmps5
  go_wp2_with fail
  generalize hW0 : (w.alloc (.cells #[.bool false, .int .u64 0, .slice none 0 0, .int .i64 0] 54)).alloc (.cells #[.pointer none, .pointer (some ⟨w.heap.size, 0, none⟩)] 27) = W0 at HB HS HN0 HN1 ⊢
  clear hW0
  have HC := Lib.hid (Below.refl W0.heap.size W0)
  refine wp_loop_rounds 3 ?_
  rw [rounds_succ]
  have s0 := (HS.out _ HC.out).cell 0
  simp only [List.getElem?_toArray, List.getElem?_cons_zero, List.getElem?_cons_succ] at s0
  go_wp2_with fail
  refine (append_no none _ (HN0.out _ HC.out)).mono ?_
  clear s0
  rintro e wa ⟨rfl, hba⟩
  have HC1 := Lib.hid (HC.out.trans (hba.mono HC.out.size))
  clear hba HC
  go_wp2_with fail
  refine (at_no none 1 _ (HN0.out _ HC1.out)).mono ?_
  rintro e wb ⟨rfl, hbb⟩
  have HC2 := Lib.hid ((HC1.out.trans (hbb.mono HC1.out.size)).alloc (Nat.le_trans HC1.out.size hbb.size) (.cells #[.int .u64 0, .int .u64 0, .int .i64 0, .string ⟨#[]⟩, .string ⟨#[]⟩, .slice none 0 0, .slice none 0 0, .slice none 0 0, .int .i64 0] 42))
  clear hbb HC1
  go_wp2_with fail
  refine (from_no none 0 _ (HN0.out _ HC2.out)).mono ?_
  rintro e wx ⟨rfl, rfl⟩
  go_wp2_with fail
  refine (cut_no none 0 _ (HN0.out _ HC2.out)).mono ?_
  rintro e wx ⟨rfl, rfl⟩
  go_wp2_with fail
  refine (drop_no none 0 _ (HN0.out _ HC2.out)).mono ?_
  rintro e wx ⟨rfl, rfl⟩
  go_wp2_with fail
  refine (base_no none _ (HN0.out _ HC2.out)).mono ?_
  rintro e wx ⟨rfl, rfl⟩
  go_wp2_with fail
  refine (end_no none _ (HN0.out _ HC2.out)).mono ?_
  rintro e wx ⟨rfl, rfl⟩
  go_wp2_with fail
  refine (len_no none _ (HN0.out _ HC2.out)).mono ?_
  rintro e wx ⟨rfl, rfl⟩
  go_wp2_with fail
  refine (size_no none _ (HN0.out _ HC2.out)).mono ?_
  rintro e wx ⟨rfl, rfl⟩
  go_wp2_with fail
  refine (new_any _).mono ?_
  rintro e wx ⟨rfl, rfl⟩
  have HC3 := Lib.hid (HC2.out.alloc HC2.out.size (.cells #[.bool true, .int .u64 0, .slice none 0 0, .int .i64 0] 54))
  clear HC2
  go_wp2_with fail
  refine (begins_no1 none _ _ (HN0.out _ HC3.out)).mono ?_
  rintro e wx ⟨rfl, rfl⟩
  go_wp2_with fail
  refine (new_any _).mono ?_
  rintro e wx ⟨rfl, rfl⟩
  have HC4 := Lib.hid (HC3.out.alloc HC3.out.size (.cells #[.bool true, .int .u64 0, .slice none 0 0, .int .i64 0] 54))
  have kN := Blk.new ((wb.alloc (.cells #[.int .u64 0, .int .u64 0, .int .i64 0, .string ⟨#[]⟩, .string ⟨#[]⟩, .slice none 0 0, .slice none 0 0, .slice none 0 0, .int .i64 0] 42)).alloc (.cells #[.bool true, .int .u64 0, .slice none 0 0, .int .i64 0] 54)) 54 #[.bool true, .int .u64 0, .slice none 0 0, .int .i64 0]
  clear HC3
  have HG := Lib.hid (begins_no2 _ _ _ _ none _ kN (HN0.out _ HC4.out))
  rw [World.size_alloc, World.size_alloc] at HG
  clear kN
  go_wp2_with fail
  refine HG.out.mono ?_
  clear HG
  rintro e wx ⟨rfl, rfl⟩
  go_wp2_with fail
  refine (copy_no none _ (HN0.out _ HC4.out)).mono ?_
  rintro e wx ⟨rfl, rfl⟩
  go_wp2_with fail
  generalize ((wb.alloc (.cells #[.int .u64 0, .int .u64 0, .int .i64 0, .string ⟨#[]⟩, .string ⟨#[]⟩, .slice none 0 0, .slice none 0 0, .slice none 0 0, .int .i64 0] 42)).alloc (.cells #[.bool true, .int .u64 0, .slice none 0 0, .int .i64 0] 54)).alloc (.cells #[.bool true, .int .u64 0, .slice none 0 0, .int .i64 0] 54) = Wc0 at HC4 ⊢
  have HC := HC4
  clear HC4
  rw [rounds_succ]
  have s1 := (HS.out _ HC.out).cell 1
  simp only [List.getElem?_toArray, List.getElem?_cons_zero, List.getElem?_cons_succ] at s1
  go_wp2_with fail
  refine (append_no (some ⟨w.heap.size, 0, none⟩) _ (HN1.out _ HC.out)).mono ?_
  clear s1
  rintro e wa ⟨rfl, hba⟩
  have HC1 := Lib.hid (HC.out.trans (hba.mono HC.out.size))
  clear hba HC
  go_wp2_with fail
  refine (at_no (some ⟨w.heap.size, 0, none⟩) 1 _ (HN1.out _ HC1.out)).mono ?_
  rintro e wb ⟨rfl, hbb⟩
  have HC2 := Lib.hid ((HC1.out.trans (hbb.mono HC1.out.size)).alloc (Nat.le_trans HC1.out.size hbb.size) (.cells #[.int .u64 0, .int .u64 0, .int .i64 0, .string ⟨#[]⟩, .string ⟨#[]⟩, .slice none 0 0, .slice none 0 0, .slice none 0 0, .int .i64 0] 42))
  clear hbb HC1
  go_wp2_with fail
  refine (from_no (some ⟨w.heap.size, 0, none⟩) 0 _ (HN1.out _ HC2.out)).mono ?_
  rintro e wx ⟨rfl, rfl⟩
  go_wp2_with fail
  refine (cut_no (some ⟨w.heap.size, 0, none⟩) 0 _ (HN1.out _ HC2.out)).mono ?_
  rintro e wx ⟨rfl, rfl⟩
  go_wp2_with fail
  refine (drop_no (some ⟨w.heap.size, 0, none⟩) 0 _ (HN1.out _ HC2.out)).mono ?_
  rintro e wx ⟨rfl, rfl⟩
  go_wp2_with fail
  refine (base_no (some ⟨w.heap.size, 0, none⟩) _ (HN1.out _ HC2.out)).mono ?_
  rintro e wx ⟨rfl, rfl⟩
  go_wp2_with fail
  refine (end_no (some ⟨w.heap.size, 0, none⟩) _ (HN1.out _ HC2.out)).mono ?_
  rintro e wx ⟨rfl, rfl⟩
  go_wp2_with fail
  refine (len_no (some ⟨w.heap.size, 0, none⟩) _ (HN1.out _ HC2.out)).mono ?_
  rintro e wx ⟨rfl, rfl⟩
  go_wp2_with fail
  refine (size_no (some ⟨w.heap.size, 0, none⟩) _ (HN1.out _ HC2.out)).mono ?_
  rintro e wx ⟨rfl, rfl⟩
  go_wp2_with fail
  refine (new_any _).mono ?_
  rintro e wx ⟨rfl, rfl⟩
  have HC3 := Lib.hid (HC2.out.alloc HC2.out.size (.cells #[.bool true, .int .u64 0, .slice none 0 0, .int .i64 0] 54))
  clear HC2
  go_wp2_with fail
  refine (begins_no1 (some ⟨w.heap.size, 0, none⟩) _ _ (HN1.out _ HC3.out)).mono ?_
  rintro e wx ⟨rfl, rfl⟩
  go_wp2_with fail
  refine (new_any _).mono ?_
  rintro e wx ⟨rfl, rfl⟩
  have HC4 := Lib.hid (HC3.out.alloc HC3.out.size (.cells #[.bool true, .int .u64 0, .slice none 0 0, .int .i64 0] 54))
  have kN := Blk.new ((wb.alloc (.cells #[.int .u64 0, .int .u64 0, .int .i64 0, .string ⟨#[]⟩, .string ⟨#[]⟩, .slice none 0 0, .slice none 0 0, .slice none 0 0, .int .i64 0] 42)).alloc (.cells #[.bool true, .int .u64 0, .slice none 0 0, .int .i64 0] 54)) 54 #[.bool true, .int .u64 0, .slice none 0 0, .int .i64 0]
  clear HC3
  have HG := Lib.hid (begins_no2 _ _ _ _ (some ⟨w.heap.size, 0, none⟩) _ kN (HN1.out _ HC4.out))
  rw [World.size_alloc, World.size_alloc] at HG
  clear kN
  go_wp2_with fail
  refine HG.out.mono ?_
  clear HG
  rintro e wx ⟨rfl, rfl⟩
  go_wp2_with fail
  refine (copy_no (some ⟨w.heap.size, 0, none⟩) _ (HN1.out _ HC4.out)).mono ?_
  rintro e wx ⟨rfl, rfl⟩
  go_wp2_with fail
  generalize ((wb.alloc (.cells #[.int .u64 0, .int .u64 0, .int .i64 0, .string ⟨#[]⟩, .string ⟨#[]⟩, .slice none 0 0, .slice none 0 0, .slice none 0 0, .int .i64 0] 42)).alloc (.cells #[.bool true, .int .u64 0, .slice none 0 0, .int .i64 0] 54)).alloc (.cells #[.bool true, .int .u64 0, .slice none 0 0, .int .i64 0] 54) = Wc1 at HC4 ⊢
  have HC := HC4
  clear HC4
  rw [rounds_succ]
  go_wp2_with fail
  refine (of_far _).mono ?_
  rintro e wy ⟨rfl, hby⟩
  have HCy := Lib.hid (HC.out.trans (hby.mono HC.out.size))
  clear hby
  go_wp2_with fail
  refine (known_any _).mono ?_
  rintro e wz ⟨rfl, hbz⟩
  have HCz := Lib.hid (HCy.out.trans (hbz.mono HCy.out.size))
  clear hbz
  go_wp2_with fail
  go_ret
  exact ⟨rfl, HB.out.trans (HCz.out.mono HB.out.size)⟩
end Go.Proofs.Ytniaijgejljjbaa.Tlv
