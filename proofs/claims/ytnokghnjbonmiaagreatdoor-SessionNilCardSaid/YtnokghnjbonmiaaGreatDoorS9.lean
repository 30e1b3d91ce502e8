/- The law: what is known. -/
import Derived.Test.YtnokghnjbonmiaaGreatDoorS8
namespace Go.Proofs.YtnokghnjbonmiaaGreatDoor.Tlv
open Go.RowKit
set_option maxRecDepth 100000
set_option linter.unusedVariables false
set_option linter.unusedSimpArgs false

open Go.Lib Go.Sort
set_option maxHeartbeats 8000000 in
theorem known1 (w : World) : Calls Tryz.prog 14 #[] w fun e w' => e = .returned (.bool true) ∧ Below w.heap.size w w' := by
  have HW := Lib.hid (new1 w)
  go_enter Tryz.func14, Tryz.ntmps14
  go_upto_region 3 with (first
    | (refine HW.out.mono ?_; clear HW; rintro e w1 ⟨rfl, kG, hb⟩; dsimp only; have H1 := Lib.hid (And.intro kG hb); clear kG hb)
    | (refine wpList_buildTo rfl 28 _ rfl (some 14) rfl #[.int .i64 6, .string ⟨#[97]⟩, .string ⟨#[]⟩, .slice none 0 0, .slice none 0 0, .slice none 0 0, .int .i64 0] (by kernel_rfl) ?_)
    | (refine wpList_store_rowTo rfl 28 _ _ rfl rfl w1.heap.size #[.int .i64 6, .string ⟨#[97]⟩, .string ⟨#[]⟩, .slice none 0 0, .slice none 0 0, .slice none 0 0, .int .i64 0] rfl rfl 28 #[.int .i64 0, .string ⟨#[]⟩, .string ⟨#[]⟩, .slice none 0 0, .slice none 0 0, .slice none 0 0, .int .i64 0] (Blk.new w1 28 #[.int .i64 0, .string ⟨#[]⟩, .string ⟨#[]⟩, .slice none 0 0, .slice none 0 0, .slice none 0 0, .int .i64 0]) (by kernel_rfl) rfl (by kernel_rfl) ?_))
  have hlt := H1.out.1.lt
  have hne : w1.heap.size ≠ w.heap.size := by omega
  have hb2 : Below w.heap.size w ((w1.alloc (.cells #[.int .i64 0, .string ⟨#[]⟩, .string ⟨#[]⟩, .slice none 0 0, .slice none 0 0, .slice none 0 0, .int .i64 0] 28)).setRow w1.heap.size #[.int .i64 6, .string ⟨#[97]⟩, .string ⟨#[]⟩, .slice none 0 0, .slice none 0 0, .slice none 0 0, .int .i64 0]) := below_setRow (H1.out.2.alloc H1.out.2.size _) H1.out.2.size #[.int .i64 6, .string ⟨#[97]⟩, .string ⟨#[]⟩, .slice none 0 0, .slice none 0 0, .slice none 0 0, .int .i64 0]
  have kG2 : Blk ((w1.alloc (.cells #[.int .i64 0, .string ⟨#[]⟩, .string ⟨#[]⟩, .slice none 0 0, .slice none 0 0, .slice none 0 0, .int .i64 0] 28)).setRow w1.heap.size #[.int .i64 6, .string ⟨#[97]⟩, .string ⟨#[]⟩, .slice none 0 0, .slice none 0 0, .slice none 0 0, .int .i64 0]) w.heap.size 36 #[.int .u64 1, .int .i64 3, .int .u64 0, .bool false, .int .u64 0, .int .u64 0, .int .i64 0, .string ⟨#[]⟩, .string ⟨#[]⟩, .slice none 0 0, .slice none 0 0, .slice none 0 0, .int .i64 0, .int .u64 0, .int .u64 0, .int .i64 0, .bool false, .slice none 0 0, .slice none 0 0, .int .i64 0] := (H1.out.1.alloc (.cells #[.int .i64 0, .string ⟨#[]⟩, .string ⟨#[]⟩, .slice none 0 0, .slice none 0 0, .slice none 0 0, .int .i64 0] 28)).rowFar (fun h => hne h.symm) #[.int .i64 6, .string ⟨#[97]⟩, .string ⟨#[]⟩, .slice none 0 0, .slice none 0 0, .slice none 0 0, .int .i64 0]
  have kO2 : Blk ((w1.alloc (.cells #[.int .i64 0, .string ⟨#[]⟩, .string ⟨#[]⟩, .slice none 0 0, .slice none 0 0, .slice none 0 0, .int .i64 0] 28)).setRow w1.heap.size #[.int .i64 6, .string ⟨#[97]⟩, .string ⟨#[]⟩, .slice none 0 0, .slice none 0 0, .slice none 0 0, .int .i64 0]) w1.heap.size 28 #[.int .i64 6, .string ⟨#[97]⟩, .string ⟨#[]⟩, .slice none 0 0, .slice none 0 0, .slice none 0 0, .int .i64 0] := (Blk.new w1 28 #[.int .i64 0, .string ⟨#[]⟩, .string ⟨#[]⟩, .slice none 0 0, .slice none 0 0, .slice none 0 0, .int .i64 0]).row #[.int .i64 6, .string ⟨#[97]⟩, .string ⟨#[]⟩, .slice none 0 0, .slice none 0 0, .slice none 0 0, .int .i64 0]
  obtain ⟨k, hk⟩ : ∃ k, k = w1.heap.size := ⟨_, rfl⟩
  rw [← hk] at hb2 kG2 kO2 hne ⊢
  generalize (w1.alloc (.cells #[.int .i64 0, .string ⟨#[]⟩, .string ⟨#[]⟩, .slice none 0 0, .slice none 0 0, .slice none 0 0, .int .i64 0] 28)).setRow k #[.int .i64 6, .string ⟨#[97]⟩, .string ⟨#[]⟩, .slice none 0 0, .slice none 0 0, .slice none 0 0, .int .i64 0] = W at *
  clear hk H1 hlt
  have HA := Lib.hid (ask1 w.heap.size W kG2)
  have HO := Lib.hid kO2
  have HB := Lib.hid hb2
  have HNE := Lib.hid hne
  clear hb2 kG2 kO2 hne
  go_upto_region 4 with (first
    | (refine wpList_load_row rfl 28 _ rfl k rfl 28 #[.int .i64 6, .string ⟨#[97]⟩, .string ⟨#[]⟩, .slice none 0 0, .slice none 0 0, .slice none 0 0, .int .i64 0] (0, 0) _ HO.out rfl rfl (by kernel_rfl) ?_)
    | (go_at_call 4; refine HA.out.mono ?_; clear HA; rintro e w3 ⟨v3, rfl, kG3, hb3, hk3⟩; dsimp only; have HO3 := Lib.hid (hk3 k _ _ HNE.out HO.out); have HB3 := Lib.hid (HB.out.trans hb3); have HA2 := Lib.hid (ask2 w.heap.size w3 kG3); have HSZ := Lib.hid (Nat.le_of_lt kG3.lt); clear kG3 hb3 hk3))
  clear HO
  go_wp2_with (first
    | (refine wpList_load_row rfl 28 _ rfl k rfl 28 #[.int .i64 6, .string ⟨#[97]⟩, .string ⟨#[]⟩, .slice none 0 0, .slice none 0 0, .slice none 0 0, .int .i64 0] (0, 0) _ HO3.out rfl rfl (by kernel_rfl) ?_)
    | (go_at_call 4; refine HA2.out.mono ?_; clear HA2; rintro e w4 ⟨rfl, hb4⟩; dsimp only; have HB4 := Lib.hid (HB3.out.trans (hb4.mono HSZ.out)); clear hb4))
  go_ret
  exact ⟨rfl, HB4.out⟩
end Go.Proofs.YtnokghnjbonmiaaGreatDoor.Tlv
