/- The law: no session. -/
import Derived.Test.YtnokghnjbonmiaaGreatDoorS9
namespace Go.Proofs.YtnokghnjbonmiaaGreatDoor.Tlv
open Go.RowKit
set_option maxRecDepth 100000
set_option linter.unusedVariables false
set_option linter.unusedSimpArgs false

open Go.Lib Go.Sort
theorem ask8_nil (w : World) : Calls Tryz.prog 4 #[.pointer none, .agg #[.int .i64 8, .string ⟨#[]⟩, .string ⟨#[]⟩, .slice none 0 0, .slice none 0 0, .slice none 0 0, .int .i64 0]] w fun e w' => e = .returned (.tuple #[.int .u64 0, .slice none 0 0, .int .i64 1]) ∧ Below w.heap.size w w' := by
  have hb : Below w.heap.size w (w.alloc (.cells #[.int .i64 8, .string ⟨#[]⟩, .string ⟨#[]⟩, .slice none 0 0, .slice none 0 0, .slice none 0 0, .int .i64 0] 28)) := (Below.refl _ _).alloc (Nat.le_refl _) _
  have HN := Lib.hid (none_nil (w.alloc (.cells #[.int .i64 8, .string ⟨#[]⟩, .string ⟨#[]⟩, .slice none 0 0, .slice none 0 0, .slice none 0 0, .int .i64 0] 28)))
  have HB := Lib.hid hb
  clear hb
  go_enter Tryz.func4, Tryz.ntmps4
  go_wp2_with (first
    | (with_reducible refine HN.out.mono ?_; rintro e w1 ⟨rfl, rfl⟩; dsimp only))
  go_ret3
  exact ⟨rfl, HB.out⟩
theorem ask8_zero (g : Nat) (w : World) (h : w.cell? ⟨g, 1, none⟩ = some (.int .i64 0)) : Calls Tryz.prog 4 #[.pointer (some ⟨g, 0, none⟩), .agg #[.int .i64 8, .string ⟨#[]⟩, .string ⟨#[]⟩, .slice none 0 0, .slice none 0 0, .slice none 0 0, .int .i64 0]] w fun e w' => e = .returned (.tuple #[.int .u64 0, .slice none 0 0, .int .i64 1]) ∧ Below w.heap.size w w' := by
  have hb : Below w.heap.size w (w.alloc (.cells #[.int .i64 8, .string ⟨#[]⟩, .string ⟨#[]⟩, .slice none 0 0, .slice none 0 0, .slice none 0 0, .int .i64 0] 28)) := (Below.refl _ _).alloc (Nat.le_refl _) _
  have HN := Lib.hid (none_zero g (w.alloc (.cells #[.int .i64 8, .string ⟨#[]⟩, .string ⟨#[]⟩, .slice none 0 0, .slice none 0 0, .slice none 0 0, .int .i64 0] 28)) ((hb.cell (p := ⟨g, 1, none⟩) (block_lt_of_cell h)).trans h))
  have HB := Lib.hid hb
  clear hb h
  go_enter Tryz.func4, Tryz.ntmps4
  go_wp2_with (first
    | (with_reducible refine HN.out.mono ?_; rintro e w1 ⟨rfl, rfl⟩; dsimp only))
  go_ret3
  exact ⟨rfl, HB.out⟩
def Inv (w W : World) : Prop := Below w.heap.size w W ∧ Blk W w.heap.size 36 #[.int .u64 0, .int .i64 0, .int .u64 0, .bool false, .int .u64 0, .int .u64 0, .int .i64 0, .string ⟨#[]⟩, .string ⟨#[]⟩, .slice none 0 0, .slice none 0 0, .slice none 0 0, .int .i64 0, .int .u64 0, .int .u64 0, .int .i64 0, .bool false, .slice none 0 0, .slice none 0 0, .int .i64 0] ∧ Blk W (w.heap.size + 1) 37 #[.pointer none, .pointer (some ⟨w.heap.size, 0, none⟩)]
theorem Inv.on {w W W' : World} (h : Inv w W) (hb : Below W.heap.size W W') : Inv w W' := ⟨h.1.trans (hb.mono h.1.size), h.2.1.on hb, h.2.2.on hb⟩
theorem Inv.box {w W : World} (h : Inv w W) (t : TypeId) (old cs : Array Value) : Inv w ((W.alloc (.cells old t)).setRow W.heap.size cs) :=
  h.on (below_setRow ((Below.refl _ _).alloc (Nat.le_refl _) _) (Nat.le_refl _) cs)
theorem Inv.c1 {w W : World} (h : Inv w W) : W.cell? ⟨w.heap.size, 1, none⟩ = some (.int .i64 0) := h.2.1.cell 1
set_option maxHeartbeats 16000000 in
theorem lawNil (w : World) : Calls Tryz.prog 3 #[] w fun e w' => e = .returned (.bool true) ∧ Below w.heap.size w w' := by
  have hI : Inv w ((w.alloc (.cells #[.int .u64 0, .int .i64 0, .int .u64 0, .bool false, .int .u64 0, .int .u64 0, .int .i64 0, .string ⟨#[]⟩, .string ⟨#[]⟩, .slice none 0 0, .slice none 0 0, .slice none 0 0, .int .i64 0, .int .u64 0, .int .u64 0, .int .i64 0, .bool false, .slice none 0 0, .slice none 0 0, .int .i64 0] 36)).alloc (.cells #[.pointer none, .pointer (some ⟨w.heap.size, 0, none⟩)] 37)) := by
    refine ⟨((Below.refl _ _).alloc (Nat.le_refl _) _).alloc (by simp) _, (Blk.new w 36 #[.int .u64 0, .int .i64 0, .int .u64 0, .bool false, .int .u64 0, .int .u64 0, .int .i64 0, .string ⟨#[]⟩, .string ⟨#[]⟩, .slice none 0 0, .slice none 0 0, .slice none 0 0, .int .i64 0, .int .u64 0, .int .u64 0, .int .i64 0, .bool false, .slice none 0 0, .slice none 0 0, .int .i64 0]).alloc _, ?_⟩
    have h := Blk.new (w.alloc (.cells #[.int .u64 0, .int .i64 0, .int .u64 0, .bool false, .int .u64 0, .int .u64 0, .int .i64 0, .string ⟨#[]⟩, .string ⟨#[]⟩, .slice none 0 0, .slice none 0 0, .slice none 0 0, .int .i64 0, .int .u64 0, .int .u64 0, .int .i64 0, .bool false, .slice none 0 0, .slice none 0 0, .int .i64 0] 36)) 37 #[.pointer none, .pointer (some ⟨w.heap.size, 0, none⟩)]
    rw [World.size_alloc] at h
    exact h
  have HS0 := Lib.hid hI
  clear hI
  go_enter Tryz.func3, Tryz.ntmps3
  go_upto_region 4 with fail
  obtain ⟨S0, hS⟩ : ∃ S0, S0 = ((w.alloc (.cells #[.int .u64 0, .int .i64 0, .int .u64 0, .bool false, .int .u64 0, .int .u64 0, .int .i64 0, .string ⟨#[]⟩, .string ⟨#[]⟩, .slice none 0 0, .slice none 0 0, .slice none 0 0, .int .i64 0, .int .u64 0, .int .u64 0, .int .i64 0, .bool false, .slice none 0 0, .slice none 0 0, .int .i64 0] 36)).alloc (.cells #[.pointer none, .pointer (some ⟨w.heap.size, 0, none⟩)] 37)) := ⟨_, rfl⟩
  rw [← hS] at HS0 ⊢
  clear hS
  refine wp_loop_rounds 3 ?_
  rw [rounds_succ]
  have r0 := HS0.out.2.2.cell 0
  simp only [List.getElem?_toArray, List.getElem?_cons_zero, List.getElem?_cons_succ] at r0
  go_wp2_with (first
    | (refine wpList_buildTo rfl 28 _ rfl (some 28) rfl #[.int .i64 8, .string ⟨#[]⟩, .string ⟨#[]⟩, .slice none 0 0, .slice none 0 0, .slice none 0 0, .int .i64 0] (by kernel_rfl) ?_)
    | (go_at_call 4; refine (ask8_nil _).mono ?_; rintro e wa0 ⟨rfl, hba⟩; dsimp only; have HA0 := Lib.hid (HS0.out.on hba); clear hba)
    | (go_at_call 5; refine (take_nil _).mono ?_; rintro e wb0 ⟨rfl, hbb⟩; dsimp only; have HB0 := Lib.hid (HA0.out.on hbb); clear hbb)
    | (refine wpList_store_rowTo rfl 34 _ _ rfl rfl wb0.heap.size #[.int .i64 0, .bool false, .slice none 0 0, .slice none 0 0] rfl rfl 34 #[.int .i64 0, .bool false, .slice none 0 0, .slice none 0 0] (Blk.new wb0 34 #[.int .i64 0, .bool false, .slice none 0 0, .slice none 0 0]) (by kernel_rfl) rfl (by kernel_rfl) ?_; have HXB0 := Lib.hid (HB0.out.box 34 #[.int .i64 0, .bool false, .slice none 0 0, .slice none 0 0] #[.int .i64 0, .bool false, .slice none 0 0, .slice none 0 0]))
    | (go_at_call 6; refine (under_nil _).mono ?_; rintro e wc0 ⟨rfl, hbb⟩; dsimp only; have HC0 := Lib.hid (HXB0.out.on hbb); clear hbb)
    | (refine wpList_store_rowTo rfl 30 _ _ rfl rfl wc0.heap.size #[.int .u64 0, .int .u64 0, .int .i64 0, .string ⟨#[]⟩, .string ⟨#[]⟩, .slice none 0 0, .slice none 0 0, .slice none 0 0, .int .i64 0] rfl rfl 30 #[.int .u64 0, .int .u64 0, .int .i64 0, .string ⟨#[]⟩, .string ⟨#[]⟩, .slice none 0 0, .slice none 0 0, .slice none 0 0, .int .i64 0] (Blk.new wc0 30 #[.int .u64 0, .int .u64 0, .int .i64 0, .string ⟨#[]⟩, .string ⟨#[]⟩, .slice none 0 0, .slice none 0 0, .slice none 0 0, .int .i64 0]) (by kernel_rfl) rfl (by kernel_rfl) ?_; have HXC0 := Lib.hid (HC0.out.box 30 #[.int .u64 0, .int .u64 0, .int .i64 0, .string ⟨#[]⟩, .string ⟨#[]⟩, .slice none 0 0, .slice none 0 0, .slice none 0 0, .int .i64 0] #[.int .u64 0, .int .u64 0, .int .i64 0, .string ⟨#[]⟩, .string ⟨#[]⟩, .slice none 0 0, .slice none 0 0, .slice none 0 0, .int .i64 0]))
    | (go_at_call 7; refine (last_nil _).mono ?_; rintro e wd0 ⟨rfl, hbb⟩; dsimp only; have HD0 := Lib.hid (HXC0.out.on hbb); clear hbb)
    | (refine wpList_store_rowTo rfl 34 _ _ rfl rfl wd0.heap.size #[.int .i64 0, .bool false, .slice none 0 0, .slice none 0 0] rfl rfl 34 #[.int .i64 0, .bool false, .slice none 0 0, .slice none 0 0] (Blk.new wd0 34 #[.int .i64 0, .bool false, .slice none 0 0, .slice none 0 0]) (by kernel_rfl) rfl (by kernel_rfl) ?_; have HXD0 := Lib.hid (HD0.out.box 34 #[.int .i64 0, .bool false, .slice none 0 0, .slice none 0 0] #[.int .i64 0, .bool false, .slice none 0 0, .slice none 0 0]))
    | (go_at_call 8; refine (tick_nil _).mono ?_; rintro e wx ⟨rfl, rfl⟩; dsimp only)
    | (go_at_call 9; refine (view_nil _).mono ?_; rintro e wx ⟨rfl, rfl⟩; dsimp only)
    | (go_at_call 10; refine (client_nil _).mono ?_; rintro e wx ⟨rfl, rfl⟩; dsimp only)
    | (go_at_call 11; refine (num_nil _).mono ?_; rintro e wx ⟨rfl, rfl⟩; dsimp only)
    | (go_at_call 12; refine (dropped_nil _).mono ?_; rintro e wx ⟨rfl, rfl⟩; dsimp only)
    | (go_at_call 13; refine (copy_nil _).mono ?_; rintro e wx ⟨rfl, rfl⟩; dsimp only))
  obtain ⟨S1, hS⟩ : ∃ S1, S1 = (wd0.alloc (.cells #[.int .i64 0, .bool false, .slice none 0 0, .slice none 0 0] 34)).setRow wd0.heap.size #[.int .i64 0, .bool false, .slice none 0 0, .slice none 0 0] := ⟨_, rfl⟩
  rw [← hS] at HXD0 ⊢
  have HS1 := HXD0
  clear hS HXD0 HA0 HB0 HC0 HD0 HXB0 HXC0 r0 HS0
  rw [rounds_succ]
  have r1 := HS1.out.2.2.cell 1
  simp only [List.getElem?_toArray, List.getElem?_cons_zero, List.getElem?_cons_succ] at r1
  go_wp2_with (first
    | (refine wpList_buildTo rfl 28 _ rfl (some 28) rfl #[.int .i64 8, .string ⟨#[]⟩, .string ⟨#[]⟩, .slice none 0 0, .slice none 0 0, .slice none 0 0, .int .i64 0] (by kernel_rfl) ?_)
    | (go_at_call 4; refine (ask8_zero _ _ HS1.out.c1).mono ?_; rintro e wa1 ⟨rfl, hba⟩; dsimp only; have HA1 := Lib.hid (HS1.out.on hba); clear hba)
    | (go_at_call 5; refine (take_zero _ _ HA1.out.c1).mono ?_; rintro e wb1 ⟨rfl, hbb⟩; dsimp only; have HB1 := Lib.hid (HA1.out.on hbb); clear hbb)
    | (refine wpList_store_rowTo rfl 34 _ _ rfl rfl wb1.heap.size #[.int .i64 0, .bool false, .slice none 0 0, .slice none 0 0] rfl rfl 34 #[.int .i64 0, .bool false, .slice none 0 0, .slice none 0 0] (Blk.new wb1 34 #[.int .i64 0, .bool false, .slice none 0 0, .slice none 0 0]) (by kernel_rfl) rfl (by kernel_rfl) ?_; have HXB1 := Lib.hid (HB1.out.box 34 #[.int .i64 0, .bool false, .slice none 0 0, .slice none 0 0] #[.int .i64 0, .bool false, .slice none 0 0, .slice none 0 0]))
    | (go_at_call 6; refine (under_zero _ _ HXB1.out.c1).mono ?_; rintro e wc1 ⟨rfl, hbb⟩; dsimp only; have HC1 := Lib.hid (HXB1.out.on hbb); clear hbb)
    | (refine wpList_store_rowTo rfl 30 _ _ rfl rfl wc1.heap.size #[.int .u64 0, .int .u64 0, .int .i64 0, .string ⟨#[]⟩, .string ⟨#[]⟩, .slice none 0 0, .slice none 0 0, .slice none 0 0, .int .i64 0] rfl rfl 30 #[.int .u64 0, .int .u64 0, .int .i64 0, .string ⟨#[]⟩, .string ⟨#[]⟩, .slice none 0 0, .slice none 0 0, .slice none 0 0, .int .i64 0] (Blk.new wc1 30 #[.int .u64 0, .int .u64 0, .int .i64 0, .string ⟨#[]⟩, .string ⟨#[]⟩, .slice none 0 0, .slice none 0 0, .slice none 0 0, .int .i64 0]) (by kernel_rfl) rfl (by kernel_rfl) ?_; have HXC1 := Lib.hid (HC1.out.box 30 #[.int .u64 0, .int .u64 0, .int .i64 0, .string ⟨#[]⟩, .string ⟨#[]⟩, .slice none 0 0, .slice none 0 0, .slice none 0 0, .int .i64 0] #[.int .u64 0, .int .u64 0, .int .i64 0, .string ⟨#[]⟩, .string ⟨#[]⟩, .slice none 0 0, .slice none 0 0, .slice none 0 0, .int .i64 0]))
    | (go_at_call 7; refine (last_zero _ _ HXC1.out.c1).mono ?_; rintro e wd1 ⟨rfl, hbb⟩; dsimp only; have HD1 := Lib.hid (HXC1.out.on hbb); clear hbb)
    | (refine wpList_store_rowTo rfl 34 _ _ rfl rfl wd1.heap.size #[.int .i64 0, .bool false, .slice none 0 0, .slice none 0 0] rfl rfl 34 #[.int .i64 0, .bool false, .slice none 0 0, .slice none 0 0] (Blk.new wd1 34 #[.int .i64 0, .bool false, .slice none 0 0, .slice none 0 0]) (by kernel_rfl) rfl (by kernel_rfl) ?_; have HXD1 := Lib.hid (HD1.out.box 34 #[.int .i64 0, .bool false, .slice none 0 0, .slice none 0 0] #[.int .i64 0, .bool false, .slice none 0 0, .slice none 0 0]))
    | (go_at_call 8; refine (tick_zero _ _ HXD1.out.c1).mono ?_; rintro e wx ⟨rfl, rfl⟩; dsimp only)
    | (go_at_call 9; refine (view_zero _ _ HXD1.out.c1).mono ?_; rintro e wx ⟨rfl, rfl⟩; dsimp only)
    | (go_at_call 10; refine (client_zero _ _ HXD1.out.c1).mono ?_; rintro e wx ⟨rfl, rfl⟩; dsimp only)
    | (go_at_call 11; refine (num_zero _ _ HXD1.out.c1).mono ?_; rintro e wx ⟨rfl, rfl⟩; dsimp only)
    | (go_at_call 12; refine (dropped_zero _ _ HXD1.out.c1).mono ?_; rintro e wx ⟨rfl, rfl⟩; dsimp only)
    | (go_at_call 13; refine (copy_zero _ _ HXD1.out.c1).mono ?_; rintro e wx ⟨rfl, rfl⟩; dsimp only))
  obtain ⟨S2, hS⟩ : ∃ S2, S2 = (wd1.alloc (.cells #[.int .i64 0, .bool false, .slice none 0 0, .slice none 0 0] 34)).setRow wd1.heap.size #[.int .i64 0, .bool false, .slice none 0 0, .slice none 0 0] := ⟨_, rfl⟩
  rw [← hS] at HXD1 ⊢
  have HS2 := HXD1
  clear hS HXD1 HA1 HB1 HC1 HD1 HXB1 HXC1 r1 HS1
  rw [rounds_succ]
  go_wp2_with (go_at_call 14; refine (known1 _).mono ?_; rintro e wk ⟨rfl, hbk⟩; dsimp only; have HK := Lib.hid (HS2.out.1.trans (hbk.mono HS2.out.1.size)); clear hbk)
  go_ret
  exact ⟨rfl, HK.out⟩
end Go.Proofs.YtnokghnjbonmiaaGreatDoor.Tlv
