/- The chapter's requests: may they be? -/
import Derived.Test.YtnokghnjbonmiaaGreatDoorTPutM
import Derived.Test.YtnokghnjbonmiaaGreatDoorS1
import Derived.Deep.RegionLaw
import Derived.Deep.RegionHeld3
import Derived.Deep.DeepCutAuto
namespace Go.Proofs.YtnokghnjbonmiaaGreatDoor.Tlv
open Go.RowKit
set_option maxRecDepth 100000
set_option linter.unusedVariables false
set_option linter.unusedSimpArgs false

/-- Lookup of a. -/
abbrev opCs : List Value := [.int .i64 6, .string ⟨#[97]⟩, .string ⟨#[]⟩, .slice none 0 0, .slice none 0 0, .slice none 0 0, .int .i64 0]
abbrev opV : Value := .agg #[.int .i64 6, .string ⟨#[97]⟩, .string ⟨#[]⟩, .slice none 0 0, .slice none 0 0, .slice none 0 0, .int .i64 0]
/-- A request of client 1, of a number, that looks a up. -/
abbrev rqV (n : Int) : Value := .agg #[.int .u64 1, .int .u64 n, .int .i64 6, .string ⟨#[97]⟩, .string ⟨#[]⟩, .slice none 0 0, .slice none 0 0, .slice none 0 0, .int .i64 0]
theorem fields6 (w : World) : Calls Tryz.prog 22 #[.int .i64 6] w fun e w' => e = .returned (.tuple #[.agg #[.bool true, .bool false, .bool false, .bool false, .bool false], .bool true]) ∧ Below w.heap.size w w' := by
  go_enter Tryz.func22, Tryz.ntmps22
  go_wp2
  exact bodyPost_ret (v := .tuple #[.agg #[.bool true, .bool false, .bool false, .bool false, .bool false], .bool true]) (by simp [results, Tryz.f22, go_sem]) rfl ⟨rfl, (Below.refl _ _).alloc (Nat.le_refl _) _⟩
theorem mayAttrs6 (w : World) : Calls Tryz.prog 24 #[opV] w fun e w' => e = .returned (.bool true) ∧ Below w.heap.size w w' := by
  go_enter Tryz.func24, Tryz.ntmps24
  go_wp2
  go_ret
  exact ⟨rfl, (Below.refl _ _).alloc (Nat.le_refl _) _⟩
theorem mayParts6 (w : World) : Calls Tryz.prog 25 #[.bool false, .slice none 0 0] w fun e w' => e = .returned (.bool true) ∧ w = w' := by
  go_enter Tryz.func25, Tryz.ntmps25
  go_wp2
  go_ret
  exact ⟨rfl, rfl⟩
theorem mayPage6 (w : World) : Calls Tryz.prog 26 #[.bool false, opV] w fun e w' => e = .returned (.bool true) ∧ Below w.heap.size w w' := by
  go_enter Tryz.func26, Tryz.ntmps26
  go_wp2
  go_ret
  exact ⟨rfl, (Below.refl _ _).alloc (Nat.le_refl _) _⟩
theorem mayTextA (w : World) : Calls Tryz.prog 23 #[.bool true, .string ⟨#[97]⟩] w fun e w' => e = .returned (.bool true) ∧ w = w' := by
  have HN := Lib.hid (mayName_a w)
  go_enter Tryz.func23, Tryz.ntmps23
  go_wp2_with (go_at_call 34; (with_reducible refine HN.out.mono ?_); rintro e w' ⟨rfl, rfl⟩)
  go_ret
  exact ⟨rfl, rfl⟩
theorem mayTextNo (w : World) : Calls Tryz.prog 23 #[.bool false, .string ⟨#[]⟩] w fun e w' => e = .returned (.bool true) ∧ w = w' := by
  have HN := Lib.hid (mayName_no w)
  go_enter Tryz.func23, Tryz.ntmps23
  go_wp2_with (go_at_call 34; (with_reducible refine HN.out.mono ?_); rintro e w' ⟨rfl, rfl⟩)
  go_ret
  exact ⟨rfl, rfl⟩
def BigB (w : World) (W : World) : Prop := Below w.heap.size w W
set_option maxHeartbeats 4000000 in
theorem mayOp6 (w : World) : Calls Tryz.prog 16 #[opV] w fun e w' => e = .returned (.bool true) ∧ Below w.heap.size w w' := by
  have hb1 := (Below.refl w.heap.size w).alloc (Nat.le_refl _) (.cells #[.int .i64 6, .string ⟨#[97]⟩, .string ⟨#[]⟩, .slice none 0 0, .slice none 0 0, .slice none 0 0, .int .i64 0] 28)
  have k1 := Blk.new w 28 #[.int .i64 6, .string ⟨#[97]⟩, .string ⟨#[]⟩, .slice none 0 0, .slice none 0 0, .slice none 0 0, .int .i64 0]
  have HX := Lib.hid fun W (hb : Below (w.alloc (.cells #[.int .i64 6, .string ⟨#[97]⟩, .string ⟨#[]⟩, .slice none 0 0, .slice none 0 0, .slice none 0 0, .int .i64 0] 28)).heap.size (w.alloc (.cells #[.int .i64 6, .string ⟨#[97]⟩, .string ⟨#[]⟩, .slice none 0 0, .slice none 0 0, .slice none 0 0, .int .i64 0] 28)) W) => k1.on hb
  have HB := Lib.hid hb1
  clear hb1 k1
  go_enter Tryz.func16, Tryz.ntmps16
  go_wp2_with fail
  refine (fields6 _).mono ?_
  rintro e w2 ⟨rfl, hb2⟩
  have kf := Blk.new w2 67 #[.bool true, .bool false, .bool false, .bool false, .bool false]
  have hb3 := hb2.alloc hb2.size (.cells #[.bool true, .bool false, .bool false, .bool false, .bool false] 67)
  have HBF := Lib.hid hb3
  have HXF := Lib.hid fun W (hb : Below (w2.alloc (.cells #[.bool true, .bool false, .bool false, .bool false, .bool false] 67)).heap.size (w2.alloc (.cells #[.bool true, .bool false, .bool false, .bool false, .bool false] 67)) W) => And.intro (HX.out W (hb3.trans (hb.mono hb3.size))) (kf.on hb)
  obtain ⟨x, y⟩ := HXF.out _ (Below.refl _ _)
  have a0 := x.cell 0
  have a1 := x.cell 1
  have a2 := x.cell 2
  have a3 := x.cell 3
  have a4 := x.cell 4
  have a5 := x.cell 5
  have a6 := x.cell 6
  have f0 := y.cell 0
  have f1 := y.cell 1
  have f2 := y.cell 2
  have f3 := y.cell 3
  have f4 := y.cell 4
  clear kf hb2 hb3 x y
  go_wp2_with (first
    | (go_at_call 23; (with_reducible refine (mayTextA _).mono ?_); rintro e w' ⟨rfl, rfl⟩)
    | (go_at_call 23; (with_reducible refine (mayTextNo _).mono ?_); rintro e w' ⟨rfl, rfl⟩)
    | (go_at_call 24; (with_reducible refine (mayAttrs6 _).mono ?_); clear a0 a1 a2 a3 a4 a5 a6 f0 f1 f2 f3 f4; rintro e w5 ⟨rfl, hb5⟩; have HB5 := Lib.hid hb5; obtain ⟨x, y⟩ := HXF.out _ hb5; have a0 := x.cell 0; have a1 := x.cell 1; have a2 := x.cell 2; have a3 := x.cell 3; have a4 := x.cell 4; have a5 := x.cell 5; have a6 := x.cell 6; have f3 := y.cell 3; have f4 := y.cell 4; clear hb5 x y)
    | (go_at_call 25; (with_reducible refine (mayParts6 _).mono ?_); rintro e w' ⟨rfl, rfl⟩)
    | (go_at_call 26; (with_reducible refine (mayPage6 _).mono ?_); clear a0 a1 a2 a3 a4 a5 a6 f3 f4; rintro e w6 ⟨rfl, hb6⟩; have HB6 := Lib.hid (HB5.out.trans (hb6.mono HB5.out.size)); clear hb6))
  go_ret
  exact ⟨rfl, HB.out.trans ((HBF.out.trans (HB6.out.mono HBF.out.size)).mono HB.out.size)⟩
/-- The bytes of lookup of a. -/
def opB : List Int := valB 1 (be8 6) ++ valB 2 [97]
end Go.Proofs.YtnokghnjbonmiaaGreatDoor.Tlv
