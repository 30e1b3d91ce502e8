/- A session asks. -/
import Derived.Test.YtnokghnjbonmiaaGreatDoorS7
import Derived.Deep.RegionLaw
import Derived.Deep.DeepCutAuto
namespace Go.Proofs.YtnokghnjbonmiaaGreatDoor.Tlv
open Go.RowKit
set_option maxRecDepth 100000
set_option linter.unusedVariables false
set_option linter.unusedSimpArgs false

open Go.Lib Go.Sort
theorem ask_nil (w : World) : Calls Tryz.prog 4 #[.pointer none, .agg #[.int .i64 8, .string ⟨#[97]⟩, .string ⟨#[]⟩, .slice none 0 0, .slice none 0 0, .slice none 0 0, .int .i64 0]] w fun e w' => e = .returned (.tuple #[.int .u64 0, .slice none 0 0, .int .i64 1]) ∧ Below w.heap.size w w' := by
  have hb : Below w.heap.size w (w.alloc (.cells #[.int .i64 8, .string ⟨#[97]⟩, .string ⟨#[]⟩, .slice none 0 0, .slice none 0 0, .slice none 0 0, .int .i64 0] 28)) := (Below.refl _ _).alloc (Nat.le_refl _) _
  have HN := Lib.hid (none_nil (w.alloc (.cells #[.int .i64 8, .string ⟨#[97]⟩, .string ⟨#[]⟩, .slice none 0 0, .slice none 0 0, .slice none 0 0, .int .i64 0] 28)))
  have HB := Lib.hid hb
  clear hb
  go_enter Tryz.func4, Tryz.ntmps4
  go_wp2_with (first
    | (with_reducible refine HN.out.mono ?_; rintro e w1 ⟨rfl, rfl⟩; dsimp only))
  go_ret3
  exact ⟨rfl, HB.out⟩
theorem ask_zero (g : Nat) (w : World) (h : w.cell? ⟨g, 1, none⟩ = some (.int .i64 0)) : Calls Tryz.prog 4 #[.pointer (some ⟨g, 0, none⟩), .agg #[.int .i64 8, .string ⟨#[97]⟩, .string ⟨#[]⟩, .slice none 0 0, .slice none 0 0, .slice none 0 0, .int .i64 0]] w fun e w' => e = .returned (.tuple #[.int .u64 0, .slice none 0 0, .int .i64 1]) ∧ Below w.heap.size w w' := by
  have hb : Below w.heap.size w (w.alloc (.cells #[.int .i64 8, .string ⟨#[97]⟩, .string ⟨#[]⟩, .slice none 0 0, .slice none 0 0, .slice none 0 0, .int .i64 0] 28)) := (Below.refl _ _).alloc (Nat.le_refl _) _
  have HN := Lib.hid (none_zero g (w.alloc (.cells #[.int .i64 8, .string ⟨#[97]⟩, .string ⟨#[]⟩, .slice none 0 0, .slice none 0 0, .slice none 0 0, .int .i64 0] 28)) ((hb.cell (p := ⟨g, 1, none⟩) (block_lt_of_cell h)).trans h))
  have HB := Lib.hid hb
  clear hb h
  go_enter Tryz.func4, Tryz.ntmps4
  go_wp2_with (first
    | (with_reducible refine HN.out.mono ?_; rintro e w1 ⟨rfl, rfl⟩; dsimp only))
  go_ret3
  exact ⟨rfl, HB.out⟩
theorem none_not (g : Nat) (w : World) (h : w.cell? ⟨g, 1, none⟩ = some (.int .i64 3)) : Calls Tryz.prog 15 #[.pointer (some ⟨g, 0, none⟩)] w fun e w' => e = .returned (.bool false) ∧ w = w' := by
  go_enter Tryz.func15, Tryz.ntmps15
  go_wp2
  go_ret
  exact ⟨rfl, rfl⟩
theorem send1 (g : Nat) (i : Int) (w : World) (h : Blk w g 36 #[.int .u64 1, .int .i64 3, .int .u64 1, .bool true, .int .u64 1, .int .u64 1, .int .i64 6, .string ⟨#[97]⟩, .string ⟨#[]⟩, .slice none 0 0, .slice none 0 0, .slice none 0 0, .int .i64 0, .int .u64 0, .int .u64 0, .int .i64 0, .bool false, .slice none 0 0, .slice none 0 0, .int .i64 0]) : Calls Tryz.prog 18 #[.pointer (some ⟨g, 0, none⟩), .int .i64 i] w fun e w' => ∃ v, e = .returned v ∧ Below w.heap.size w w' := by
  have HG := Lib.hid h
  clear h
  go_enter Tryz.func18, Tryz.ntmps18
  go_wp2_with (first
    | (refine wpList_load_mid rfl 30 _ rfl g 4 rfl [.int .u64 1, .int .u64 1, .int .i64 6, .string ⟨#[97]⟩, .string ⟨#[]⟩, .slice none 0 0, .slice none 0 0, .slice none 0 0, .int .i64 0] _ (HG.out.range 4 _ rfl) rfl rfl (by kernel_rfl) ?_)
    | (refine wpList_buildTo rfl 60 _ rfl (some 12) rfl #[.int .i64 1, .int .u64 0, .int .u64 0, .int .i64 0, .int .u64 0, .int .u64 0, .int .u64 1, .int .u64 1, .int .i64 6, .string ⟨#[97]⟩, .string ⟨#[]⟩, .slice none 0 0, .slice none 0 0, .slice none 0 0, .int .i64 0, .int .i64 0, .bool false, .slice none 0 0, .slice none 0 0, .int .u64 0, .int .u64 0, .int .u64 0, .slice none 0 0, .slice none 0 0, .int .u64 0, .bool false, .slice none 0 0] (by kernel_rfl) ?_)
    | (with_reducible refine (msgBytes _).mono ?_; rintro e w1 ⟨A1, n1, c1, rfl, hb1⟩; dsimp only; have HB1 := Lib.hid hb1; clear hb1))
  go_ret
  exact ⟨_, rfl, HB1.out.alloc HB1.out.size _⟩
set_option maxHeartbeats 8000000 in
theorem ask2 (g : Nat) (w : World) (h : Blk w g 36 #[.int .u64 1, .int .i64 3, .int .u64 1, .bool true, .int .u64 1, .int .u64 1, .int .i64 6, .string ⟨#[97]⟩, .string ⟨#[]⟩, .slice none 0 0, .slice none 0 0, .slice none 0 0, .int .i64 0, .int .u64 0, .int .u64 0, .int .i64 0, .bool false, .slice none 0 0, .slice none 0 0, .int .i64 0]) : Calls Tryz.prog 4 #[.pointer (some ⟨g, 0, none⟩), opV] w fun e w' => e = .returned (.tuple #[.int .u64 0, .slice none 0 0, .int .i64 12]) ∧ Below w.heap.size w w' := by
  have hb : Below w.heap.size w (w.alloc (.cells #[.int .i64 6, .string ⟨#[97]⟩, .string ⟨#[]⟩, .slice none 0 0, .slice none 0 0, .slice none 0 0, .int .i64 0] 28)) := (Below.refl _ _).alloc (Nat.le_refl _) _
  have kO := Blk.new w 28 #[.int .i64 6, .string ⟨#[97]⟩, .string ⟨#[]⟩, .slice none 0 0, .slice none 0 0, .slice none 0 0, .int .i64 0]
  have kG := h.alloc (.cells #[.int .i64 6, .string ⟨#[97]⟩, .string ⟨#[]⟩, .slice none 0 0, .slice none 0 0, .slice none 0 0, .int .i64 0] 28)
  have HN := Lib.hid (none_not g (w.alloc (.cells #[.int .i64 6, .string ⟨#[97]⟩, .string ⟨#[]⟩, .slice none 0 0, .slice none 0 0, .slice none 0 0, .int .i64 0] 28)) (kG.cell 1))
  have HM : Hid (Calls Tryz.prog 16 #[.agg #[.int .i64 6, .string ⟨#[97]⟩, .string ⟨#[]⟩, .slice none 0 0, .slice none 0 0, .slice none 0 0, .int .i64 0]] (w.alloc (.cells #[.int .i64 6, .string ⟨#[97]⟩, .string ⟨#[]⟩, .slice none 0 0, .slice none 0 0, .slice none 0 0, .int .i64 0] 28)) fun e w' => e = .returned (.bool true) ∧ Below (w.alloc (.cells #[.int .i64 6, .string ⟨#[97]⟩, .string ⟨#[]⟩, .slice none 0 0, .slice none 0 0, .slice none 0 0, .int .i64 0] 28)).heap.size (w.alloc (.cells #[.int .i64 6, .string ⟨#[97]⟩, .string ⟨#[]⟩, .slice none 0 0, .slice none 0 0, .slice none 0 0, .int .i64 0] 28)) w') := Lib.hid (mayOp6 (w.alloc (.cells #[.int .i64 6, .string ⟨#[97]⟩, .string ⟨#[]⟩, .slice none 0 0, .slice none 0 0, .slice none 0 0, .int .i64 0] 28)))
  have HB := Lib.hid (And.intro hb (And.intro kO kG))
  clear hb kO kG h
  go_enter Tryz.func4, Tryz.ntmps4
  go_wp2_with (first
    | (with_reducible refine HN.out.mono ?_; clear HN; rintro e w1 ⟨rfl, rfl⟩; dsimp only)
    | (refine wpList_load_row rfl 28 _ rfl w.heap.size rfl 28 #[.int .i64 6, .string ⟨#[97]⟩, .string ⟨#[]⟩, .slice none 0 0, .slice none 0 0, .slice none 0 0, .int .i64 0] (0, 0) _ HB.out.2.1 rfl rfl (by kernel_rfl) ?_)
    | (go_at_call 16; refine HM.out.mono ?_; clear HM; rintro e w1 ⟨rfl, hb1⟩; dsimp only; have HB1 := Lib.hid (HB.out.1.trans (hb1.mono HB.out.1.size)); have c3 : w1.cell? ⟨g, 3, none⟩ = some (.bool true) := (HB.out.2.2.on hb1).cell 3; clear hb1))
  go_ret3
  exact ⟨rfl, HB1.out⟩
set_option maxHeartbeats 16000000 in
theorem ask1 (g : Nat) (w : World) (h : Blk w g 36 #[.int .u64 1, .int .i64 3, .int .u64 0, .bool false, .int .u64 0, .int .u64 0, .int .i64 0, .string ⟨#[]⟩, .string ⟨#[]⟩, .slice none 0 0, .slice none 0 0, .slice none 0 0, .int .i64 0, .int .u64 0, .int .u64 0, .int .i64 0, .bool false, .slice none 0 0, .slice none 0 0, .int .i64 0]) : Calls Tryz.prog 4 #[.pointer (some ⟨g, 0, none⟩), opV] w fun e w' => ∃ v, e = .returned (.tuple #[.int .u64 1, v, .int .i64 0]) ∧ Blk w' g 36 #[.int .u64 1, .int .i64 3, .int .u64 1, .bool true, .int .u64 1, .int .u64 1, .int .i64 6, .string ⟨#[97]⟩, .string ⟨#[]⟩, .slice none 0 0, .slice none 0 0, .slice none 0 0, .int .i64 0, .int .u64 0, .int .u64 0, .int .i64 0, .bool false, .slice none 0 0, .slice none 0 0, .int .i64 0] ∧ Below g w w' ∧ ∀ (k : Nat) (t : TypeId) (cs : Array Value), k ≠ g → Blk w k t cs → Blk w' k t cs := by
  have hb : Below w.heap.size w (w.alloc (.cells #[.int .i64 6, .string ⟨#[97]⟩, .string ⟨#[]⟩, .slice none 0 0, .slice none 0 0, .slice none 0 0, .int .i64 0] 28)) := (Below.refl _ _).alloc (Nat.le_refl _) _
  have kO := Blk.new w 28 #[.int .i64 6, .string ⟨#[97]⟩, .string ⟨#[]⟩, .slice none 0 0, .slice none 0 0, .slice none 0 0, .int .i64 0]
  have kG := h.alloc (.cells #[.int .i64 6, .string ⟨#[97]⟩, .string ⟨#[]⟩, .slice none 0 0, .slice none 0 0, .slice none 0 0, .int .i64 0] 28)
  have HG := Lib.hid h.lt
  have HN := Lib.hid (none_not g (w.alloc (.cells #[.int .i64 6, .string ⟨#[97]⟩, .string ⟨#[]⟩, .slice none 0 0, .slice none 0 0, .slice none 0 0, .int .i64 0] 28)) (kG.cell 1))
  have HM : Hid (Calls Tryz.prog 16 #[.agg #[.int .i64 6, .string ⟨#[97]⟩, .string ⟨#[]⟩, .slice none 0 0, .slice none 0 0, .slice none 0 0, .int .i64 0]] (w.alloc (.cells #[.int .i64 6, .string ⟨#[97]⟩, .string ⟨#[]⟩, .slice none 0 0, .slice none 0 0, .slice none 0 0, .int .i64 0] 28)) fun e w' => e = .returned (.bool true) ∧ Below (w.alloc (.cells #[.int .i64 6, .string ⟨#[97]⟩, .string ⟨#[]⟩, .slice none 0 0, .slice none 0 0, .slice none 0 0, .int .i64 0] 28)).heap.size (w.alloc (.cells #[.int .i64 6, .string ⟨#[97]⟩, .string ⟨#[]⟩, .slice none 0 0, .slice none 0 0, .slice none 0 0, .int .i64 0] 28)) w') := Lib.hid (mayOp6 (w.alloc (.cells #[.int .i64 6, .string ⟨#[97]⟩, .string ⟨#[]⟩, .slice none 0 0, .slice none 0 0, .slice none 0 0, .int .i64 0] 28)))
  have HB := Lib.hid (And.intro hb (And.intro kO kG))
  clear hb kO kG h
  go_enter Tryz.func4, Tryz.ntmps4
  go_upto_region 11 with (first
    | (with_reducible refine HN.out.mono ?_; clear HN; rintro e w1 ⟨rfl, rfl⟩; dsimp only)
    | (refine wpList_load_row rfl 28 _ rfl w.heap.size rfl 28 #[.int .i64 6, .string ⟨#[97]⟩, .string ⟨#[]⟩, .slice none 0 0, .slice none 0 0, .slice none 0 0, .int .i64 0] (0, 0) _ HB.out.2.1 rfl rfl (by kernel_rfl) ?_)
    | (go_at_call 16; refine HM.out.mono ?_; clear HM; rintro e w1 ⟨rfl, hb1⟩; dsimp only; have HB1 := Lib.hid (And.intro (HB.out.1.trans (hb1.mono HB.out.1.size)) (And.intro (HB.out.2.1.on hb1) (HB.out.2.2.on hb1))); have HKP1 := Lib.hid (fun (k : Nat) (t : TypeId) (cs : Array Value) (h : Blk w k t cs) => (h.alloc (.cells #[.int .i64 6, .string ⟨#[97]⟩, .string ⟨#[]⟩, .slice none 0 0, .slice none 0 0, .slice none 0 0, .int .i64 0] 28)).on hb1); have c2 : w1.cell? ⟨g, 2, none⟩ = some (.int .u64 0) := (HB.out.2.2.on hb1).cell 2; have c3 : w1.cell? ⟨g, 3, none⟩ = some (.bool false) := (HB.out.2.2.on hb1).cell 3; have z3 := (HB.out.2.2.on hb1).frozen 3; have z2 := (HB.out.2.2.on hb1).frozen 2; clear hb1))
  have kW : Blk ((w1.setCell ⟨g, 2, none⟩ (.int .u64 1)).setCell ⟨g, 3, none⟩ (.bool true)) g 36 #[.int .u64 1, .int .i64 3, .int .u64 1, .bool true, .int .u64 0, .int .u64 0, .int .i64 0, .string ⟨#[]⟩, .string ⟨#[]⟩, .slice none 0 0, .slice none 0 0, .slice none 0 0, .int .i64 0, .int .u64 0, .int .u64 0, .int .i64 0, .bool false, .slice none 0 0, .slice none 0 0, .int .i64 0] := by
    have h := (HB1.out.2.2.set_ 2 (.int .u64 1)).set_ 3 (.bool true)
    have e : ((#[.int .u64 1, .int .i64 3, .int .u64 0, .bool false, .int .u64 0, .int .u64 0, .int .i64 0, .string ⟨#[]⟩, .string ⟨#[]⟩, .slice none 0 0, .slice none 0 0, .slice none 0 0, .int .i64 0, .int .u64 0, .int .u64 0, .int .i64 0, .bool false, .slice none 0 0, .slice none 0 0, .int .i64 0] : Array Value).setIfInBounds 2 (.int .u64 1)).setIfInBounds 3 (.bool true) = #[.int .u64 1, .int .i64 3, .int .u64 1, .bool true, .int .u64 0, .int .u64 0, .int .i64 0, .string ⟨#[]⟩, .string ⟨#[]⟩, .slice none 0 0, .slice none 0 0, .slice none 0 0, .int .i64 0, .int .u64 0, .int .u64 0, .int .i64 0, .bool false, .slice none 0 0, .slice none 0 0, .int .i64 0] := by kernel_rfl
    rw [e] at h
    exact h
  have kO : Blk ((w1.setCell ⟨g, 2, none⟩ (.int .u64 1)).setCell ⟨g, 3, none⟩ (.bool true)) w.heap.size 28 #[.int .i64 6, .string ⟨#[97]⟩, .string ⟨#[]⟩, .slice none 0 0, .slice none 0 0, .slice none 0 0, .int .i64 0] := by
    have hg := HG.out
    exact (HB1.out.2.1.far (by show w.heap.size ≠ g; omega) _).far (by show w.heap.size ≠ g; omega) _
  have hbW : Below g w ((w1.setCell ⟨g, 2, none⟩ (.int .u64 1)).setCell ⟨g, 3, none⟩ (.bool true)) := ((HB1.out.1.mono (Nat.le_of_lt HG.out)).setCell (Nat.le_refl g) _).setCell (Nat.le_refl g) _
  have hkW : ∀ (k : Nat) (t : TypeId) (cs : Array Value), k ≠ g → Blk w k t cs → Blk ((w1.setCell ⟨g, 2, none⟩ (.int .u64 1)).setCell ⟨g, 3, none⟩ (.bool true)) k t cs := fun k t cs hne h => ((HKP1.out k t cs h).far (p := ⟨g, 2, none⟩) hne _).far (p := ⟨g, 3, none⟩) hne _
  clear c2 c3 z3 z2 HB HKP1
  generalize (w1.setCell ⟨g, 2, none⟩ (.int .u64 1)).setCell ⟨g, 3, none⟩ (.bool true) = W at *
  clear HB1
  have HKW := Lib.hid hkW
  clear hkW
  have c0 := kW.cell 0
  have c2 := kW.cell 2
  simp only [List.getElem?_toArray, List.getElem?_cons_zero, List.getElem?_cons_succ] at c0 c2
  have o0 := kO.cell 0
  have o1 := kO.cell 1
  have o2 := kO.cell 2
  have o3 := kO.cell 3
  have o4 := kO.cell 4
  have o5 := kO.cell 5
  have o6 := kO.cell 6
  simp only [List.getElem?_toArray, List.getElem?_cons_zero, List.getElem?_cons_succ] at o0 o1 o2 o3 o4 o5 o6
  have HC : Hid (Calls Tryz.prog 17 #[.agg #[.int .u64 1, .int .u64 1, .int .i64 6, .string ⟨#[97]⟩, .string ⟨#[]⟩, .slice none 0 0, .slice none 0 0, .slice none 0 0, .int .i64 0]] W.drew fun e w' => e = .returned (.agg #[.int .u64 1, .int .u64 1, .int .i64 6, .string ⟨#[97]⟩, .string ⟨#[]⟩, .slice none 0 0, .slice none 0 0, .slice none 0 0, .int .i64 0]) ∧ Below W.drew.heap.size W.drew w') := Lib.hid (copyReq 1 W.drew)
  have HW := Lib.hid (And.intro kW hbW)
  clear kW kO hbW
  go_cut [4] from 35 (fun s4 wc => s4 = .int .u64 0 ∧ Blk wc g 36 #[.int .u64 1, .int .i64 3, .int .u64 1, .bool true, .int .u64 1, .int .u64 1, .int .i64 6, .string ⟨#[97]⟩, .string ⟨#[]⟩, .slice none 0 0, .slice none 0 0, .slice none 0 0, .int .i64 0, .int .u64 0, .int .u64 0, .int .i64 0, .bool false, .slice none 0 0, .slice none 0 0, .int .i64 0] ∧ Below g w wc ∧ ∀ (k : Nat) (t : TypeId) (cs : Array Value), k ≠ g → Blk w k t cs → Blk wc k t cs)
  case first =>
   go_region_law (first
    | ((try go_simp); refine HC.out.mono ?_; clear HC c0 c2 o0 o1 o2 o3 o4 o5 o6; rintro e w2 ⟨rfl, hb2⟩; dsimp only; have kG2 : Blk w2 g 36 #[.int .u64 1, .int .i64 3, .int .u64 1, .bool true, .int .u64 0, .int .u64 0, .int .i64 0, .string ⟨#[]⟩, .string ⟨#[]⟩, .slice none 0 0, .slice none 0 0, .slice none 0 0, .int .i64 0, .int .u64 0, .int .u64 0, .int .i64 0, .bool false, .slice none 0 0, .slice none 0 0, .int .i64 0] := HW.out.1.drew.on hb2; have hlt := HW.out.1.lt; have HKB := Lib.hid (fun (k : Nat) (t : TypeId) (cs : Array Value) (hne : k ≠ g) (h : Blk w k t cs) => (HKW.out k t cs hne h).drew.on hb2); have HB2 := Lib.hid (And.intro kG2 ((below_drew HW.out.2).trans (hb2.mono (Nat.le_of_lt hlt))))
       have c4 := kG2.cell 4
       have z4 := kG2.frozen 4
       have c5 := kG2.cell 5
       have z5 := kG2.frozen 5
       have c6 := kG2.cell 6
       have z6 := kG2.frozen 6
       have c7 := kG2.cell 7
       have z7 := kG2.frozen 7
       have c8 := kG2.cell 8
       have z8 := kG2.frozen 8
       have c9 := kG2.cell 9
       have z9 := kG2.frozen 9
       have c10 := kG2.cell 10
       have z10 := kG2.frozen 10
       have c11 := kG2.cell 11
       have z11 := kG2.frozen 11
       have c12 := kG2.cell 12
       have z12 := kG2.frozen 12
       simp only [List.getElem?_toArray, List.getElem?_cons_zero, List.getElem?_cons_succ] at c4 c5 c6 c7 c8 c9 c10 c11 c12
       clear kG2 hb2 hlt))
   all_goals
    go_wp2_with fail
    go_meet
    case rel =>
      refine ⟨rfl, ?_, below_setCells (Nat.le_refl g) [.int .u64 1, .int .u64 1, .int .i64 6, .string ⟨#[97]⟩, .string ⟨#[]⟩, .slice none 0 0, .slice none 0 0, .slice none 0 0, .int .i64 0] 4 w2 HB2.out.2, fun k t cs hne h => Blk.manyFar hne [.int .u64 1, .int .u64 1, .int .i64 6, .string ⟨#[97]⟩, .string ⟨#[]⟩, .slice none 0 0, .slice none 0 0, .slice none 0 0, .int .i64 0] 4 w2 _ (HKB.out k t cs hne h)⟩
      have e : setMany #[.int .u64 1, .int .i64 3, .int .u64 1, .bool true, .int .u64 0, .int .u64 0, .int .i64 0, .string ⟨#[]⟩, .string ⟨#[]⟩, .slice none 0 0, .slice none 0 0, .slice none 0 0, .int .i64 0, .int .u64 0, .int .u64 0, .int .i64 0, .bool false, .slice none 0 0, .slice none 0 0, .int .i64 0] 4 [.int .u64 1, .int .u64 1, .int .i64 6, .string ⟨#[97]⟩, .string ⟨#[]⟩, .slice none 0 0, .slice none 0 0, .slice none 0 0, .int .i64 0] = #[.int .u64 1, .int .i64 3, .int .u64 1, .bool true, .int .u64 1, .int .u64 1, .int .i64 6, .string ⟨#[97]⟩, .string ⟨#[]⟩, .slice none 0 0, .slice none 0 0, .slice none 0 0, .int .i64 0, .int .u64 0, .int .u64 0, .int .i64 0, .bool false, .slice none 0 0, .slice none 0 0, .int .i64 0] := by kernel_rfl
      have h := Blk.many [.int .u64 1, .int .u64 1, .int .i64 6, .string ⟨#[97]⟩, .string ⟨#[]⟩, .slice none 0 0, .slice none 0 0, .slice none 0 0, .int .i64 0] 4 w2 _ HB2.out.1
      rw [e] at h
      exact h
  case rest =>
   obtain ⟨wb, hwb⟩ : ∃ wb : World, wb = wc := ⟨_, rfl⟩
   subst hwb
   obtain ⟨rfl, kG, hb, hkc⟩ := hcut
   have HS := Lib.hid (send1 g 0 wb.drew kG.drew)
   have d1 := kG.cell 1
   have d2 := kG.cell 2
   have d13 := kG.cell 13
   simp only [List.getElem?_toArray, List.getElem?_cons_zero, List.getElem?_cons_succ] at d1 d2 d13
   have HK := Lib.hid (And.intro kG (And.intro hb hkc))
   clear kG hb hkc HW HC HKW
   go_upto_region 12 with fail
   have hwr : IntKind.u64.wrap 3 = 3 := by decide
   have hw0 : IntKind.i64.wrap 0 = 0 := by decide
   go_region_law (first
     | ((try go_simp); refine HS.out.mono ?_; clear HS; rintro e w3 ⟨v3, rfl, hb3⟩; dsimp only; have HB3 := Lib.hid (And.intro (HK.out.1.drew.on hb3) (And.intro ((below_drew HK.out.2.1).trans (hb3.mono (Nat.le_of_lt HK.out.1.lt))) (fun (k : Nat) (t : TypeId) (cs : Array Value) (hne : k ≠ g) (h : Blk w k t cs) => (HK.out.2.2 k t cs hne h).drew.on hb3))); have d2 := HB3.out.1.cell 2; simp only [List.getElem?_toArray, List.getElem?_cons_zero, List.getElem?_cons_succ] at d2; clear hb3))
   all_goals
    go_wp2_with fail
    go_ret3
    exact ⟨v3, rfl, HB3.out⟩
end Go.Proofs.YtnokghnjbonmiaaGreatDoor.Tlv
