/- The chapter's requests: their bytes. -/
import Derived.Test.YtnokghnjbonmiaaGreatDoorL1
namespace Go.Proofs.YtnokghnjbonmiaaGreatDoor.Tlv
open Go.RowKit
set_option maxRecDepth 100000
set_option linter.unusedVariables false
set_option linter.unusedSimpArgs false

theorem puts_app {q xs : List Int} {tag : Int} (h : tag ≠ 0) : putS (some q) tag xs = some (q ++ valB tag xs) := by
  unfold putS valB
  simp [h]
theorem ws_new (w : World) : WS (w.alloc (.cells #[.slice none 0 0, .int .i64 0, .int .i64 0] 109)) w.heap.size w.heap.size (some []) 0 := ⟨_, Blk.new w 109 #[.slice none 0 0, .int .i64 0, .int .i64 0], World.ownsRow_nil _ _ _ _⟩
theorem Row.lowB {w : World} {base base' : Nat} {v : Value} {l : List Int} (h : Row w base v l) (hb : base' ≤ base) : Row w base' v l := by
  refine ⟨h.1, ?_⟩
  rcases h.2 with h0 | ⟨g, cap, cur, hv, hg, rest⟩
  · exact .inl h0
  · exact .inr ⟨g, cap, cur, hv, Nat.le_trans hb hg, rest⟩
/-- A writer's end. -/
theorem end_ws (g m base : Nat) (q : List Int) (w : World) (h : WS w base g (some q) m) (hl : q.length ≤ 1000000000000) :
    Calls Tryz.prog 79 #[.pointer (some ⟨g, 0, none⟩)] w fun e w' => ∃ v', e = .returned (.tuple #[v', .int .i64 0]) ∧ Row w' w.heap.size v' q ∧ Below w.heap.size w w' := by
  obtain ⟨v, h1, h2⟩ := h
  exact end_ok g v m q base w h1 h2 hl
theorem ended_ws (g m base : Nat) (q : List Int) (w : World) (h : WS w base g (some q) m) (hl : q.length ≤ 1000000000000) :
    Calls Tryz.prog 48 #[.pointer (some ⟨g, 0, none⟩)] w fun e w' => ∃ v', e = .returned (.tuple #[v', .int .i64 0]) ∧ Row w' w.heap.size v' q ∧ Below w.heap.size w w' := by
  have HE := Lib.hid (end_ws g m base q w h hl)
  clear h
  go_enter Tryz.func48, Tryz.ntmps48
  go_wp2_with fail
  refine HE.out.mono ?_
  rintro e w1 ⟨v1, rfl, hr, hb⟩
  have H := Lib.hid (And.intro hr hb)
  obtain ⟨A, c, rfl, _, _⟩ := hr.rd
  clear hr hb
  go_wp2_with fail
  go_ret2
  exact ⟨_, rfl, H.out⟩
set_option maxHeartbeats 4000000 in
theorem opBytes6 (w : World) : Calls Tryz.prog 101 #[opV] w fun e w' => ∃ v', e = .returned (.tuple #[v', .int .i64 0]) ∧ Row w' w.heap.size v' opB ∧ Below w.heap.size w w' := by
  have hb1 := (Below.refl w.heap.size w).alloc (Nat.le_refl _) (.cells #[.int .i64 6, .string ⟨#[97]⟩, .string ⟨#[]⟩, .slice none 0 0, .slice none 0 0, .slice none 0 0, .int .i64 0] 28)
  have k1 := Blk.new w 28 #[.int .i64 6, .string ⟨#[97]⟩, .string ⟨#[]⟩, .slice none 0 0, .slice none 0 0, .slice none 0 0, .int .i64 0]
  have HX := Lib.hid fun W (hb : Below (w.alloc (.cells #[.int .i64 6, .string ⟨#[97]⟩, .string ⟨#[]⟩, .slice none 0 0, .slice none 0 0, .slice none 0 0, .int .i64 0] 28)).heap.size (w.alloc (.cells #[.int .i64 6, .string ⟨#[97]⟩, .string ⟨#[]⟩, .slice none 0 0, .slice none 0 0, .slice none 0 0, .int .i64 0] 28)) W) => k1.on hb
  have HB := Lib.hid hb1
  clear hb1 k1
  go_enter Tryz.func101, Tryz.ntmps101
  go_wp2_with fail
  refine (mayOp6 _).mono ?_
  rintro e w2 ⟨rfl, hb2⟩
  have HB2 := Lib.hid hb2
  have a0 := (HX.out _ hb2).cell 0
  clear hb2
  go_wp2_with fail
  refine (fields6 _).mono ?_
  rintro e w3 ⟨rfl, hb3⟩
  have HB3 := Lib.hid (HB2.out.trans (hb3.mono HB2.out.size))
  have HB4 := Lib.hid (HB3.out.alloc HB3.out.size (.cells #[.bool true, .bool false, .bool false, .bool false, .bool false] 67))
  have kf := Blk.new w3 67 #[.bool true, .bool false, .bool false, .bool false, .bool false]
  have hsz4 : (w3.alloc (.cells #[.bool true, .bool false, .bool false, .bool false, .bool false] 67)).heap.size = w3.heap.size + 1 := by simp
  generalize hW4 : w3.alloc (.cells #[.bool true, .bool false, .bool false, .bool false, .bool false] 67) = w4 at HB4 kf hsz4
  have hws := ws_new w4
  rw [hsz4] at hws
  have hb5 : Below w4.heap.size w4 (w4.alloc (.cells #[.slice none 0 0, .int .i64 0, .int .i64 0] 109)) := (Below.refl _ _).alloc (Nat.le_refl _) _
  have HN := Lib.hid (number_any (w3.heap.size + 1) (some []) 0 1 6 (w3.heap.size + 1) _ hws (by simp; omega) (by decide) (by decide) (by decide) (by decide) (fun l e => by injection e with e; subst e; decide) (by decide) (Nat.le_refl _))
  have HB5 := Lib.hid hb5
  have HKF := Lib.hid kf
  have HZ := Lib.hid hsz4
  have b0 := (HX.out _ (HB4.out.trans (hb5.mono HB4.out.size))).cell 0
  clear hb3 a0 kf hws hb5 hsz4
  subst hW4
  go_wp2_with fail
  refine HN.out.mono ?_
  clear HN b0
  rintro e w5 ⟨rfl, hs5, hwb5⟩
  rw [puts_app (by decide)] at hs5
  have hbel5 := HB5.out.trans (hwb5.bel.mono (Nat.le_of_eq HZ.out))
  have kx := HX.out _ (HB4.out.trans (hbel5.mono HB4.out.size))
  have kf5 := HKF.out.on hbel5
  have b1 := kx.cell 1
  have f0 := kf5.cell 0
  have f1 := kf5.cell 1
  have HT := Lib.hid (text_any (w3.heap.size + 1) _ _ 2 ⟨#[97]⟩ (w3.heap.size + 1) _ hs5 (by have := hwb5.bel.size; simp at this; omega) (by decide) (by decide) (by decide) (fun l e => by injection e with e; subst e; decide) (by decide) (Nat.le_refl _))
  have HB6 := Lib.hid hbel5
  clear kx kf5 hs5 hwb5 hbel5
  go_wp2_with fail
  refine HT.out.mono ?_
  clear HT b1 f0 f1
  rintro e w6 ⟨rfl, hs6, hwb6⟩
  rw [puts_app (by decide)] at hs6
  have hbel6 := HB6.out.trans (hwb6.bel.mono (Nat.le_of_eq HZ.out))
  have kf6 := HKF.out.on hbel6
  have f1 := kf6.cell 1
  have f2 := kf6.cell 2
  have f3 := kf6.cell 3
  have f4 := kf6.cell 4
  have HE := Lib.hid (end_ws _ _ _ _ _ hs6 (by decide))
  have HB7 := Lib.hid (HB4.out.trans (hbel6.mono HB4.out.size))
  clear kf6 hs6 hwb6 hbel6
  go_wp2_with fail
  refine HE.out.mono ?_
  clear HE f1 f2 f3 f4
  rintro e w7 ⟨v7, rfl, hr7, hb7⟩
  have HF := Lib.hid (And.intro hr7 (HB7.out.trans (hb7.mono HB7.out.size)))
  have hz7 := HB7.out.size
  have hz1 := HB.out.size
  obtain ⟨A, c, rfl, _, _⟩ := hr7.rd
  clear hr7 hb7
  go_wp2_with fail
  go_ret2
  refine ⟨_, rfl, ?_, HB.out.trans (HF.out.2.mono hz1)⟩
  exact Row.lowB HF.out.1 (Nat.le_trans hz1 hz7)
end Go.Proofs.YtnokghnjbonmiaaGreatDoor.Tlv
