/- The request's bytes as the call's own row; what a row is. -/
import Derived.Test.YtnokghnjbonmiaaGreatDoorS3
namespace Go.Proofs.YtnokghnjbonmiaaGreatDoor.Tlv
open Go.RowKit
set_option maxRecDepth 100000
set_option linter.unusedVariables false
set_option linter.unusedSimpArgs false

theorem row_all {w : World} {base : Nat} {v : Value} {l : List Int} (h : Row w base v l) : ∃ A c, v = .slice A l.length c ∧ Rd w w.heap.size A l ∧ (A = none → c = 0) ∧ ∀ ad, A = some ad → base ≤ ad.block := by
  obtain ⟨A, c, e, h1, h2⟩ := h.rd
  rcases h.2 with ⟨e2, hn⟩ | ⟨g, cap, cur, e2, h3, hg, h5, r⟩
  · rw [e] at e2
    injection e2 with ea eb ec
    exact ⟨A, c, e, h2, fun _ => ec, fun ad ha => by rw [ea] at ha; cases ha⟩
  · rw [e] at e2
    injection e2 with ea eb ec
    exact ⟨A, c, e, h2, fun ha => (by rw [ea] at ha; cases ha), fun ad ha => by rw [ea] at ha; injection ha with ha; subst ha; exact h3⟩
set_option maxHeartbeats 8000000 in
theorem reqRow (n : Int) (w : World) (hn : 0 ≤ n) (hn2 : n < 18446744073709551616) : Calls Tryz.prog 73 #[rqV n] w fun e w' => ∃ A c, e = .returned (.tuple #[.slice A 50 c, .int .i64 0]) ∧ Row w' w.heap.size (.slice A 50 c) (rqB n) ∧ Below w.heap.size w w' := by
  have hb1 := (Below.refl w.heap.size w).alloc (Nat.le_refl _) (.cells #[.int .u64 1, .int .u64 n, .int .i64 6, .string ⟨#[97]⟩, .string ⟨#[]⟩, .slice none 0 0, .slice none 0 0, .slice none 0 0, .int .i64 0] 30)
  have k1 := Blk.new w 30 #[.int .u64 1, .int .u64 n, .int .i64 6, .string ⟨#[97]⟩, .string ⟨#[]⟩, .slice none 0 0, .slice none 0 0, .slice none 0 0, .int .i64 0]
  generalize hW1 : w.alloc (.cells #[.int .u64 1, .int .u64 n, .int .i64 6, .string ⟨#[97]⟩, .string ⟨#[]⟩, .slice none 0 0, .slice none 0 0, .slice none 0 0, .int .i64 0] 30) = w1 at hb1 k1
  have HX := Lib.hid fun W (hb : Below w1.heap.size w1 W) => k1.on hb
  have HB := Lib.hid hb1
  have HNN := Lib.hid (And.intro hn hn2)
  clear hb1 k1 hn hn2
  subst hW1
  go_enter Tryz.func73, Tryz.ntmps73
  go_wp2_with fail
  refine (opBytes6 _).mono ?_
  rintro e w2 ⟨v2, rfl, hr2, hb2⟩
  obtain ⟨A2, c2, rfl, hc2, hrd2, hn2⟩ := rd_low hr2
  have HR2 := Lib.hid (And.intro hn2 hrd2)
  have HB2 := Lib.hid hb2
  have a0 := (HX.out _ hb2).cell 0
  have a1 := (HX.out _ hb2).cell 1
  clear hr2 hrd2 hc2 hb2
  have hws : WS ((w2.alloc (.cells #[.slice none 0 0, .int .i64 0, .int .i64 0] 109)).drew) w2.heap.size w2.heap.size (some []) 0 := ws_new w2
  have hb3 : Below w2.heap.size w2 ((w2.alloc (.cells #[.slice none 0 0, .int .i64 0, .int .i64 0] 109)).drew) := below_drew ((Below.refl _ _).alloc (Nat.le_refl _) _)
  have HN1 := Lib.hid (number_any w2.heap.size (some []) 0 1 1 w2.heap.size _ hws hb3.size (by decide) (by decide) (by decide) (by decide) (fun l e => by injection e with e; subst e; decide) (by decide) (Nat.le_refl _))
  have HB3 := Lib.hid hb3
  rw [opB_len]
  have e19 := opB_len
  have HY := Lib.hid fun W (hb : Below w2.heap.size w2 W) => ((HX.out _ (HB2.out.trans (hb.mono HB2.out.size))).cell 1)
  have HE19 := Lib.hid e19
  have b0 : (w2.alloc (.cells #[.slice none 0 0, .int .i64 0, .int .i64 0] 109)).cell? ⟨w.heap.size, 0, none⟩ = some (.int .u64 1) := (HX.out _ (HB2.out.trans (hb3.mono HB2.out.size))).cell 0
  have b1 : (w2.alloc (.cells #[.slice none 0 0, .int .i64 0, .int .i64 0] 109)).cell? ⟨w.heap.size, 1, none⟩ = some (.int .u64 n) := (HX.out _ (HB2.out.trans (hb3.mono HB2.out.size))).cell 1
  clear hws hb3 e19
  go_wp2_with fail
  go_region_law (first
    | (go_simp; (with_reducible refine HN1.out.mono ?_); clear HN1 a0 b0 a1 b1; rintro e w5 ⟨rfl, hs5, hwb5⟩; dsimp only; rw [puts_app (by decide)] at hs5; have HB5 := Lib.hid (HB3.out.trans hwb5.bel); have a1 := HY.out _ HB5.out; have HN2 := Lib.hid (number_any w2.heap.size _ _ 2 n w2.heap.size _ hs5 HB5.out.size (by decide) (by decide) HNN.out.1 HNN.out.2 (fun l e => by injection e with e; subst e; decide) (by decide) (Nat.le_refl _)); clear hs5 hwb5)
    | (go_simp; (with_reducible refine HN2.out.mono ?_); clear HN2 a1; rintro e w6 ⟨rfl, hs6, hwb6⟩; dsimp only; rw [puts_app (by decide)] at hs6; have HB6 := Lib.hid (HB5.out.trans hwb6.bel); have hs6' : WS w6 w2.heap.size w2.heap.size (some ([] ++ valB 1 (be8 1) ++ valB 2 (be8 n))) 2 := hs6; have hrd6 := HR2.out.2.below HB6.out; have hsz6 := HB6.out.size; have HBY := bytes3 (w2 := w2) (w6 := w6) (n := n) (A2 := A2) (c2 := c2) hs6' hsz6 hrd6 HR2.out.1; clear hs6' hrd6 hsz6; clear hs6 hwb6)
    | (go_simp; (with_reducible refine HBY.out.mono ?_); clear HBY; rintro e w7 ⟨rfl, hs7, hwb7⟩; dsimp only; rw [puts_app (by decide)] at hs7; have HB7 := Lib.hid (HB6.out.trans hwb7.bel); have HEN := Lib.hid (ended_ws _ _ _ (rqB n) _ hs7 (by rw [rqB_len]; decide)); clear hs7 hwb7)
    | (go_simp; (with_reducible refine HEN.out.mono ?_); clear HEN; rintro e w8 ⟨v8, rfl, hr8, hb8⟩; dsimp only; have HB8 := Lib.hid (HB.out.trans ((HB2.out.trans ((HB7.out.trans (hb8.mono HB7.out.size)).mono HB2.out.size)).mono HB.out.size)); have hz1 := HB.out.size; have hz2 := HB2.out.size; have hz3 := HB7.out.size; have hr9 := hr8.lowB (Nat.le_trans hz1 (Nat.le_trans hz2 hz3)); obtain ⟨A8, c8, rfl, _, _⟩ := hr8.rd; rw [rqB_len] at hr9; have HR9 := Lib.hid hr9; clear hr8 hr9 hb8 hz1 hz2 hz3))
  all_goals
    go_wp2
    go_ret2
    exact ⟨A8, c8, rfl, HR9.out, HB8.out⟩
theorem keep0 (v : Value) (g : Nat) (w : World) (h : Blk w g 31 #[.int .i64 0]) : Calls Tryz.prog 71 #[v, .int .i64 0, .pointer (some ⟨g, 0, none⟩)] w fun e w' => e = .returned v ∧ w' = w.setCell ⟨g, 0, none⟩ (.int .i64 0) := by
  have hc := h.cell 0
  have hf := h.frozen 0
  have hm : (max (0 : Int) 0) = 0 := rfl
  simp only [List.getElem?_toArray, List.getElem?_cons_zero] at hc
  go_enter Tryz.func71, Tryz.ntmps71
  go_wp2
  go_ret
  exact ⟨rfl, rfl⟩
theorem num0 (t x : Int) (p : Value) (w : World) : Calls Tryz.prog 72 #[.bool false, .int .u8 t, .int .u64 x, p] w fun e w' => e = .returned (.tuple #[]) ∧ w = w' := by
  go_enter Tryz.func72, Tryz.ntmps72
  go_wp2
  exact bodyPost_end (v := .tuple #[]) (by simp [results, Tryz.f72, go_sem]) rfl ⟨rfl, rfl⟩
end Go.Proofs.YtnokghnjbonmiaaGreatDoor.Tlv
