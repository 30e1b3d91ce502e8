/- The chapter's requests: a request's bytes. -/
import Derived.Test.YtnokghnjbonmiaaGreatDoorL2
namespace Go.Proofs.YtnokghnjbonmiaaGreatDoor.Tlv
open Go.RowKit
set_option maxRecDepth 100000
set_option linter.unusedVariables false
set_option linter.unusedSimpArgs false

abbrev rqCs (n : Int) : Array Value := #[.int .u64 1, .int .u64 n, .int .i64 6, .string ⟨#[97]⟩, .string ⟨#[]⟩, .slice none 0 0, .slice none 0 0, .slice none 0 0, .int .i64 0]
/-- The bytes of such a request. -/
def rqB (n : Int) : List Int := valB 1 (be8 1) ++ valB 2 (be8 n) ++ valB 3 opB
theorem valB_len (t : Int) (xs : List Int) : (valB t xs).length = 5 + xs.length := by unfold valB be4; simp; omega
theorem opB_len : opB.length = 19 := by decide
theorem rqB_len (n : Int) : (rqB n).length = 50 := by
  unfold rqB
  rw [List.length_append, List.length_append, valB_len, valB_len, valB_len, opB_len]
  rfl
theorem len26 (n : Int) : ([] ++ valB 1 (be8 1) ++ valB 2 (be8 n)).length = 26 := by rw [List.length_append, List.length_append, valB_len, valB_len]; rfl
theorem below_drew {B : Nat} {a w : World} (h : Below B a w) : Below B a w.drew := ⟨h.os, h.tape, h.output, h.size, h.block⟩
theorem rd_low {w : World} {base : Nat} {v : Value} {l : List Int} (h : Row w base v l) : ∃ A cap, v = .slice A l.length cap ∧ l.length ≤ cap ∧ Rd w w.heap.size A l ∧ (A = none → cap = 0) := by
  obtain ⟨A, c, e, h1, h2⟩ := h.rd
  refine ⟨A, c, e, h1, h2, fun hA => ?_⟩
  subst e hA
  rcases h.2 with ⟨e0, _⟩ | ⟨g, cap, cur, e0, _⟩
  · injection e0
  · injection e0 with e0
    cases e0
theorem bytes3 {w2 w6 : World} {n : Int} {A2 : Option Addr} {c2 : Nat} (hs6 : WS w6 w2.heap.size w2.heap.size (some ([] ++ valB 1 (be8 1) ++ valB 2 (be8 n))) 2) (hsz : w2.heap.size ≤ w6.heap.size) (hr : Rd w6 w2.heap.size A2 opB) (hA : A2 = none → c2 = 0) :
    Hid (Calls Tryz.prog 70 #[.pointer (some ⟨w2.heap.size, 0, none⟩), .int .u8 3, .slice A2 19 c2] w6 fun e w' => e = .returned (.pointer (some ⟨w2.heap.size, 0, none⟩)) ∧
      WS w' w2.heap.size w2.heap.size (putS (some ([] ++ valB 1 (be8 1) ++ valB 2 (be8 n))) 3 opB) (cntS (some ([] ++ valB 1 (be8 1) ++ valB 2 (be8 n))) 3 2) ∧ WB w2.heap.size w6 w') := Lib.hid (by
  have h := bytes_any w2.heap.size _ _ opB 3 A2 c2 w2.heap.size _ hs6 hsz (fun l e => by injection e with e; subst e; exact src_low hs6 hr (Nat.le_refl _)) hA (by decide) (by decide) (Nat.le_trans (Nat.le_of_eq opB_len) (by decide)) (fun l e => by injection e with e; subst e; exact Nat.le_trans (Nat.le_of_eq (len26 n)) (by decide)) (by decide) (Nat.le_refl _)
  rw [opB_len] at h
  exact h)
set_option maxHeartbeats 8000000 in
theorem reqBytes (n : Int) (w : World) (hn : 0 ≤ n) (hn2 : n < 18446744073709551616) : Calls Tryz.prog 73 #[rqV n] w fun e w' => ∃ A c, e = .returned (.tuple #[.slice A 50 c, .int .i64 0]) ∧ Below w.heap.size w w' := by
  have hb1 := (Below.refl w.heap.size w).alloc (Nat.le_refl _) (.cells #[.int .u64 1, .int .u64 n, .int .i64 6, .string ⟨#[97]⟩, .string ⟨#[]⟩, .slice none 0 0, .slice none 0 0, .slice none 0 0, .int .i64 0] 30)
  have k1 := Blk.new w 30 #[.int .u64 1, .int .u64 n, .int .i64 6, .string ⟨#[97]⟩, .string ⟨#[]⟩, .slice none 0 0, .slice none 0 0, .slice none 0 0, .int .i64 0]
  generalize hW1 : w.alloc (.cells #[.int .u64 1, .int .u64 n, .int .i64 6, .string ⟨#[97]⟩, .string ⟨#[]⟩, .slice none 0 0, .slice none 0 0, .slice none 0 0, .int .i64 0] 30) = w1 at hb1 k1
  have HX := Lib.hid fun W (hb : Below w1.heap.size w1 W) => k1.on hb
  have HB := Lib.hid hb1
  have HNN := Lib.hid (And.intro hn hn2)
  clear hb1 k1 hn hn2
  subst hW1
  go_enter Tryz.func73, Tryz.ntmps73
  go_wp2_with fail
  refine (opBytes6 _).mono ?_
  rintro e w2 ⟨v2, rfl, hr2, hb2⟩
  obtain ⟨A2, c2, rfl, hc2, hrd2, hn2⟩ := rd_low hr2
  have HR2 := Lib.hid (And.intro hn2 hrd2)
  have HB2 := Lib.hid hb2
  have a0 := (HX.out _ hb2).cell 0
  have a1 := (HX.out _ hb2).cell 1
  clear hr2 hrd2 hc2 hb2
  have hws : WS ((w2.alloc (.cells #[.slice none 0 0, .int .i64 0, .int .i64 0] 109)).drew) w2.heap.size w2.heap.size (some []) 0 := ws_new w2
  have hb3 : Below w2.heap.size w2 ((w2.alloc (.cells #[.slice none 0 0, .int .i64 0, .int .i64 0] 109)).drew) := below_drew ((Below.refl _ _).alloc (Nat.le_refl _) _)
  have HN1 := Lib.hid (number_any w2.heap.size (some []) 0 1 1 w2.heap.size _ hws hb3.size (by decide) (by decide) (by decide) (by decide) (fun l e => by injection e with e; subst e; decide) (by decide) (Nat.le_refl _))
  have HB3 := Lib.hid hb3
  rw [opB_len]
  have e19 := opB_len
  have HY := Lib.hid fun W (hb : Below w2.heap.size w2 W) => ((HX.out _ (HB2.out.trans (hb.mono HB2.out.size))).cell 1)
  have HE19 := Lib.hid e19
  have b0 : (w2.alloc (.cells #[.slice none 0 0, .int .i64 0, .int .i64 0] 109)).cell? ⟨w.heap.size, 0, none⟩ = some (.int .u64 1) := (HX.out _ (HB2.out.trans (hb3.mono HB2.out.size))).cell 0
  have b1 : (w2.alloc (.cells #[.slice none 0 0, .int .i64 0, .int .i64 0] 109)).cell? ⟨w.heap.size, 1, none⟩ = some (.int .u64 n) := (HX.out _ (HB2.out.trans (hb3.mono HB2.out.size))).cell 1
  clear hws hb3 e19
  go_wp2_with fail
  go_region_law (first
    | (go_simp; (with_reducible refine HN1.out.mono ?_); clear HN1 a0 b0 a1 b1; rintro e w5 ⟨rfl, hs5, hwb5⟩; dsimp only; rw [puts_app (by decide)] at hs5; have HB5 := Lib.hid (HB3.out.trans hwb5.bel); have a1 := HY.out _ HB5.out; have HN2 := Lib.hid (number_any w2.heap.size _ _ 2 n w2.heap.size _ hs5 HB5.out.size (by decide) (by decide) HNN.out.1 HNN.out.2 (fun l e => by injection e with e; subst e; decide) (by decide) (Nat.le_refl _)); clear hs5 hwb5)
    | (go_simp; (with_reducible refine HN2.out.mono ?_); clear HN2 a1; rintro e w6 ⟨rfl, hs6, hwb6⟩; dsimp only; rw [puts_app (by decide)] at hs6; have HB6 := Lib.hid (HB5.out.trans hwb6.bel); have hs6' : WS w6 w2.heap.size w2.heap.size (some ([] ++ valB 1 (be8 1) ++ valB 2 (be8 n))) 2 := hs6; have hrd6 := HR2.out.2.below HB6.out; have hsz6 := HB6.out.size; have HBY := bytes3 (w2 := w2) (w6 := w6) (n := n) (A2 := A2) (c2 := c2) hs6' hsz6 hrd6 HR2.out.1; clear hs6' hrd6 hsz6; clear hs6 hwb6)
    | (go_simp; (with_reducible refine HBY.out.mono ?_); clear HBY; rintro e w7 ⟨rfl, hs7, hwb7⟩; dsimp only; rw [puts_app (by decide)] at hs7; have HB7 := Lib.hid (HB6.out.trans hwb7.bel); have HEN := Lib.hid (ended_ws _ _ _ (rqB n) _ hs7 (by rw [rqB_len]; decide)); clear hs7 hwb7)
    | (go_simp; (with_reducible refine HEN.out.mono ?_); clear HEN; rintro e w8 ⟨v8, rfl, hr8, hb8⟩; dsimp only; have HB8 := Lib.hid (HB.out.trans ((HB2.out.trans ((HB7.out.trans (hb8.mono HB7.out.size)).mono HB2.out.size)).mono HB.out.size)); obtain ⟨A8, c8, rfl, _, _⟩ := hr8.rd; clear hr8 hb8))
  all_goals
    go_wp2
    go_ret2
    exact ⟨A8, c8, rfl, HB8.out⟩
end Go.Proofs.YtnokghnjbonmiaaGreatDoor.Tlv
