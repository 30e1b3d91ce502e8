/- The chapter's rows of layer 24. -/
import Derived.Test.YtniaijgejljjbaaL11
namespace Go.Proofs.Ytniaijgejljjbaa.Tlv
open Go.RowKit
set_option maxRecDepth 100000
set_option linter.unusedVariables false
set_option linter.unusedSimpArgs false

theorem req_any (n : Int) (w : World) : Calls Try.prog 25 #[.int .u64 n] w fun e w' => e = .returned (rqV n) ∧ Below w.heap.size w w' := by
  go_enter Try.func25, Try.ntmps25
  go_wp2
  exact bodyPost_ret (v := rqV n) (by simp [results, Try.f25, go_sem]) rfl ⟨rfl, (Below.refl _ _).alloc (Nat.le_refl _) _⟩
theorem row3 {W : World} {base : Nat} {v : Value} (h : RowK kT W base v [1, 2, 3]) : ∃ g' c cs, v = .slice (some ⟨g', 0, none⟩) 3 c ∧ Blk W g' 66 cs ∧ base ≤ g' ∧ 3 ≤ c ∧ c ≤ 9223372036854775807 ∧ ∀ i, i < 30 → cs[i]? = (#[.int .u64 1, .int .u64 1, .int .i64 6, .string ⟨#[97]⟩, .string ⟨#[]⟩, .slice none 0 0, .slice none 0 0, .slice none 0 0, .int .i64 0, .int .i64 50, .int .u64 1, .int .u64 2, .int .i64 6, .string ⟨#[97]⟩, .string ⟨#[]⟩, .slice none 0 0, .slice none 0 0, .slice none 0 0, .int .i64 0, .int .i64 50, .int .u64 1, .int .u64 3, .int .i64 6, .string ⟨#[97]⟩, .string ⟨#[]⟩, .slice none 0 0, .slice none 0 0, .slice none 0 0, .int .i64 0, .int .i64 50] : Array Value)[i]? := by
  rcases h.2 with ⟨_, e⟩ | ⟨g, cap, cur, hv, hg, hh, h1, h2, _, h3⟩
  · simp at e
  · refine ⟨g, cap, cur, hv, hh, hg, h1, h2, fun i hi => ?_⟩
    have h4 : (cur.toList.take 30)[i]? = cur.toList[i]? := List.getElem?_take_of_lt hi
    rw [← Array.getElem?_toList, ← h4]
    have h5 : cur.toList.take 30 = flatK kT [1, 2, 3] := h3
    have h6 : flatK kT [1, 2, 3] = (#[.int .u64 1, .int .u64 1, .int .i64 6, .string ⟨#[97]⟩, .string ⟨#[]⟩, .slice none 0 0, .slice none 0 0, .slice none 0 0, .int .i64 0, .int .i64 50, .int .u64 1, .int .u64 2, .int .i64 6, .string ⟨#[97]⟩, .string ⟨#[]⟩, .slice none 0 0, .slice none 0 0, .slice none 0 0, .int .i64 0, .int .i64 50, .int .u64 1, .int .u64 3, .int .i64 6, .string ⟨#[97]⟩, .string ⟨#[]⟩, .slice none 0 0, .slice none 0 0, .slice none 0 0, .int .i64 0, .int .i64 50] : Array Value).toList := rfl
    rw [h5, h6, Array.getElem?_toList]
theorem i30_a (i : Nat) (hi : i < 10) : (#[.int .u64 1, .int .u64 1, .int .i64 6, .string ⟨#[97]⟩, .string ⟨#[]⟩, .slice none 0 0, .slice none 0 0, .slice none 0 0, .int .i64 0, .int .i64 50, .int .u64 1, .int .u64 2, .int .i64 6, .string ⟨#[97]⟩, .string ⟨#[]⟩, .slice none 0 0, .slice none 0 0, .slice none 0 0, .int .i64 0, .int .i64 50, .int .u64 1, .int .u64 3, .int .i64 6, .string ⟨#[97]⟩, .string ⟨#[]⟩, .slice none 0 0, .slice none 0 0, .slice none 0 0, .int .i64 0, .int .i64 50] : Array Value)[i]? = (#[.int .u64 1, .int .u64 1, .int .i64 6, .string ⟨#[97]⟩, .string ⟨#[]⟩, .slice none 0 0, .slice none 0 0, .slice none 0 0, .int .i64 0, .int .i64 50] : Array Value)[i]? := by
  have : i = 0 ∨ i = 1 ∨ i = 2 ∨ i = 3 ∨ i = 4 ∨ i = 5 ∨ i = 6 ∨ i = 7 ∨ i = 8 ∨ i = 9 := by omega
  rcases this with rfl | rfl | rfl | rfl | rfl | rfl | rfl | rfl | rfl | rfl <;> rfl
theorem i30_b (i : Nat) (hi : i < 10) : (#[.int .u64 1, .int .u64 1, .int .i64 6, .string ⟨#[97]⟩, .string ⟨#[]⟩, .slice none 0 0, .slice none 0 0, .slice none 0 0, .int .i64 0, .int .i64 50, .int .u64 1, .int .u64 2, .int .i64 6, .string ⟨#[97]⟩, .string ⟨#[]⟩, .slice none 0 0, .slice none 0 0, .slice none 0 0, .int .i64 0, .int .i64 50, .int .u64 1, .int .u64 3, .int .i64 6, .string ⟨#[97]⟩, .string ⟨#[]⟩, .slice none 0 0, .slice none 0 0, .slice none 0 0, .int .i64 0, .int .i64 50] : Array Value)[10 + i]? = (#[.int .u64 1, .int .u64 2, .int .i64 6, .string ⟨#[97]⟩, .string ⟨#[]⟩, .slice none 0 0, .slice none 0 0, .slice none 0 0, .int .i64 0, .int .i64 50] : Array Value)[i]? := by
  have : i = 0 ∨ i = 1 ∨ i = 2 ∨ i = 3 ∨ i = 4 ∨ i = 5 ∨ i = 6 ∨ i = 7 ∨ i = 8 ∨ i = 9 := by omega
  rcases this with rfl | rfl | rfl | rfl | rfl | rfl | rfl | rfl | rfl | rfl <;> rfl
set_option maxHeartbeats 8000000 in
theorem known_any (w : World) : Calls Try.prog 7 #[] w fun e w' => e = .returned (.bool true) ∧ Below w.heap.size w w' := by
  go_enter Try.func7, Try.ntmps7
  go_wp2_with fail
  refine (req_any 1 _).mono ?_
  rintro e w1 ⟨rfl, hb1⟩
  have HB1 := Lib.hid hb1
  clear hb1
  go_wp2_with fail
  refine (req_any 2 _).mono ?_
  rintro e w2 ⟨rfl, hb2⟩
  have HB2 := Lib.hid ((HB1.out.trans (hb2.mono HB1.out.size)).alloc (Nat.le_trans HB1.out.size hb2.size) (.cells #[.int .u64 1, .int .u64 1, .int .i64 6, .string ⟨#[97]⟩, .string ⟨#[]⟩, .slice none 0 0, .slice none 0 0, .slice none 0 0, .int .i64 0, .int .u64 1, .int .u64 2, .int .i64 6, .string ⟨#[97]⟩, .string ⟨#[]⟩, .slice none 0 0, .slice none 0 0, .slice none 0 0, .int .i64 0] 42))
  have HO := Lib.hid (of_two (w2.alloc (.cells #[.int .u64 1, .int .u64 1, .int .i64 6, .string ⟨#[97]⟩, .string ⟨#[]⟩, .slice none 0 0, .slice none 0 0, .slice none 0 0, .int .i64 0, .int .u64 1, .int .u64 2, .int .i64 6, .string ⟨#[97]⟩, .string ⟨#[]⟩, .slice none 0 0, .slice none 0 0, .slice none 0 0, .int .i64 0] 42)) w2.heap.size (Blk.new w2 42 #[.int .u64 1, .int .u64 1, .int .i64 6, .string ⟨#[97]⟩, .string ⟨#[]⟩, .slice none 0 0, .slice none 0 0, .slice none 0 0, .int .i64 0, .int .u64 1, .int .u64 2, .int .i64 6, .string ⟨#[97]⟩, .string ⟨#[]⟩, .slice none 0 0, .slice none 0 0, .slice none 0 0, .int .i64 0]))
  clear hb2
  go_wp2_with fail
  refine HO.out.mono ?_
  clear HO
  rintro e w3 ⟨g, v, rfl, hL3, hg3, hb3⟩
  have hg : w.heap.size ≤ g := Nat.le_trans HB2.out.size hg3
  have HB3 := Lib.hid (HB2.out.trans (hb3.mono HB2.out.size))
  have HL3 := Lib.hid hL3
  clear hL3 hb3 hg3
  go_wp2_with fail
  refine (req_any 3 _).mono ?_
  rintro e w4 ⟨rfl, hb4⟩
  have HA : Hid (Calls Try.prog 13 #[.pointer (some ⟨g, 0, none⟩), rqV 3] w4 fun e w' => e = .returned (.tuple #[.int .u64 8, .int .i64 0]) ∧ (∃ v', LogS w' g g 5 v' [1, 2, 3]) ∧ Below g w4 w') := Lib.hid ((append_ok g g 5 3 v [1, 2] w4 (HL3.out.on hb4) (Nat.le_refl _) (by decide) (by decide) (by decide) (by decide)).mono fun e w' h => ⟨h.1, h.2.1, h.2.2.1⟩)
  have HB4 := Lib.hid (HB3.out.trans (hb4.mono HB3.out.size))
  clear hb4
  go_wp2_with fail
  refine HA.out.mono ?_
  clear HA
  rintro e w5 ⟨rfl, ⟨v5, hL5⟩, hb5⟩
  obtain ⟨g', c, cs, rfl, hk', hg', hc1, hc2, hcs⟩ := row3 hL5.2
  have hne : g' ≠ g := fun e => own66 hL5.2 hL5.1 (by decide) (by rw [e]; rfl)
  have HD := Lib.hid (drop_one g g' c w5 cs 1 hL5.1 hk' hne hc1 hc2 (fun i hi => (hcs i (by omega)).trans (i30_a i hi)))
  have HB5 := Lib.hid (HB4.out.trans (hb5.mono hg))
  have HC := Lib.hid hcs
  clear hL5 hk' hb5 hcs
  go_wp2_with fail
  refine HD.out.mono ?_
  clear HD
  rintro e w6 ⟨rfl, hk6, hi6, hg6⟩
  have HT := Lib.hid (at_one g g' (c - 1) w6 cs 2 hk6 hi6 (fun i hi => (HC.out (10 + i) (by omega)).trans (i30_b i hi)))
  have HB6 := Lib.hid (HB5.out.trans (⟨hg6.os, hg6.tape, hg6.output, hg6.size, fun k hk => hg6.block k (Nat.lt_of_lt_of_le hk HB5.out.size) (fun e => by injection e with e; omega)⟩ : Below w.heap.size w5 w6))
  clear hk6 hi6 hg6
  go_wp2_with fail
  refine HT.out.mono ?_
  clear HT
  rintro e w7 ⟨rfl, hb7⟩
  have HB7 := Lib.hid ((HB6.out.trans (hb7.mono HB6.out.size)).alloc (Nat.le_trans HB6.out.size hb7.size) (.cells #[.int .u64 1, .int .u64 2, .int .i64 6, .string ⟨#[97]⟩, .string ⟨#[]⟩, .slice none 0 0, .slice none 0 0, .slice none 0 0, .int .i64 0] 42))
  clear hb7
  go_wp2_with fail
  go_ret
  exact ⟨rfl, HB7.out⟩
end Go.Proofs.Ytniaijgejljjbaa.Tlv
