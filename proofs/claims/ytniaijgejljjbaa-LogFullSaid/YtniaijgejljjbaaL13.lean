/- LogFull's walk. -/
import Derived.Test.YtniaijgejljjbaaL12
namespace Go.Proofs.Ytniaijgejljjbaa.Tlv
open Go.RowKit
set_option maxRecDepth 100000
set_option linter.unusedVariables false
set_option linter.unusedSimpArgs false

theorem full_out (n : Int) (w : World) (h : n < 0 ∨ 4200 < n) : Calls Try.prog 4 #[.int .i64 n] w fun e w' => e = .returned (.bool true) ∧ Below w.heap.size w w' := by
  by_cases h0 : n < 0
  · clear h
    go_enter Try.func4, Try.ntmps4
    go_wp2_with (go_at_call 7; (with_reducible refine (known_any _).mono ?_); rintro e w1 ⟨rfl, hb1⟩)
    go_ret
    exact ⟨rfl, hb1⟩
  · have h1 : 4200 < n := by omega
    have h2 : 0 ≤ n := by omega
    clear h h0
    go_enter Try.func4, Try.ntmps4
    go_wp2_with (go_at_call 7; (with_reducible refine (known_any _).mono ?_); rintro e w1 ⟨rfl, hb1⟩)
    go_ret
    exact ⟨rfl, hb1⟩
set_option maxHeartbeats 8000000 in
theorem full_in (m : Nat) (w : World) (hm : m ≤ 4200) : Calls Try.prog 4 #[.int .i64 m] w fun e w' => e = .returned (.bool true) ∧ Below w.heap.size w w' := by
  have hb2 : Below w.heap.size w ((w.alloc (.cells #[.bool true, .int .u64 0, .slice none 0 0, .int .i64 0] 54)).alloc (.cells #[.int .u64 1, .int .u64 2, .int .i64 6, .string ⟨#[97]⟩, .string ⟨#[]⟩, .slice none 0 0, .slice none 0 0, .slice none 0 0, .int .i64 0] 42)) := ((Below.refl _ _).alloc (Nat.le_refl _) _).alloc (by simp) _
  have hL2 := (LogS.new w).on ((Below.refl _ _).alloc (Nat.le_refl _) (.cells #[.int .u64 1, .int .u64 2, .int .i64 6, .string ⟨#[97]⟩, .string ⟨#[]⟩, .slice none 0 0, .slice none 0 0, .slice none 0 0, .int .i64 0] 42))
  have k2 := Blk.new (w.alloc (.cells #[.bool true, .int .u64 0, .slice none 0 0, .int .i64 0] 54)) 42 #[.int .u64 1, .int .u64 2, .int .i64 6, .string ⟨#[97]⟩, .string ⟨#[]⟩, .slice none 0 0, .slice none 0 0, .slice none 0 0, .int .i64 0]
  have HN := Lib.hid (new_any w)
  rw [World.size_alloc] at k2
  have H0 := Lib.hid (And.intro hb2 (And.intro hL2 k2))
  have d1 : decide ((m : Int) < 0) = false := by simp
  have d2 : decide ((4200 : Int) < (m : Int)) = false := by simp; omega
  clear hb2 hL2 k2
  go_enter Try.func4, Try.ntmps4
  go_wp2_with (go_at_call 12; (with_reducible refine HN.out.mono ?_); rintro e w1 ⟨rfl, rfl⟩)
  go_loopw [5] (fun s5 wr => ∃ (k : Nat) (v : Value) (l : List Int), s5 = .int .i64 k ∧ k ≤ m ∧ Hid (LogS wr w.heap.size w.heap.size 0 v l ∧ l.length = min k 4096 ∧ Below w.heap.size w wr ∧ Blk wr (w.heap.size + 1) 42 #[.int .u64 1, .int .u64 2, .int .i64 6, .string ⟨#[97]⟩, .string ⟨#[]⟩, .slice none 0 0, .slice none 0 0, .slice none 0 0, .int .i64 0])) (fun s5 _ => m - (intOf s5).toNat)
  case atStart => exact ⟨0, _, [], rfl, Nat.zero_le _, Lib.hid ⟨H0.out.2.1, rfl, H0.out.1, H0.out.2.2⟩⟩
  case round =>
    obtain ⟨k, v, l, rfl, hk, H⟩ := hrel
    by_cases hlt : k < m
    · have kR := H.out.2.2.2
      have r0 := kR.cell 0
      have r1 := kR.cell 1
      have r2 := kR.cell 2
      have r3 := kR.cell 3
      have r4 := kR.cell 4
      have r5 := kR.cell 5
      have r6 := kR.cell 6
      have r7 := kR.cell 7
      have r8 := kR.cell 8
      simp only [List.getElem?_toArray, List.getElem?_cons_zero, List.getElem?_cons_succ] at r0 r1 r2 r3 r4 r5 r6 r7 r8
      clear kR
      by_cases hf : k < 4096
      · have HA : Hid (Calls Try.prog 13 #[.pointer (some ⟨w.heap.size, 0, none⟩), rqV 2] wr fun e w' => e = .returned (.tuple #[.int .u64 ((k : Int) + 1), .int .i64 0]) ∧ (∃ v', LogS w' w.heap.size w.heap.size 0 v' (l ++ [2])) ∧ Below w.heap.size wr w' ∧ ∀ b' cs, Blk wr b' 42 cs → Blk w' b' 42 cs) := Lib.hid (by
          have h := append_ok w.heap.size w.heap.size 0 2 v l wr H.out.1 (Nat.le_refl _) (by have := H.out.2.1; omega) (by decide) (by decide) (by decide)
          have e : (((0 + (l.length + 1) : Nat)) : Int) = (k : Int) + 1 := by have := H.out.2.1; omega
          rw [e] at h
          exact h)
        have hf2 : decide ((k : Int) < 4096) = true := by simp; omega
        have hf3 : decide ((4096 : Int) ≤ (k : Int)) = false := by simp; omega
        go_wp2_with (go_at_call 13; (with_reducible refine HA.out.mono ?_); clear HA r0 r1 r2 r3 r4 r5 r6 r7 r8; rintro e w3 ⟨rfl, ⟨v3, hL3⟩, hb3, hk3⟩; have H3 := Lib.hid (And.intro hL3 (And.intro (H.out.2.2.1.trans hb3) (hk3 _ _ H.out.2.2.2))); clear hL3 hb3 hk3)
        go_roundw
        case rel => exact ⟨k + 1, v3, l ++ [2], by go_num, by omega, Lib.hid ⟨H3.out.1, by rw [List.length_append, List.length_singleton]; have := H.out.2.1; omega, H3.out.2.1, H3.out.2.2⟩⟩
        case measure => simp [intOf]; omega
      · have HA := Lib.hid (append_full w.heap.size w.heap.size 0 2 v l wr H.out.1 (Nat.le_refl _) (by have := H.out.2.1; omega) (by decide) (by decide))
        have hf2 : decide ((k : Int) < 4096) = false := by simp; omega
        have hf3 : decide ((4096 : Int) ≤ (k : Int)) = true := by simp; omega
        go_wp2_with (go_at_call 13; (with_reducible refine HA.out.mono ?_); clear HA r0 r1 r2 r3 r4 r5 r6 r7 r8; rintro e w3 ⟨rfl, hb3⟩; have H3 := Lib.hid (And.intro (H.out.1.on hb3) (And.intro (H.out.2.2.1.trans (hb3.mono H.out.2.2.1.size)) (H.out.2.2.2.on hb3))); clear hb3)
        go_roundw
        case rel => exact ⟨k + 1, v, l, by go_num, by omega, Lib.hid ⟨H3.out.1, by have := H.out.2.1; omega, H3.out.2.1, H3.out.2.2⟩⟩
        case measure => simp [intOf]; omega
    · obtain rfl : k = m := by omega
      obtain ⟨A, c, rfl, hkb⟩ := H.out.1.blk
      have HL := Lib.hid (len_is w.heap.size _ _ A l.length c wr hkb)
      have HB := Lib.hid H.out.2.2.1
      have hlen := H.out.2.1
      rw [hlen] at HL
      clear hkb hlen hlt hk H
      by_cases hf : k ≤ 4096
      · rw [show min k 4096 = k by omega] at HL
        have hf2 : min (k : Int) 4096 = k := by omega
        go_wp2_with (first
          | (go_at_call 14; (with_reducible refine HL.out.mono ?_); rintro e w3 ⟨rfl, rfl⟩)
          | (go_at_call 7; (with_reducible refine (known_any _).mono ?_); rintro e w4 ⟨rfl, hb4⟩; have HB4 := Lib.hid (HB.out.trans (hb4.mono HB.out.size)); clear hb4))
        go_ret
        exact ⟨rfl, HB4.out⟩
      · rw [show min k 4096 = 4096 by omega] at HL
        have hf2 : min (k : Int) 4096 = 4096 := by omega
        have hf3 : (4096 : Int) < k := by omega
        go_wp2_with (first
          | (go_at_call 14; (with_reducible refine HL.out.mono ?_); rintro e w3 ⟨rfl, rfl⟩)
          | (go_at_call 7; (with_reducible refine (known_any _).mono ?_); rintro e w4 ⟨rfl, hb4⟩; have HB4 := Lib.hid (HB.out.trans (hb4.mono HB.out.size)); clear hb4))
        go_ret
        exact ⟨rfl, HB4.out⟩
end Go.Proofs.Ytniaijgejljjbaa.Tlv
