/- UtfRunes, the walk. -/
import Derived.Test.YtnokocaodnanoaaKnown
import Derived.Test.YtnokocaodnanoaaRefNext
namespace Go.Proofs.Ytnokocaodnanoaa
open Go.RowKit
set_option linter.unusedVariables false

theorem runes_long (a0 : Int) (a1 : ByteArray) (w1 : a1.size ≤ maxLen) (w : World) (hl : 9000 < a1.size) :
    Calls Try.prog 3 #[.int .i32 a0, .string a1] w fun e w' => e = .returned (.bool true) ∧ Below w.heap.size w w' := by
  unfold maxLen at w1
  go_enter Try.func3, Try.ntmps3
  go_wp2_with (go_at_call 9; refine (known_any _).mono ?_; rintro e w1 ⟨rfl, hb1⟩)
  go_ret
  exact ⟨rfl, hb1⟩

set_option maxHeartbeats 2000000 in
theorem runes_short (a0 : Int) (a1 : ByteArray) (w : World) (hl : a1.size ≤ 9000) :
    Calls Try.prog 3 #[.int .i32 a0, .string a1] w fun e w' => e = .returned (.bool true) ∧ Below w.heap.size w w' := by
  have hx := fun W => next_any_utf a1 W (by omega)
  have hy := fun W => refNext_any a1 W (by omega)
  have hr := nx_range (bt a1) a1.size
  have hf := fun W => may_any a0 W
  have hg := fun W => refMay_any a0 W
  have hs := fun W => size_any a0 W
  generalize nxR (bt a1) a1.size = x at *
  generalize nxN (bt a1) a1.size = n at *
  cases hm : mayB a0
  · have h0 : sizeI a0 = 0 := by unfold sizeI; rw [if_pos hm]
    rw [hm] at hf hg
    rw [h0] at hs
    clear hm h0
    have Hx := Lib.hid hx; have Hy := Lib.hid hy; have Hf := Lib.hid hf; have Hg := Lib.hid hg; have Hs := Lib.hid hs
    clear hx hy hf hg hs
    by_cases hn : n = 0
    · subst hn
      clear hr
      go_enter Try.func3, Try.ntmps3
      go_wp2_with (first
        | (go_at_call 9; refine (known_any _).mono ?_; rintro e w2 ⟨rfl, hb2⟩)
        | (go_at_call 10; refine (Hx.out _).mono ?_; rintro e w' ⟨rfl, rfl⟩)
        | (go_at_call 11; refine (Hy.out _).mono ?_; rintro e w1 ⟨rfl, hb1⟩)
        | (go_at_call 12; refine (Hg.out _).mono ?_; rintro e w' ⟨rfl, rfl⟩)
        | (go_at_call 14; refine (Hf.out _).mono ?_; rintro e w' ⟨rfl, rfl⟩)
        | (go_at_call 15; refine (Hs.out _).mono ?_; rintro e w' ⟨rfl, rfl⟩)
        | (go_at_call 16; refine (num_any _ _).mono ?_; rintro e w' ⟨rfl, rfl⟩))
      go_ret
      exact ⟨rfl, hb1.trans (hb2.mono hb1.size)⟩
    · have Hn := Lib.hid (show nxE n = 0 from by unfold nxE; rw [if_neg hn])
      have hp : 0 < n := by omega
      have hp2 : decide ((0 : Int) < n) = true := by simpa using hp
      clear hn hr
      have Hx' : Hid (∀ W, Calls Try.prog 10 #[.string a1] W fun e w' => e = .returned (.tuple #[.int .i32 x, .int .i64 n, .int .i64 0]) ∧ W = w') := Lib.hid (by have := Hx.out; rwa [Hn.out] at this)
      clear Hx Hn
      have Hx := Hx'
      clear Hx'
      go_enter Try.func3, Try.ntmps3
      go_wp2_with (first
        | (go_at_call 9; refine (known_any _).mono ?_; rintro e w2 ⟨rfl, hb2⟩)
        | (go_at_call 10; refine (Hx.out _).mono ?_; rintro e w' ⟨rfl, rfl⟩)
        | (go_at_call 11; refine (Hy.out _).mono ?_; rintro e w1 ⟨rfl, hb1⟩)
        | (go_at_call 12; refine (Hg.out _).mono ?_; rintro e w' ⟨rfl, rfl⟩)
        | (go_at_call 14; refine (Hf.out _).mono ?_; rintro e w' ⟨rfl, rfl⟩)
        | (go_at_call 15; refine (Hs.out _).mono ?_; rintro e w' ⟨rfl, rfl⟩)
        | (go_at_call 16; refine (num_any _ _).mono ?_; rintro e w' ⟨rfl, rfl⟩))
      go_ret
      exact ⟨rfl, hb1.trans (hb2.mono hb1.size)⟩
  · have h0 : sizeI a0 = ((putI a0).length : Int) := (putI_len hm).symm
    have hput := fun W => put_any a0 W hm
    rw [hm] at hf hg
    rw [h0] at hs
    clear hm h0
    have h4 := putI_len4 a0
    generalize putI a0 = l at *
    have Hx := Lib.hid hx; have Hy := Lib.hid hy; have Hf := Lib.hid hf; have Hg := Lib.hid hg; have Hs := Lib.hid hs; have Hp := Lib.hid hput
    clear hx hy hf hg hs hput
    by_cases hn : n = 0
    · subst hn
      clear hr
      go_enter Try.func3, Try.ntmps3
      go_wp2_with (first
        | (go_at_call 9; refine (known_any _).mono ?_; rintro e w2 ⟨rfl, hb2⟩)
        | (go_at_call 10; refine (Hx.out _).mono ?_; rintro e w' ⟨rfl, rfl⟩)
        | (go_at_call 11; refine (Hy.out _).mono ?_; rintro e w1 ⟨rfl, hb1⟩)
        | (go_at_call 12; refine (Hg.out _).mono ?_; rintro e w' ⟨rfl, rfl⟩)
        | (go_at_call 14; refine (Hf.out _).mono ?_; rintro e w' ⟨rfl, rfl⟩)
        | (go_at_call 15; refine (Hs.out _).mono ?_; rintro e w' ⟨rfl, rfl⟩)
        | (go_at_call 16; refine (num_any _ _).mono ?_; rintro e w' ⟨rfl, rfl⟩)
        | (go_at_call 13; refine (Hp.out _).mono ?_; rintro e w' ⟨rfl, rfl⟩))
      go_ret
      exact ⟨rfl, (hb1.alloc hb1.size _).trans (hb2.mono (by have := hb1.size; simp; omega))⟩
    · have Hn := Lib.hid (show nxE n = 0 from by unfold nxE; rw [if_neg hn])
      have hp : 0 < n := by omega
      have hp2 : decide ((0 : Int) < n) = true := by simpa using hp
      clear hn hr
      have Hx' : Hid (∀ W, Calls Try.prog 10 #[.string a1] W fun e w' => e = .returned (.tuple #[.int .i32 x, .int .i64 n, .int .i64 0]) ∧ W = w') := Lib.hid (by have := Hx.out; rwa [Hn.out] at this)
      clear Hx Hn
      have Hx := Hx'
      clear Hx'
      go_enter Try.func3, Try.ntmps3
      go_wp2_with (first
        | (go_at_call 9; refine (known_any _).mono ?_; rintro e w2 ⟨rfl, hb2⟩)
        | (go_at_call 10; refine (Hx.out _).mono ?_; rintro e w' ⟨rfl, rfl⟩)
        | (go_at_call 11; refine (Hy.out _).mono ?_; rintro e w1 ⟨rfl, hb1⟩)
        | (go_at_call 12; refine (Hg.out _).mono ?_; rintro e w' ⟨rfl, rfl⟩)
        | (go_at_call 14; refine (Hf.out _).mono ?_; rintro e w' ⟨rfl, rfl⟩)
        | (go_at_call 15; refine (Hs.out _).mono ?_; rintro e w' ⟨rfl, rfl⟩)
        | (go_at_call 16; refine (num_any _ _).mono ?_; rintro e w' ⟨rfl, rfl⟩)
        | (go_at_call 13; refine (Hp.out _).mono ?_; rintro e w' ⟨rfl, rfl⟩))
      go_ret
      exact ⟨rfl, (hb1.alloc hb1.size _).trans (hb2.mono (by have := hb1.size; simp; omega))⟩
end Go.Proofs.Ytnokocaodnanoaa
