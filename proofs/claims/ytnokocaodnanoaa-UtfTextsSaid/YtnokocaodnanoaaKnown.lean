/- The chapter's rows (known), and what a law hands back: true, and nothing that was there has turned. -/
import Derived.Test.YtnokocaodnanoaaEnc
namespace Go.Proofs.Ytnokocaodnanoaa
open Go.RowKit
set_option linter.unusedVariables false

theorem enc_row : mkS (encI [8364]) = ⟨#[226, 130, 172]⟩ := by decide +kernel
theorem next_row : nxN (bt ⟨#[192, 128]⟩) 2 = 0 := by decide +kernel

set_option maxHeartbeats 1000000 in
theorem known_any (w : World) :
    Calls Try.prog 9 #[] w fun e w' => e = .returned (.bool true) ∧ Below w.heap.size w w' := by
  have hin : In32 (w.alloc (.cells #[.int .i32 8364] 21)) (w.alloc (.cells #[.int .i32 8364] 21)).heap.size (some ⟨w.heap.size, 0, none⟩) [8364] := fun _ => by
    refine ⟨w.heap.size, 0, rfl, by simp, fun j hj => ?_⟩
    have : j = 0 := by simp at hj; omega
    subst this
    rw [World.cell?_alloc_at _ _ _ _ rfl]
    rfl
  have he := enc_ok [8364] (some ⟨w.heap.size, 0, none⟩) 1 _ hin (by decide) (by decide +kernel)
  rw [enc_row] at he
  have hn := fun W => next_any_utf ⟨#[192, 128]⟩ W (by decide)
  rw [show (⟨#[192, 128]⟩ : ByteArray).size = 2 from rfl, next_row] at hn
  rw [show nxR (bt ⟨#[192, 128]⟩) 2 = 0 from by decide +kernel, show nxE 0 = 5 from rfl] at hn
  have He := Lib.hid he
  have Hn := Lib.hid hn
  clear hn he hin
  go_enter Try.func9, Try.ntmps9
  go_wp2_with (first
    | (go_at_call 23; refine He.out.mono ?_; rintro e w1 ⟨rfl, hb1⟩)
    | (go_at_call 10; refine (Hn.out _).mono ?_; rintro e w' ⟨rfl, rfl⟩)
    | (go_at_call 16; refine (num_any _ _).mono ?_; rintro e w' ⟨rfl, rfl⟩))
  go_ret
  exact ⟨rfl, ((Below.refl _ w).alloc (Nat.le_refl _) _).trans (hb1.mono (by simp))⟩
end Go.Proofs.Ytnokocaodnanoaa
