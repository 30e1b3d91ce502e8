/- How two attributes stand, by both. -/
import Derived.Test.YtlhbnmaalhainaaRefMay
import Derived.StillTailTactics
namespace Go.Proofs.Ytlhbnmaalhainaa
open Go.RowKit
set_option linter.unusedVariables false
set_option linter.unusedSimpArgs false

set_option maxHeartbeats 4000000 in
theorem less_any (x y : At) (w : World) : Calls Try.prog 36 #[x.val, y.val] w fun e w' => e = .returned (.bool (ltA x y)) ∧ Below w.heap.size w w' := by
  have hb0 : Below w.heap.size w ((w.alloc (.cells #[.string (sx x.t), .string (sx x.v)] 29)).alloc (.cells #[.string (sx y.t), .string (sx y.v)] 29)) := ((Below.refl _ _).alloc (Nat.le_refl _) _).alloc (by simp) _
  have e1 := bless_list x.t y.t
  have e2 : ((sx x.t).toList == (sx y.t).toList) = (x.t == y.t) := by rw [sx_list, sx_list]
  have e3 := bless_list x.v y.v
  cases h1 : bless x.t y.t with
  | true =>
    have HC : Hid (ltA x y = true) := Lib.hid (ltA_iff.2 (.inl h1))
    rw [h1] at e1
    clear e2 e3 h1
    go_enter Try.func36, Try.ntmps36
    go_wp2
    go_ret
    exact ⟨by rw [HC.out]; rfl, hb0⟩
  | false =>
    rw [h1] at e1
    cases h2 : (x.t == y.t) with
    | false =>
      have HC : Hid (ltA x y = false) := Lib.hid (by unfold ltA; rw [h1, h2]; rfl)
      rw [h2] at e2
      clear e3 h1 h2
      go_enter Try.func36, Try.ntmps36
      go_wp2
      go_ret
      exact ⟨by rw [HC.out]; rfl, hb0⟩
    | true =>
      have HC : Hid (ltA x y = bless x.v y.v) := Lib.hid (by unfold ltA; rw [h1, h2]; rfl)
      generalize hbb : bless x.v y.v = b at *
      clear hbb
      obtain ⟨xt, xv⟩ := x
      obtain ⟨yt, yv⟩ := y
      dsimp only at *
      obtain rfl := beq_iff_eq.1 h2
      clear h1 h2 e2
      go_enter Try.func36, Try.ntmps36
      go_wp2
      go_ret
      exact ⟨by rw [HC.out]; rfl, hb0⟩
set_option maxHeartbeats 4000000 in
theorem or_any (a b : Int) (g : Nat) (w : World) (hg : Blk w g 3 #[.int .i64 a, .int .i64 b]) : Calls Try.prog 66 #[.slice (some ⟨g, 0, none⟩) 2 2] w fun e w' => e = .returned (.int .i64 (if a = 0 then b else a)) ∧ w = w' := by
  have c0 : w.cell? ⟨g, 0, none⟩ = some (.int .i64 a) := hg.cell 0
  have c1 : w.cell? ⟨g, 1, none⟩ = some (.int .i64 b) := hg.cell 1
  clear hg
  by_cases ha : a = 0
  · subst ha
    rw [if_pos rfl]
    by_cases hb : b = 0
    · subst hb
      go_enter Try.func66, Try.ntmps66
      go_wp2
      refine wp_loop_rounds 3 ?_
      rw [rounds_succ]
      go_wp2
      rw [rounds_succ]
      go_wp2
      rw [rounds_succ]
      go_wp2
      go_ret
      exact ⟨rfl, rfl⟩
    · have hb2 : (b != 0) = true := by simpa using hb
      clear hb
      go_enter Try.func66, Try.ntmps66
      go_wp2
      refine wp_loop_rounds 2 ?_
      rw [rounds_succ]
      go_wp2
      rw [rounds_succ]
      go_wp2
      go_ret
      exact ⟨rfl, rfl⟩
  · rw [if_neg ha]
    have ha2 : (a != 0) = true := by simpa using ha
    clear ha
    go_enter Try.func66, Try.ntmps66
    go_wp2
    refine wp_loop_rounds 1 ?_
    rw [rounds_succ]
    go_wp2
    go_ret
    exact ⟨rfl, rfl⟩
theorem cmpS_still (a b : List UInt8) (w : World) : Calls Try.prog 67 #[.string (sx a), .string (sx b)] w fun e w' => e = .returned (.int .i64 (cmpB a b)) ∧ w' = w := (cmpS_any a b w).mono fun _ _ h => ⟨h.1, h.2.symm⟩
set_option maxRecDepth 100000 in
set_option maxHeartbeats 1000000 in
theorem compare_any (x y : At) (w : World) : Calls Try.prog 37 #[x.val, y.val] w fun e w' => e = .returned (.int .i64 (cmpA x y)) ∧
    w' = ((((w.alloc (.cells #[.string (sx x.t), .string (sx x.v)] 29)).alloc (.cells #[.string (sx y.t), .string (sx y.v)] 29)).alloc (.cells #[.int .i64 (cmpB x.t y.t), .int .i64 (cmpB x.v y.v)] 3)).drew) := by
  have HA := Lib.hid (cmpA_or x y)
  have b0 := (Blk.new w 29 #[.string (sx x.t), .string (sx x.v)]).alloc (.cells #[.string (sx y.t), .string (sx y.v)] 29)
  have b1 := Blk.new (w.alloc (.cells #[.string (sx x.t), .string (sx x.v)] 29)) 29 #[.string (sx y.t), .string (sx y.v)]
  rw [World.size_alloc] at b1
  have HB := Lib.hid (And.intro b0 b1)
  clear b0 b1
  go_enter Try.func37, Try.ntmps37
  go_wp2
  obtain ⟨W, hW⟩ : ∃ W, (w.alloc (.cells #[.string (sx x.t), .string (sx x.v)] 29)).alloc (.cells #[.string (sx y.t), .string (sx y.v)] 29) = W := ⟨_, rfl⟩
  rw [hW] at HB ⊢
  have HW := Lib.hid hW
  clear hW
  have c0 : W.drew.cell? ⟨w.heap.size, 0, none⟩ = some (.string (sx x.t)) := HB.out.1.cell 0
  have c1 : W.drew.cell? ⟨w.heap.size, 1, none⟩ = some (.string (sx x.v)) := HB.out.1.cell 1
  have c2 : W.drew.cell? ⟨w.heap.size + 1, 0, none⟩ = some (.string (sx y.t)) := HB.out.2.cell 0
  have c3 : W.drew.cell? ⟨w.heap.size + 1, 1, none⟩ = some (.string (sx y.v)) := HB.out.2.cell 1
  refine wp_region_still_tail 10 (by kernel_rfl) (by kernel_rfl) ?_
  simp only [List.take_succ_cons, List.take_zero, List.drop_succ_cons, List.drop_zero]
  change wpStill _ _ W.drew _ _ _
  generalize hD : W.drew = D at *
  repeat (first | still_step | still_call (cmpS_still _ _ _))
  try refine wpStill_nil ?_
  have HDD := Lib.hid hD
  clear hD c0 c1 c2 c3 HB
  have h66 := or_any (cmpB x.t y.t) (cmpB x.v y.v) W.heap.size (W.alloc (.cells #[.int .i64 (cmpB x.t y.t), .int .i64 (cmpB x.v y.v)] 3)).drew (Blk.new W _ _)
  rw [← HA.out] at h66
  have H66 := Lib.hid h66
  clear h66
  go_wp2_with (go_at_call 66; (with_reducible refine H66.out.mono ?_); rintro e w2 ⟨rfl, rfl⟩)
  go_ret
  exact ⟨rfl, by rw [HW.out]⟩
end Go.Proofs.Ytlhbnmaalhainaa
