/- Entries: the same, copied; changes, whichever. -/
import Derived.Test.YtlhbnmaalhainaaRefChg
import Derived.Test.YtlhbnmaalhainaaLawM
namespace Go.Proofs.Ytlhbnmaalhainaa
open Go.RowKit Go.Lib Go.Sort
set_option linter.unusedVariables false
set_option linter.unusedSimpArgs false

theorem change_any (l by' : List At) (v vb : Value) (w : World) (hv : RdV w v l) (hvb : RdV w vb by') (hs : Sm l) (hsb : Sm by') (hl : l.length ≤ 1000000) (hlb : by'.length ≤ 1000000) :
    Calls Try.prog 32 #[v, vb] w (ChOut w (changeR l by')) := by
  cases h : mayC l by' with
  | true => exact change_yes l by' v vb w hv hvb hs hsb h
  | false =>
    have e : changeR l by' = ([], 2) := by unfold changeR; rw [h]; rfl
    rw [e]
    exact change_no l by' v vb w hv hvb hs hsb hl hlb h
set_option maxHeartbeats 2000000 in
theorem refSameE_any (n1 n2 : List UInt8) (a b : List At) (va vb : Value) (w : World) (hva : RdV w va a) (hvb : RdV w vb b) (ha : a.length ≤ 9223372036854775807) (hb : b.length ≤ 9223372036854775807) :
    Calls Try.prog 22 #[.agg #[.string (sx n1), va], .agg #[.string (sx n2), vb]] w fun e w' => e = .returned (.bool (decide (n1 = n2) && decide (a = b))) ∧ Below w.heap.size w w' := by
  have hb0 := (Below.refl w.heap.size w).alloc (Nat.le_refl _) (.cells #[.string (sx n1), va] 26)
  have hb1 := hb0.alloc (show w.heap.size ≤ (w.alloc (.cells #[.string (sx n1), va] 26)).heap.size by simp) (.cells #[.string (sx n2), vb] 26)
  have HC := Lib.hid (refSame_any a b va vb _ (hva.on hb1) (hvb.on hb1) ha hb)
  have HB := Lib.hid hb1
  have HZ := Lib.hid hb1.size
  have e1 := sx_beq n1 n2
  obtain ⟨A, c, rfl, _, _⟩ := hva
  obtain ⟨B, d, rfl, _, _⟩ := hvb
  clear hb0 hb1 ha hb
  generalize a.length = na at HC HB HZ ⊢
  generalize b.length = nb at HC HB HZ ⊢
  generalize decide (a = b) = r2 at HC ⊢
  generalize decide (n1 = n2) = r1 at e1 ⊢
  cases r1 with
  | false =>
    go_enter Try.func22, Try.ntmps22
    go_wp2
    go_ret
    exact ⟨rfl, HB.out⟩
  | true =>
    go_enter Try.func22, Try.ntmps22
    go_wp2_with (go_at_call 30; (with_reducible refine HC.out.mono ?_); rintro e w' ⟨rfl, hb2⟩)
    go_ret
    exact ⟨by simp, HB.out.trans (hb2.mono HZ.out)⟩
set_option maxHeartbeats 2000000 in
theorem sameE_any (n1 n2 : List UInt8) (a b : List At) (va vb : Value) (w : World) (hva : RdV w va a) (hvb : RdV w vb b) (ha : a.length ≤ 9223372036854775807) (hb : b.length ≤ 9223372036854775807) :
    Calls Try.prog 41 #[.agg #[.string (sx n1), va], .agg #[.string (sx n2), vb]] w fun e w' => e = .returned (.bool (decide (n1 = n2) && decide (a = b))) ∧ Below w.heap.size w w' := by
  have hb0 := (Below.refl w.heap.size w).alloc (Nat.le_refl _) (.cells #[.string (sx n1), va] 26)
  have hb1 := hb0.alloc (show w.heap.size ≤ (w.alloc (.cells #[.string (sx n1), va] 26)).heap.size by simp) (.cells #[.string (sx n2), vb] 26)
  have HC := Lib.hid (equal_any a b va vb _ (hva.on hb1) (hvb.on hb1) ha hb)
  have HB := Lib.hid hb1
  have HZ := Lib.hid hb1.size
  have e1 := sx_beq n1 n2
  obtain ⟨A, c, rfl, _, _⟩ := hva
  obtain ⟨B, d, rfl, _, _⟩ := hvb
  clear hb0 hb1 ha hb
  generalize a.length = na at HC HB HZ ⊢
  generalize b.length = nb at HC HB HZ ⊢
  generalize decide (a = b) = r2 at HC ⊢
  generalize decide (n1 = n2) = r1 at e1 ⊢
  cases r1 with
  | false =>
    go_enter Try.func41, Try.ntmps41
    go_wp2
    go_ret
    exact ⟨rfl, HB.out⟩
  | true =>
    go_enter Try.func41, Try.ntmps41
    go_wp2_with (go_at_call 69; (with_reducible refine HC.out.mono ?_); rintro e w' ⟨rfl, hb2⟩)
    go_ret
    exact ⟨by simp, HB.out.trans (hb2.mono HZ.out)⟩
end Go.Proofs.Ytlhbnmaalhainaa
