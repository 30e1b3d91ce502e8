/- leaf, full, spare, none. -/
import Derived.Test.YtgjcomnljonffaaB9
import Derived.StillTailTactics
import Derived.Deep.QuietTactic
import Derived.Deep.DeepCutAuto
import Derived.Deep.Cut
import Derived.Deep.CutBlock
namespace Go.Proofs.Ytgjcomnljonffaa.Tlv
open Go.RowKit
set_option maxRecDepth 100000
set_option linter.unusedVariables false
set_option linter.unusedSimpArgs false
theorem leaf_any (N n c : Nat) (v : Value) (A : Option Addr) (w : World) (hN : Blk w N 59 #[v, .slice A n c]) : Calls Try.prog 30 #[.pointer (some ⟨N, 0, none⟩)] w fun e w' => e = .returned (.bool (decide (n = 0))) ∧ w = w' := by
  have c0 := hN.cell 1
  simp only [List.getElem?_toArray, List.getElem?_cons_zero, List.getElem?_cons_succ] at c0
  have e : ((n : Int) == 0) = decide (n = 0) := by rw [Bool.eq_iff_iff]; simp
  clear hN
  go_enter Try.func30, Try.ntmps30
  go_wp2
  go_ret
  exact ⟨by rw [← e]; try simp, rfl⟩
theorem full_any (T N n c t : Nat) (A : Option Addr) (x y z : Value) (w : World) (hT : Blk w T 61 #[.int .i64 t, x, y]) (hN : Blk w N 59 #[.slice A n c, z]) (ht : 1 ≤ t ∧ t ≤ 64) (hn : n ≤ 1000) :
    Calls Try.prog 26 #[.pointer (some ⟨T, 0, none⟩), .pointer (some ⟨N, 0, none⟩)] w fun e w' => e = .returned (.bool (decide (n = 2 * t - 1))) ∧ ∃ m, w' = w.drewN m := by
  have c0 := hT.cell 0
  have c1 := hN.cell 0
  simp only [List.getElem?_toArray, List.getElem?_cons_zero, List.getElem?_cons_succ] at c0 c1
  have e : ((n : Int) == 2 * (t : Int) - 1) = decide (n = 2 * t - 1) := by rw [Bool.eq_iff_iff]; simp; omega
  have h1 : IntKind.i64.wrap (2 * (t : Int)) = 2 * (t : Int) := by rw [IntKind.wrap_i64]; omega
  have h2 : IntKind.i64.wrap (2 * (t : Int) - 1) = 2 * (t : Int) - 1 := by rw [IntKind.wrap_i64]; omega
  clear hT hN
  go_enter Try.func26, Try.ntmps26
  go_upto_region 1 with fail
  go_quiet (fail)
  go_wp2
  go_ret
  exact ⟨by rw [← e]; rfl, _, rfl⟩
theorem spare_any (T N n c t : Nat) (A : Option Addr) (x y z : Value) (w : World) (hT : Blk w T 61 #[.int .i64 t, x, y]) (hN : Blk w N 59 #[.slice A n c, z]) (ht : 1 ≤ t ∧ t ≤ 64) (hn : n ≤ 1000) :
    Calls Try.prog 39 #[.pointer (some ⟨T, 0, none⟩), .pointer (some ⟨N, 0, none⟩)] w fun e w' => e = .returned (.bool (decide (t ≤ n))) ∧ ∃ m, w' = w.drewN m := by
  have c0 := hT.cell 0
  have c1 := hN.cell 0
  simp only [List.getElem?_toArray, List.getElem?_cons_zero, List.getElem?_cons_succ] at c0 c1
  have e : decide ((t : Int) ≤ (n : Int)) = decide (t ≤ n) := by rw [Bool.eq_iff_iff]; simp
  clear hT hN
  go_enter Try.func39, Try.ntmps39
  go_upto_region 1 with fail
  go_quiet (fail)
  go_wp2
  go_ret
  exact ⟨by rw [← e]; rfl, _, rfl⟩
theorem none_tree (T N : Nat) (x y : Value) (w : World) (hT : Blk w T 61 #[x, y, .pointer (some ⟨N, 0, none⟩)]) : Calls Try.prog 25 #[.pointer (some ⟨T, 0, none⟩)] w fun e w' => e = .returned (.bool false) ∧ w = w' := by
  have c0 := hT.cell 2
  simp only [List.getElem?_toArray, List.getElem?_cons_zero, List.getElem?_cons_succ] at c0
  clear hT
  go_enter Try.func25, Try.ntmps25
  go_wp2
  go_ret
  exact ⟨rfl, rfl⟩
end Go.Proofs.Ytgjcomnljonffaa.Tlv
