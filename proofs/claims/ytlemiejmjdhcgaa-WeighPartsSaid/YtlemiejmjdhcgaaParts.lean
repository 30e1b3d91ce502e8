/- WeighParts: the walk. -/
import Derived.Test.YtlemiejmjdhcgaaKnown
import Derived.Deep.RegionHeld3
import Derived.Deep.Cut
namespace Go.Proofs.Ytlemiejmjdhcgaa
open Go.RowKit
set_option linter.unusedVariables false
set_option linter.unusedSimpArgs false

theorem ofE_plain : ∀ (l : List El) (b b' : Bool), ofE false b l = ofE false b' l
  | [], _, _ => rfl
  | x :: t, b, b' => by simp only [ofE]; rw [ofE_plain t (nextB x b) (nextB x b')]; rfl
theorem weighL_plain (lv : Int) (a b : List El) : weighL false lv (a ++ b) = weighL false lv a ++ weighL false lv b := by
  unfold weighL
  split
  · rw [ofE_append, ofE_plain b (stB false a) false]
  · rfl
theorem weighL_shift (lv : Int) (a b : List El) (e : El) (hp : e.p ≠ 0) (hv : e.var = false) : weighL true lv ((a ++ [e]) ++ b) = weighL true lv (a ++ [e]) ++ weighL true lv b := by
  have hst : stB false (a ++ [e]) = false := by rw [stB_snoc]; simp [nextB, hp, hv]
  unfold weighL
  split
  · rw [ofE_append, hst]
  · rfl
theorem RowK.on {α : Type} {K : Kind α} {w w' : World} {base : Nat} {v : Value} {l : List α} (h : RowK K w base v l) (hb : Below w.heap.size w w') : RowK K w' base v l :=
  World.ownsRow.kept h (row := none) ⟨hb.os, hb.tape, hb.output, hb.size, fun k hk _ => hb.block k hk⟩ (by cases v.ownBlock <;> simp)
/-- append, in a drawn region, of a row of a length that is told otherwise. -/
theorem step_appN {α : Type} [Inhabited α] (K : Kind α) {w : World} {ops : Array Oper} {o : Oper} {a : Act} {Q : Exit → Act → World → Prop} {K' : Act → World → Prop} {E : Prop} (hgd : o.guard = none) (s x : Operand)
    (ho : o.op = .call { callee := .builtin .append, args := #[s, x], argTypes := #[K.st, K.st] })
    {base B : Nat} {v : Value} {l : List α} {A : Option Addr} {c n : Nat} (m : List α) (hnn : n = m.length) (hs : a.eval s = v) (hown : RowK K w base v l) (hx : a.eval x = .slice A n c) (hr : RdK K w B A m) (hA : A = none → c = 0)
    (hn : l.length + m.length ≤ 1000000000) (hb : base ≤ w.heap.size)
    (h : ∀ v' w', RowK K w' base v' (l ++ m) → w.grownBy w' v.ownBlock → K' (a.put o.dst v') w') :
    if Region.wanted o (yielded ops a.tmps) = true then Oper.wp Try.prog o a w K' Q else E := by
  subst hnn
  exact step_app K hgd s x ho m hs hown hx hr hA hn hb h

/-- The law is about these alone. -/
def Asked (lv : Int) (a b : List El) : Prop := soundL a = true ∧ soundL b = true ∧ a.length ≤ 100 ∧ b.length ≤ 100 ∧ 1 ≤ lv ∧ lv ≤ 4

set_option maxHeartbeats 8000000 in
set_option maxRecDepth 100000 in
theorem parts_out (lv : Int) (A : Option Addr) (c : Nat) (a : List El) (B : Option Addr) (d : Nat) (b : List El) (e : El) (w : World) (ha : RdK kE w w.heap.size A a) (hb : RdK kE w w.heap.size B b) (hla : a.length ≤ maxLen) (hlb : b.length ≤ maxLen) (h : ¬ Asked lv a b) :
    Calls Try.prog 5 #[.int .i64 lv, .slice A a.length c, .slice B b.length d, e.agg] w fun e w' => e = .returned (.bool true) ∧ Below w.heap.size w w' := by
  have hb0 : Below w.heap.size w (w.alloc (.cells #[.int .u16 e.p, .int .u16 e.s, .int .u16 e.t, .bool e.var] 42)) := (Below.refl _ _).alloc (Nat.le_refl _) _
  have hsa := sound_any A c a _ (ha.on hb0) hla
  have hsb := fun W h => sound_any B d b W ((hb.on hb0).on h) hlb
  have hcases : (soundL a = false) ∨ (soundL a = true ∧ soundL b = false) ∨ (soundL a = true ∧ soundL b = true ∧ 100 < a.length) ∨ (soundL a = true ∧ soundL b = true ∧ a.length ≤ 100 ∧ 100 < b.length) ∨ (soundL a = true ∧ soundL b = true ∧ a.length ≤ 100 ∧ b.length ≤ 100 ∧ lv < 1) ∨ (soundL a = true ∧ soundL b = true ∧ a.length ≤ 100 ∧ b.length ≤ 100 ∧ 1 ≤ lv ∧ 4 < lv) := by
    unfold Asked at h
    cases h1 : soundL a <;> cases h2 : soundL b <;> simp [h1, h2] at h ⊢
    omega
  have HSA := Lib.hid hsa
  have HSB := Lib.hid hsb
  have HB0 := Lib.hid hb0
  clear hsa hsb ha hb h hla hlb hb0
  rcases hcases with s1 | ⟨s1, s2⟩ | ⟨s1, s2, h⟩ | ⟨s1, s2, g1, h⟩ | ⟨s1, s2, g1, g2, h⟩ | ⟨s1, s2, g1, g2, g3, h⟩
  · rw [s1] at HSA
    go_enter Try.func5, Try.ntmps5
    go_wp2_with fail
    refine HSA.out.mono ?_
    rintro e w2 ⟨rfl, hb2⟩
    go_wp2_with fail
    refine (known_any _).mono ?_
    rintro e w3 ⟨rfl, hb3⟩
    go_wp2_with fail
    go_ret
    have hb := HB0.out.trans (hb2.mono HB0.out.size)
    exact ⟨rfl, hb.trans (hb3.mono hb.size)⟩
  all_goals
    rw [s1] at HSA
    rw [s2] at HSB
  · go_enter Try.func5, Try.ntmps5
    go_wp2_with fail
    refine HSA.out.mono ?_
    rintro e w2 ⟨rfl, hb2⟩
    go_wp2_with fail
    refine (HSB.out _ hb2).mono ?_
    rintro e w3 ⟨rfl, hb3⟩
    go_wp2_with fail
    refine (known_any _).mono ?_
    rintro e w4 ⟨rfl, hb4⟩
    go_wp2_with fail
    go_ret
    have hb := HB0.out.trans (hb2.mono HB0.out.size)
    have hb' := hb.trans (hb3.mono hb.size)
    exact ⟨rfl, hb'.trans (hb4.mono hb'.size)⟩
  · have d1 : decide ((100 : Int) < a.length) = true := by simp only [decide_eq_true_eq]; omega
    go_enter Try.func5, Try.ntmps5
    go_wp2_with fail
    refine HSA.out.mono ?_
    rintro e w2 ⟨rfl, hb2⟩
    go_wp2_with fail
    refine (HSB.out _ hb2).mono ?_
    rintro e w3 ⟨rfl, hb3⟩
    go_wp2_with fail
    refine (known_any _).mono ?_
    rintro e w4 ⟨rfl, hb4⟩
    go_wp2_with fail
    go_ret
    have hb := HB0.out.trans (hb2.mono HB0.out.size)
    have hb' := hb.trans (hb3.mono hb.size)
    exact ⟨rfl, hb'.trans (hb4.mono hb'.size)⟩
  all_goals
    have d1 : decide ((100 : Int) < a.length) = false := by simp only [decide_eq_false_iff_not]; omega
    have e1 : decide (100 < a.length) = false := by simp only [decide_eq_false_iff_not]; omega
  · have d2 : decide ((100 : Int) < b.length) = true := by simp only [decide_eq_true_eq]; omega
    go_enter Try.func5, Try.ntmps5
    go_wp2_with fail
    refine HSA.out.mono ?_
    rintro e w2 ⟨rfl, hb2⟩
    go_wp2_with fail
    refine (HSB.out _ hb2).mono ?_
    rintro e w3 ⟨rfl, hb3⟩
    go_wp2_with fail
    refine (known_any _).mono ?_
    rintro e w4 ⟨rfl, hb4⟩
    go_wp2_with fail
    go_ret
    have hb := HB0.out.trans (hb2.mono HB0.out.size)
    have hb' := hb.trans (hb3.mono hb.size)
    exact ⟨rfl, hb'.trans (hb4.mono hb'.size)⟩
  all_goals
    have d2 : decide ((100 : Int) < b.length) = false := by simp only [decide_eq_false_iff_not]; omega
    have e2 : decide (100 < b.length) = false := by simp only [decide_eq_false_iff_not]; omega
  · have d3 : decide (lv < 1) = true := by simp only [decide_eq_true_eq]; omega
    go_enter Try.func5, Try.ntmps5
    go_wp2_with fail
    refine HSA.out.mono ?_
    rintro e w2 ⟨rfl, hb2⟩
    go_wp2_with fail
    refine (HSB.out _ hb2).mono ?_
    rintro e w3 ⟨rfl, hb3⟩
    go_wp2_with fail
    refine (known_any _).mono ?_
    rintro e w4 ⟨rfl, hb4⟩
    go_wp2_with fail
    go_ret
    have hb := HB0.out.trans (hb2.mono HB0.out.size)
    have hb' := hb.trans (hb3.mono hb.size)
    exact ⟨rfl, hb'.trans (hb4.mono hb'.size)⟩
  · have d3 : decide (lv < 1) = false := by simp only [decide_eq_false_iff_not]; omega
    have d4 : decide (4 < lv) = true := by simp only [decide_eq_true_eq]; omega
    go_enter Try.func5, Try.ntmps5
    go_wp2_with fail
    refine HSA.out.mono ?_
    rintro e w2 ⟨rfl, hb2⟩
    go_wp2_with fail
    refine (HSB.out _ hb2).mono ?_
    rintro e w3 ⟨rfl, hb3⟩
    go_wp2_with fail
    refine (known_any _).mono ?_
    rintro e w4 ⟨rfl, hb4⟩
    go_wp2_with fail
    go_ret
    have hb := HB0.out.trans (hb2.mono HB0.out.size)
    have hb' := hb.trans (hb3.mono hb.size)
    exact ⟨rfl, hb'.trans (hb4.mono hb'.size)⟩
end Go.Proofs.Ytlemiejmjdhcgaa
