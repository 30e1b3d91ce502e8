/- Finding a key among items. -/
import Derived.Test.YtpldeobobfbkiaaV1
namespace Go.Proofs.Ytpldeobobfbkiaa.Tlv
open Go.RowKit
set_option maxRecDepth 100000
set_option linter.unusedVariables false
set_option linter.unusedSimpArgs false

/-- Item j of the row in block g, whose key is i. -/
structure ItAt (w : World) (g j : Nat) (x : It) (i : Int) : Prop where
  key : w.cell? ⟨g, 2 * j, none⟩ = some (keyV x.b x.c)
  num : w.cell? ⟨g, 2 * j + 1, none⟩ = some (.int .i64 x.v)
  lt : g < w.heap.size
  k : Key w x.b i
theorem ItAt.on {w w' : World} {g j : Nat} {x : It} {i : Int} (h : ItAt w g j x i) (hb : Below w.heap.size w w') : ItAt w' g j x i :=
  ⟨(hb.cell (p := ⟨g, 2 * j, none⟩) h.lt).trans h.key, (hb.cell (p := ⟨g, 2 * j + 1, none⟩) h.lt).trans h.num, Nat.lt_of_lt_of_le h.lt hb.size, h.k.on hb⟩
set_option maxHeartbeats 4000000 in
theorem search0 (A : Option Addr) (g c b c' : Nat) (t : Int) (w : World) (ht : Key w b t) : Calls Try.prog 29 #[.slice A 0 c, keyV b c', .func (.func 30) #[] #[]] w fun e w' => e = .returned (.tuple #[.int .i64 0, .bool false]) ∧ Below w.heap.size w w' := by
  have HB0 := Lib.hid (Below.refl w.heap.size w)
  have HT0 := Lib.hid ht
  go_enter Try.func29, Try.ntmps29
  go_wp2
  refine wp_loop_rounds 1 ?_
  rw [rounds_succ]
  go_wp2
  go_ret2
  exact ⟨rfl, HB0.out⟩
set_option maxHeartbeats 4000000 in
theorem search1 (A : Option Addr) (g c b c' : Nat) (x0 : It) (i0 : Int) (t : Int) (w : World) (h0 : ItAt w g 0 x0 i0) (ht : Key w b t) (e0 : cmpI i0 t = -1) : Calls Try.prog 29 #[.slice (some ⟨g, 0, none⟩) 1 c, keyV b c', .func (.func 30) #[] #[]] w fun e w' => e = .returned (.tuple #[.int .i64 1, .bool false]) ∧ Below w.heap.size w w' := by
  have HB0 := Lib.hid (Below.refl w.heap.size w)
  have H0_0 := Lib.hid h0
  have HT0 := Lib.hid ht
  have E0 := Lib.hid e0
  clear h0 ht e0
  go_enter Try.func29, Try.ntmps29
  go_wp2
  refine wp_loop_rounds 2 ?_
  have a0 := H0_0.out.key
  have v0 := H0_0.out.num
  simp only [Nat.reduceMul, Nat.reduceAdd] at a0 v0
  rw [rounds_succ]
  go_wp2_with ((with_reducible refine (at_any _ _ _ _ i0 t _ _ H0_0.out.k HT0.out).mono ?_); rintro e w1 ⟨rfl, hb⟩; dsimp only; try rw [E0.out]; have HB1 := Lib.hid (HB0.out.trans (hb.mono HB0.out.size)); have H1_0 := Lib.hid (H0_0.out.on hb); have HT1 := Lib.hid (HT0.out.on hb); clear hb a0 v0)
  rw [rounds_succ]
  go_wp2
  go_ret2
  exact ⟨rfl, HB1.out⟩
set_option maxHeartbeats 4000000 in
theorem search2 (A : Option Addr) (g c b c' : Nat) (x1 : It) (i1 : Int) (t : Int) (w : World) (h1 : ItAt w g 1 x1 i1) (ht : Key w b t) (e1 : cmpI i1 t = -1) : Calls Try.prog 29 #[.slice (some ⟨g, 0, none⟩) 2 c, keyV b c', .func (.func 30) #[] #[]] w fun e w' => e = .returned (.tuple #[.int .i64 2, .bool false]) ∧ Below w.heap.size w w' := by
  have HB0 := Lib.hid (Below.refl w.heap.size w)
  have H0_1 := Lib.hid h1
  have HT0 := Lib.hid ht
  have E1 := Lib.hid e1
  clear h1 ht e1
  go_enter Try.func29, Try.ntmps29
  go_wp2
  refine wp_loop_rounds 2 ?_
  have a0 := H0_1.out.key
  have v0 := H0_1.out.num
  simp only [Nat.reduceMul, Nat.reduceAdd] at a0 v0
  rw [rounds_succ]
  go_wp2_with ((with_reducible refine (at_any _ _ _ _ i1 t _ _ H0_1.out.k HT0.out).mono ?_); rintro e w1 ⟨rfl, hb⟩; dsimp only; try rw [E1.out]; have HB1 := Lib.hid (HB0.out.trans (hb.mono HB0.out.size)); have H1_1 := Lib.hid (H0_1.out.on hb); have HT1 := Lib.hid (HT0.out.on hb); clear hb a0 v0)
  rw [rounds_succ]
  go_wp2
  go_ret2
  exact ⟨rfl, HB1.out⟩
set_option maxHeartbeats 4000000 in
theorem search3 (A : Option Addr) (g c b c' : Nat) (x0 : It) (i0 : Int) (x1 : It) (i1 : Int) (t : Int) (w : World) (h0 : ItAt w g 0 x0 i0) (h1 : ItAt w g 1 x1 i1) (ht : Key w b t) (e0 : cmpI i0 t = 0) (e1 : cmpI i1 t = 1) : Calls Try.prog 29 #[.slice (some ⟨g, 0, none⟩) 3 c, keyV b c', .func (.func 30) #[] #[]] w fun e w' => e = .returned (.tuple #[.int .i64 0, .bool true]) ∧ Below w.heap.size w w' := by
  have HB0 := Lib.hid (Below.refl w.heap.size w)
  have H0_0 := Lib.hid h0
  have H0_1 := Lib.hid h1
  have HT0 := Lib.hid ht
  have E0 := Lib.hid e0
  have E1 := Lib.hid e1
  clear h0 h1 ht e0 e1
  go_enter Try.func29, Try.ntmps29
  go_wp2
  refine wp_loop_rounds 3 ?_
  have a0 := H0_1.out.key
  have v0 := H0_1.out.num
  simp only [Nat.reduceMul, Nat.reduceAdd] at a0 v0
  rw [rounds_succ]
  go_wp2_with ((with_reducible refine (at_any _ _ _ _ i1 t _ _ H0_1.out.k HT0.out).mono ?_); rintro e w1 ⟨rfl, hb⟩; dsimp only; try rw [E1.out]; have HB1 := Lib.hid (HB0.out.trans (hb.mono HB0.out.size)); have H1_0 := Lib.hid (H0_0.out.on hb); have H1_1 := Lib.hid (H0_1.out.on hb); have HT1 := Lib.hid (HT0.out.on hb); clear hb a0 v0)
  have a1 := H1_0.out.key
  have v1 := H1_0.out.num
  simp only [Nat.reduceMul, Nat.reduceAdd] at a1 v1
  rw [rounds_succ]
  go_wp2_with ((with_reducible refine (at_any _ _ _ _ i0 t _ _ H1_0.out.k HT1.out).mono ?_); rintro e w2 ⟨rfl, hb⟩; dsimp only; try rw [E0.out]; have HB2 := Lib.hid (HB1.out.trans (hb.mono HB1.out.size)); have H2_0 := Lib.hid (H1_0.out.on hb); have H2_1 := Lib.hid (H1_1.out.on hb); have HT2 := Lib.hid (HT1.out.on hb); clear hb a1 v1)
  rw [rounds_succ]
  have a2 := H2_0.out.key
  have v2 := H2_0.out.num
  simp only [Nat.reduceMul, Nat.reduceAdd] at a2 v2
  go_wp2_with ((with_reducible refine (at_any _ _ _ _ i0 t _ _ H2_0.out.k HT2.out).mono ?_); rintro e w3 ⟨rfl, hb⟩; dsimp only; try rw [E0.out]; have HB3 := Lib.hid (HB2.out.trans (hb.mono HB2.out.size)); have H3_0 := Lib.hid (H2_0.out.on hb); have H3_1 := Lib.hid (H2_1.out.on hb); have HT3 := Lib.hid (HT2.out.on hb); clear hb a2 v2)
  go_ret2
  exact ⟨rfl, HB3.out⟩
end Go.Proofs.Ytpldeobobfbkiaa.Tlv
