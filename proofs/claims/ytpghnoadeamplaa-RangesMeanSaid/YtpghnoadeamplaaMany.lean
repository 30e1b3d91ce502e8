/- Many of a map. -/
import Derived.RangeFuncNested
import Derived.Test.YtpghnoadeamplaaIter
namespace Go.Proofs.Ytpghnoadeamplaa
open Go.RowKit Go.Shelf
set_option linter.unusedVariables false
set_option linter.unusedSimpArgs false
attribute [local go_sem] Oper.semAt_some

theorem blk_own {β : Type} (B : Nat) (t : TypeId) (f : β → Array Value) : Own (fun s W => Blk W B t (f s)) := fun s X Y row hs hg hrow =>
  hs.grown hg (fun e' => by obtain ⟨o, ho, hc⟩ := hrow B e'.symm; rw [show X.heap[B]? = _ from hs] at ho; cases ho; cases hc)

theorem all_in (q : Option Addr) (w : World) (n : Nat) : CallsIn Fence.wide n Try.prog 18 #[.pointer q] w fun e w' =>
    e = .returned (.func (.func 24) #[] #[.pointer (some ⟨w.heap.size, 0, none⟩)]) ∧ w' = w.alloc (.cells #[.pointer q] 26) := callsIn_wide.2 (all_any q w)

theorem manyL_snoc (l : List Rg) (x : Rg) : manyL (l ++ [x]) = manyL l + (x.hi - x.lo + 1) := by rw [manyL_append]; simp [manyL]

set_option maxRecDepth 100000 in
set_option maxHeartbeats 4000000 in
theorem many_any (q : Option Addr) (l : List Rg) (w : World) (hm : MapR w w.heap.size q l) (hl : l.length ≤ 1000000) (hmay : ∀ j, j < l.length → May (l.getD j default)) :
    Calls Try.prog 14 #[.pointer q] w fun e w' => e = .returned (.int .i64 (manyL l)) ∧ Below w.heap.size w w' := by
  refine (callsIn_wide (n := 3)).1 ?_
  refine callsIn_of_wp_marks Try.func14 rfl trivial ?_ rfl
  simp only [Try.ntmps14, List.size_toArray, List.length_cons, List.length_nil, Nat.reduceAdd, Nat.reduceSub, Array.replicate_succ, Array.replicate_zero, List.push_toArray, List.append_toArray, List.nil_append, List.cons_append]
  gi_wp2_with (refine ⟨trivial, ?_⟩; gi_at_call 18; refine (all_in _ _ _).mono ?_; rintro e w' ⟨rfl, rfl⟩)
  have bS := (Boxed.new w 3 (.int .i64 0)).alloc (.cells #[.pointer q] 26)
  have bA := Boxed.new (w.alloc (.cells #[.int .i64 0] 3)) 26 (.pointer q)
  simp only [World.size_alloc] at bA
  have hB0 : Below w.heap.size w ((w.alloc (.cells #[.int .i64 0] 3)).alloc (.cells #[.pointer q] 26)) := ((Below.refl _ w).alloc (Nat.le_refl _) _).alloc (by simp) _
  have hsz : ((w.alloc (.cells #[.int .i64 0] 3)).alloc (.cells #[.pointer q] 26)).heap.size = w.heap.size + 2 := by simp
  obtain ⟨W0, hW0⟩ : ∃ W0, (w.alloc (.cells #[.int .i64 0] 3)).alloc (.cells #[.pointer q] 26) = W0 := ⟨_, rfl⟩
  rw [hW0] at bS bA hB0 hsz ⊢
  clear hW0
  refine wpIn_rangeFunc_ownH rfl (by omega) (gf := 24) (lb := #[.pointer (some ⟨w.heap.size + 1, 0, none⟩)]) rfl trivial (enters_of Try.func24 (by kernel_rfl) rfl)
    (all_stops q l hl _ (by omega) (w.heap.size + 1) w.heap.size W0 (by omega) bA.cell (hm.below hB0) (by omega)) belowK_t (belowK_b (by omega)) (Below.refl _ _) (fun _ => rfl)
    (fun pre W => (∃ v : Int, ((∃ rest, l = pre ++ rest) → v = manyL pre) ∧ Boxed W w.heap.size 3 (.int .i64 v)) ∧ Below w.heap.size w W)
    (fun _ _ _ => False)
    (OwnFrom.and (fun pre A B row hs hg hr => by obtain ⟨v, e1, e2⟩ := hs; exact ⟨v, e1, boxed_own w.heap.size 3 (fun (_ : Unit) => Value.int .i64 v) () A B row e2 hg (fun r e => (hr r e).2)⟩) (ownFrom_below (Nat.le_refl _) (by omega)))
    (fun _ _ _ _ _ hs _ _ => hs)
    ⟨⟨0, fun _ => rfl, bS⟩, hB0⟩
    (fun x a' W => ∃ Bx, w.heap.size < Bx ∧ Blk W Bx 24 #[.int .i32 x.lo, .int .i32 x.hi, .int .i64 x.val] ∧ a' = { tmps := #[.pointer q, undef, .int .i64 0, .pointer (some ⟨w.heap.size, 0, none⟩), .pointer (some ⟨Bx, 0, none⟩), .pointer q, .func (.func 24) #[] #[.pointer (some ⟨w.heap.size + 1, 0, none⟩)], aggR x, undef, undef, undef, undef, undef, undef, undef, undef, undef, undef, undef], defers := [] })
    (fun x a' _ X Y row hs hg hr => by obtain ⟨Bx, h1, h2, h3⟩ := hs; exact ⟨Bx, h1, blk_own Bx 24 (fun (_ : Unit) => #[.int .i32 x.lo, .int .i32 x.hi, .int .i64 x.val]) () X Y row h2 hg (fun r e => (hr r e).2), h3⟩)
    ?assign ?body ?done ?stop
  case assign =>
    rintro lb pre x W K ⟨⟨v, hv, bS1⟩, hB1⟩ hK
    gi_wp2
    exact hK _ _ ((KeepsOthers.alloc _ _).from _) ((Below.refl _ W).alloc hB1.size _) ⟨⟨v, hv, bS1.alloc _⟩, hB1.alloc hB1.size _⟩ ⟨W.heap.size, bS1.lt, Blk.new W 24 _, rfl⟩
  case body =>
    rintro lb pre x a' W hlb ⟨r, hr⟩ ⟨⟨v, hv, bS1⟩, hB1⟩ ⟨Bx, hBx, bX, rfl⟩ hlt
    have cS := bS1.cell
    have fS := bS1.frozen
    have x0 : W.cell? ⟨Bx, 0, none⟩ = some (.int .i32 x.lo) := bX.cell 0
    have x1 : W.cell? ⟨Bx, 1, none⟩ = some (.int .i32 x.hi) := bX.cell 1
    by_cases hp : ∃ rest, l = pre ++ x :: rest
    · obtain ⟨rest, hp⟩ := hp
      obtain rfl : v = manyL pre := hv ⟨x :: rest, hp⟩
      have hxm : May x := by
        have := hmay pre.length hlt
        rw [hp] at this
        simpa [List.getD_eq_getElem?_getD] using this
      have hbd := manyL_bound (l := l) hmay pre.length (by omega)
      rw [show l.take pre.length = pre by rw [hp]; simp] at hbd
      obtain ⟨b1, b2⟩ := hbd
      obtain ⟨m1, m2, m3⟩ := hxm
      have Hs := Lib.hid (manyL_snoc pre x)
      have b3 : manyL pre ≤ 1000000 * 2147483648 := by omega
      clear hp hv b2 hmay
      generalize manyL pre = v at *
      gi_wp2
      exact ⟨(KeepsOthers.setCell _ _ _).from _, (Below.refl _ W).setCell (p := ⟨w.heap.size, 0, none⟩) (Nat.le_refl _) _, ⟨_, fun _ => Hs.out.symm, bS1.set _⟩, hB1.setCell (p := ⟨w.heap.size, 0, none⟩) (Nat.le_refl _) _⟩
    · have Hp := Lib.hid hp
      clear hp hv hmay
      gi_wp2
      exact ⟨(KeepsOthers.setCell _ _ _).from _, (Below.refl _ W).setCell (p := ⟨w.heap.size, 0, none⟩) (Nat.le_refl _) _, ⟨_, fun ⟨rest, h⟩ => absurd ⟨rest, by simpa using h⟩ Hp.out, bS1.set _⟩, hB1.setCell (p := ⟨w.heap.size, 0, none⟩) (Nat.le_refl _) _⟩
  case done =>
    rintro D ys W hD rfl ⟨⟨v, hv, bS1⟩, hB1⟩ hK
    obtain rfl : v = manyL ys := hv ⟨[], by simp⟩
    have cS := bS1.cell
    gi_wp2
    refine ⟨by simp, .inl ⟨_, _, rfl, run_takeDeferred hK, ?_⟩⟩
    exact ⟨_, results_tmp rfl _ _ _, rfl, hB1.trans (belowK_b (w := w) (Nat.le_refl _) W D _ _ (by omega) hK rfl rfl)⟩
  case stop =>
    rintro D c pre W _ _ h _
    exact h.elim
end Go.Proofs.Ytpghnoadeamplaa
