/- utf.Runes: a range over a text's places and runes: the iterator's contract. -/
import Derived.RangeFuncBox
import Derived.RangeFuncCalls
import Derived.RangeFuncLeaves
import Derived.Shelf.Abstract
import Derived.Shelf.RegionOpen
import Derived.WalkKit
import Derived.OwnWalkIn
import Derived.TacticsInMore
import Derived.LoopNIn
import Derived.LoopIn
import Derived.Test.YtnokocaodnanoaaBackFns
import Derived.Test.YtnokocaodnanoaaKnown
import Derived.Test.YtnokocaodnanoaaSame
namespace Go.Proofs.Ytnokocaodnanoaa
open Go.RowKit Go.Shelf
set_option linter.unusedVariables false
attribute [local go_sem] Oper.semAt_some

/-- The places and runes of a text, from a place on (with fuel). -/
def prF (s : ByteArray) : Nat → Nat → List (Nat × Int)
  | 0, _ => []
  | f + 1, a => if NN s a = 0 then [] else (a, RR s a) :: prF s f (a + (NN s a).toNat)
theorem prF_fuel (s : ByteArray) : ∀ (f g a : Nat), s.size - a ≤ f → s.size - a ≤ g → prF s f a = prF s g a := by
  intro f
  induction f with
  | zero =>
    intro g a hf hg
    cases g with
    | zero => rfl
    | succ g => rw [prF, prF, if_pos (NN_zero_past s a (by omega))]
  | succ f ih =>
    intro g a hf hg
    cases g with
    | zero => rw [prF, prF, if_pos (NN_zero_past s a (by omega))]
    | succ g =>
      rw [prF, prF]
      by_cases h : NN s a = 0
      · rw [if_pos h, if_pos h]
      · rw [if_neg h, if_neg h]
        have := NN_range s a
        rw [ih g (a + (NN s a).toNat) (by omega) (by omega)]
def prs (s : ByteArray) (a : Nat) : List (Nat × Int) := prF s (s.size - a) a
theorem prs_stop {s : ByteArray} {a : Nat} (h : NN s a = 0) : prs s a = [] := by
  unfold prs
  cases hz : s.size - a with
  | zero => rfl
  | succ f => rw [prF, if_pos h]
theorem prs_step {s : ByteArray} {a : Nat} (h : NN s a ≠ 0) : prs s a = (a, RR s a) :: prs s (a + (NN s a).toNat) := by
  have hr := NN_range s a
  unfold prs
  obtain ⟨f, hf⟩ : ∃ f, s.size - a = f + 1 := ⟨s.size - a - 1, by omega⟩
  rw [hf, prF, if_neg h, prF_fuel s f (s.size - (a + (NN s a).toNat)) _ (by omega) (by omega)]

set_option maxRecDepth 100000 in
set_option maxHeartbeats 4000000 in
/-- The closure, for every loop body that keeps what lay below n₀. -/
theorem runes1_in (s : ByteArray) (h1 : s.size ≤ 40000) (n : Nat) (hn : 1 ≤ n) (l Bs n₀ : Nat) (hB : Bs < n₀) (J Jx : List (Nat × Int) → World → Prop)
    (hY : ∀ pre x W, J pre W → pre.length < s.size → YieldAt Fence.wide (n - 1) Try.prog l #[.int .i64 (x.1 : Int), .int .i32 x.2] W fun e W' =>
      (e = .returned (.bool true) ∧ J (pre ++ [x]) W' ∧ Below n₀ W W') ∨ (e = .returned (.bool false) ∧ Jx (pre ++ [x]) W'))
    (W : World) (hBs : W.cell? ⟨Bs, 0, none⟩ = some (.string s)) (h0 : J [] W) :
    CallsIn Fence.wide n Try.prog 28 #[.func (.yield l) #[] #[], .pointer (some ⟨Bs, 0, none⟩)] W fun e W' => (∃ v, e = .returned v) ∧
      ((∃ ys, ys = prs s 0 ∧ J ys W') ∨ (∃ pre, (∃ rest, prs s 0 = pre ++ rest) ∧ Jx pre W')) := by
  refine callsIn_of_wp Try.func28 rfl trivial ?_ rfl
  simp only [Try.ntmps28, List.size_toArray, List.length_cons, List.length_nil, Nat.reduceAdd, Nat.reduceSub, Array.replicate_succ, Array.replicate_zero, List.push_toArray, List.append_toArray, List.nil_append, List.cons_append]
  gi_wp2
  gi_loopw [3] (fun i wr => ∃ (a : Nat) (pre : List (Nat × Int)), i = .int .i64 a ∧ a ≤ s.size ∧ pre.length ≤ a ∧ Hid (prs s 0 = pre ++ prs s a) ∧ J pre wr ∧ Below n₀ W wr)
    (fun i _ => s.size - (intOf i).toNat)
  case atStart => exact ⟨0, [], rfl, Nat.zero_le _, Nat.zero_le _, Lib.hid rfl, h0, Below.refl _ _⟩
  case round =>
    obtain ⟨a, pre, rfl, ha, hp, hd, hJs, hnx⟩ := hrel
    have hc := (hnx.cell (p := ⟨Bs, 0, none⟩) hB).trans hBs
    by_cases hlt : a < s.size
    · have hx := fun W => next_at s a W (by omega)
      by_cases hz : NN s a = 0
      · have HD : Hid (prs s 0 = pre) := Lib.hid (by have := hd.out; rwa [prs_stop hz, List.append_nil] at this)
        rw [hz, show nxE 0 = 5 from rfl] at hx
        have Hx := Lib.hid hx
        clear hx hd hz hY
        gi_wp2_with (refine ⟨trivial, ?_⟩; gi_at_call 10; refine (callsIn_wide.2 (Hx.out _)).mono ?_; rintro e w' ⟨rfl, rfl⟩)
        refine ⟨fun _ h => (by cases h), ?_⟩
        gi_wp2
        refine bodyPost_ret (results_none rfl _ _ _) rfl ?_
        exact ⟨⟨_, rfl⟩, .inl ⟨pre, HD.out.symm, hJs⟩⟩
      · have HD : Hid (prs s 0 = (pre ++ [(a, RR s a)]) ++ prs s (a + (NN s a).toNat)) := Lib.hid (by have := hd.out; rw [prs_step hz] at this; rw [this]; simp)
        have hr := NN_range s a
        rw [show nxE (NN s a) = 0 from by unfold nxE; rw [if_neg hz]] at hx
        obtain ⟨n', hN⟩ : ∃ n' : Nat, NN s a = n' := ⟨(NN s a).toNat, by omega⟩
        rw [hN] at hx HD hr
        rw [Int.toNat_natCast] at HD
        have hn0 : 0 < n' := by omega
        have h2 : a + n' ≤ s.size := by omega
        obtain ⟨fn, tmps, assign, body, hy, hR⟩ := hY pre (a, RR s a) wr hJs (by omega)
        dsimp only at hy
        generalize RR s a = r at *
        have Hx := Lib.hid hx
        clear hx hd hz hN hr hY
        gi_wp2_with (refine ⟨trivial, ?_⟩; gi_at_call 10; refine (callsIn_wide.2 (Hx.out _)).mono ?_; rintro e w' ⟨rfl, rfl⟩)
        refine hR.mono ?_
        rintro e W3 (⟨rfl, hJ3, hk3⟩ | ⟨rfl, hJx3⟩)
        · gi_wp2
          go_roundw
          case rel => exact ⟨a + n', pre ++ [(a, r)], by go_num, h2, by simp; omega, HD, hJ3, hnx.trans hk3⟩
          case measure => simp [intOf]; omega
        · gi_wp2
          refine bodyPost_ret (results_none rfl _ _ _) rfl ?_
          exact ⟨⟨_, rfl⟩, .inr ⟨_, ⟨_, HD.out⟩, hJx3⟩⟩
    · have HD : Hid (prs s 0 = pre) := Lib.hid (by have := hd.out; rwa [prs_stop (NN_zero_past s a (by omega)), List.append_nil] at this)
      clear hd hY
      gi_wp2
      go_end0
      exact ⟨⟨_, rfl⟩, .inl ⟨pre, HD.out.symm, hJs⟩⟩

/-- THE CONTRACT of utf.Runes's value. -/
theorem runes_stops (s : ByteArray) (h1 : s.size ≤ 40000) (n : Nat) (hn : 1 ≤ n) (Bs n₀ : Nat) (hB : Bs < n₀) (w : World) (hBw : Bs < w.heap.size) (hc : w.cell? ⟨Bs, 0, none⟩ = some (.string s)) :
    SeqStopsK Fence.wide n Try.prog 28 #[.pointer (some ⟨Bs, 0, none⟩)] (fun x : Nat × Int => #[Value.int .i64 (x.1 : Int), Value.int .i32 x.2]) (Below n₀) (fun ys => ys = prs s 0)
      (fun pre => ∃ rest, prs s 0 = pre ++ rest) s.size w := fun l J Jx W hW _ _ hY h0 =>
  runes1_in s h1 n hn l Bs n₀ hB J Jx hY W ((hW.cell (p := ⟨Bs, 0, none⟩) hBw).trans hc) h0

/-- utf.Runes: the text is boxed; the function value captures the box. -/
theorem runes_in (s : ByteArray) (w : World) :
    Calls Try.prog 26 #[.string s] w fun e w' => e = .returned (.func (.func 28) #[] #[.pointer (some ⟨w.heap.size, 0, none⟩)]) ∧ w.alloc (.cells #[.string s] 9) = w' := by
  go_enter Try.func26, Try.ntmps26
  go_wp2
  go_ret
  exact ⟨rfl, rfl⟩
end Go.Proofs.Ytnokocaodnanoaa
