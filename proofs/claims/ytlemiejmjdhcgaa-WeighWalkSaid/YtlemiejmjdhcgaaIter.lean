/- slices.Values of elements: its function's contract. -/
import Derived.RangeFuncBox
import Derived.RangeFuncCalls
import Derived.RangeFuncLeaves
import Derived.Shelf.Abstract
import Derived.Shelf.RegionOpen
import Derived.OwnWalkIn
import Derived.TacticsInMore
import Derived.LoopNIn
import Derived.LoopIn
import Derived.Test.YtlemiejmjdhcgaaRange
import Derived.Test.YtlemiejmjdhcgaaRef
namespace Go.Proofs.Ytlemiejmjdhcgaa
open Go.RowKit Go.Shelf
set_option linter.unusedVariables false
set_option linter.unusedSimpArgs false
attribute [local go_sem] Oper.semAt_some

set_option maxRecDepth 100000 in
set_option maxHeartbeats 4000000 in
theorem vals1_in (A : Option Addr) (c : Nat) (l : List El) (h1 : l.length ≤ 1000000) (n : Nat) (hn : 1 ≤ n) (lb Bs n₀ : Nat) (ty : TypeId → Bool) (J Jx : List El → World → Prop)
    (hY : ∀ pre x W, J pre W → True → pre.length < l.length → YieldAt Fence.wide (n - 1) Try.prog lb #[x.agg] W fun e W' =>
      (e = .returned (.bool true) ∧ J (pre ++ [x]) W' ∧ KP n₀ ty W W') ∨ (e = .returned (.bool false) ∧ Jx (pre ++ [x]) W' ∧ KeepsFrom (lb + 1) W W'))
    (hJa : ∀ pre W o, J pre W → J pre (W.alloc o))
    (W : World) (hBs : W.cell? ⟨Bs, 0, none⟩ = some (.slice A l.length c)) (hm : RdK kE W n₀ A l) (h0 : J [] W) (hs : n₀ ≤ W.heap.size) :
    CallsIn Fence.wide n Try.prog 20 #[.func (.yield lb) #[] #[], .pointer (some ⟨Bs, 0, none⟩)] W fun e W' => (∃ v, e = .returned v) ∧
      ((∃ ys, ys = l ∧ J ys W') ∨ (∃ pre, (∃ rest, l = pre ++ rest) ∧ Jx pre W')) := by
  refine callsIn_of_wp Try.func20 rfl trivial ?_ rfl
  simp only [Try.ntmps20, List.size_toArray, List.length_cons, List.length_nil, Nat.reduceAdd, Nat.reduceSub, Array.replicate_succ, Array.replicate_zero, List.push_toArray, List.append_toArray, List.nil_append, List.cons_append]
  have HR := Lib.hid hm
  clear hm
  gi_wp2
  gi_loopw [7] (fun i wr => ∃ (k : Nat), i = .int .i64 k ∧ k ≤ l.length ∧ J (l.take k) wr ∧ Below n₀ W wr)
    (fun i _ => l.length - (intOf i).toNat)
  case atStart => exact ⟨0, rfl, Nat.zero_le _, h0, Below.refl _ _⟩
  case round =>
    obtain ⟨k, rfl, hk, hJs, hb⟩ := hrel
    by_cases hlt : k < l.length
    · obtain ⟨b, off, rfl, hbl, c0, c1, c2, c3⟩ := el_cells HR.out hb hlt
      have HT : Hid (l.take (k + 1) = l.take k ++ [l.getD k default]) := Lib.hid (take_snoc hlt)
      have hJ1 := hJa _ wr (.cells #[.int .u16 (l.getD k default).p, .int .u16 (l.getD k default).s, .int .u16 (l.getD k default).t, .bool (l.getD k default).var] 42) hJs
      obtain ⟨fn, tmps, assign, body, hy, hRd⟩ := hY (l.take k) (l.getD k default) _ hJ1 trivial (by rw [List.length_take]; omega)
      have hb1 : Below n₀ W (wr.alloc (.cells #[.int .u16 (l.getD k default).p, .int .u16 (l.getD k default).s, .int .u16 (l.getD k default).t, .bool (l.getD k default).var] 42)) := hb.alloc (Nat.le_trans hs hb.size) _
      clear hY hJa
      generalize l.getD k default = x at *
      gi_wp2_with fail
      refine hRd.mono ?_
      rintro e W3 (⟨rfl, hJ3, hk3⟩ | ⟨rfl, hJx3, _⟩)
      · gi_wp2
        go_roundw
        case rel => exact ⟨k + 1, by go_num, by omega, HT.out ▸ hJ3, hb1.trans hk3.bel⟩
        case measure => simp [intOf]; omega
      · gi_wp2
        refine bodyPost_ret (results_none rfl _ _ _) rfl ?_
        exact ⟨⟨_, rfl⟩, .inr ⟨_, ⟨l.drop (k + 1), by rw [← HT.out, List.take_append_drop]⟩, hJx3⟩⟩
    · have : k = l.length := by omega
      subst this
      have HL : Hid (l.take l.length = l) := Lib.hid (List.take_length ..)
      clear hY hJa
      gi_wp2
      go_end0
      exact ⟨⟨_, rfl⟩, .inl ⟨l, rfl, HL.out ▸ hJs⟩⟩

/-- THE CONTRACT of slices.Values' function. -/
theorem vals_T (pv : TypeId → Bool) (n₀ : Nat) (ty : TypeId → Bool) (A : Option Addr) (c : Nat) (l : List El) (h1 : l.length ≤ 1000000) (n : Nat) (hn : 1 ≤ n) (Bs : Nat) (w : World) (hb : Blk w Bs 24 #[.slice A l.length c]) (hm : RdK kE w n₀ A l) (hn0 : n₀ ≤ w.heap.size) :
    SeqT pv n₀ ty n 20 #[.pointer (some ⟨Bs, 0, none⟩)] (fun x : El => #[x.agg]) (fun _ _ => True) (fun ys => ys = l) (fun pre => ∃ rest, l = pre ++ rest) l.length w := fun lb J Jx W hW _ ha _ hY h0 =>
  vals1_in A c l h1 n hn lb Bs n₀ ty J Jx hY (fun pre W' o hj => ha.alloc o hj) W (((hb.on hW).cell 0).trans rfl) (hm.below (hW.mono hn0)) h0 (Nat.le_trans hn0 hW.size)
end Go.Proofs.Ytlemiejmjdhcgaa
