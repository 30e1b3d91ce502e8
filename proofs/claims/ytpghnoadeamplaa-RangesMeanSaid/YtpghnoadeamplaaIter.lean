/- All of a map: the iterator's contract. -/
import Derived.RangeFuncBox
import Derived.RangeFuncCalls
import Derived.RangeFuncLeaves
import Derived.Shelf.Abstract
import Derived.Shelf.RegionOpen
import Derived.WalkKit
import Derived.OwnWalkIn
import Derived.TacticsInMore
import Derived.LoopNIn
import Derived.LoopIn
import Derived.Test.YtpghnoadeamplaaAdd
import Derived.Test.YtpghnoadeamplaaAll
namespace Go.Proofs.Ytpghnoadeamplaa
open Go.RowKit Go.Shelf
set_option linter.unusedVariables false
set_option linter.unusedSimpArgs false
attribute [local go_sem] Oper.semAt_some

/-- A map, there or not, below block n: its ranges. -/
def MapR (w : World) (n : Nat) (q : Option Addr) (l : List Rg) : Prop :=
  (q = none ∧ l = []) ∨ ∃ g A c, q = some ⟨g, 0, none⟩ ∧ g < n ∧ w.cell? ⟨g, 1, none⟩ = some (.slice A l.length c) ∧ RdR w n A l
theorem MapR.below {w w' : World} {n : Nat} {q : Option Addr} {l : List Rg} (h : MapR w n q l) (hb : Below n w w') : MapR w' n q l := by
  rcases h with h | ⟨g, A, c, h1, h2, h3, h4⟩
  · exact .inl h
  · exact .inr ⟨g, A, c, h1, h2, (hb.cell (p := ⟨g, 1, none⟩) h2).trans h3, h4.below hb⟩
abbrev aggR (x : Rg) : Value := .agg #[.int .i32 x.lo, .int .i32 x.hi, .int .i64 x.val]

set_option maxRecDepth 100000 in
set_option maxHeartbeats 4000000 in
/-- The closure, for every loop body that keeps what lay below n₀. -/
theorem all1_in (q : Option Addr) (l : List Rg) (h1 : l.length ≤ 1000000) (n : Nat) (hn : 1 ≤ n) (lb Bs n₀ : Nat) (J Jx : List Rg → World → Prop)
    (hY : ∀ pre x W, J pre W → pre.length < l.length → YieldAt Fence.wide (n - 1) Try.prog lb #[aggR x] W fun e W' =>
      (e = .returned (.bool true) ∧ J (pre ++ [x]) W' ∧ Below n₀ W W') ∨ (e = .returned (.bool false) ∧ Jx (pre ++ [x]) W'))
    (hJa : ∀ pre W o, J pre W → n₀ ≤ W.heap.size → J pre (W.alloc o))
    (W : World) (hBs : W.cell? ⟨Bs, 0, none⟩ = some (.pointer q)) (hm : MapR W n₀ q l) (h0 : J [] W) (hs : n₀ ≤ W.heap.size) :
    CallsIn Fence.wide n Try.prog 24 #[.func (.yield lb) #[] #[], .pointer (some ⟨Bs, 0, none⟩)] W fun e W' => (∃ v, e = .returned v) ∧
      ((∃ ys, ys = l ∧ J ys W') ∨ (∃ pre, (∃ rest, l = pre ++ rest) ∧ Jx pre W')) := by
  refine callsIn_of_wp Try.func24 rfl trivial ?_ rfl
  simp only [Try.ntmps24, List.size_toArray, List.length_cons, List.length_nil, Nat.reduceAdd, Nat.reduceSub, Array.replicate_succ, Array.replicate_zero, List.push_toArray, List.append_toArray, List.nil_append, List.cons_append]
  rcases hm with ⟨rfl, rfl⟩ | ⟨g, A, c, rfl, hg, hc1, hR⟩
  · gi_wp2
    refine bodyPost_ret (results_none rfl _ _ _) rfl ?_
    exact ⟨⟨_, rfl⟩, .inl ⟨[], rfl, h0⟩⟩
  · have HR := Lib.hid hR
    clear hR
    gi_wp2
    gi_loopw [12] (fun i wr => ∃ (k : Nat), i = .int .i64 k ∧ k ≤ l.length ∧ J (l.take k) wr ∧ Below n₀ W wr)
      (fun i _ => l.length - (intOf i).toNat)
    case atStart => exact ⟨0, rfl, Nat.zero_le _, h0, Below.refl _ _⟩
    case round =>
      obtain ⟨k, rfl, hk, hJs, hb⟩ := hrel
      by_cases hlt : k < l.length
      · obtain ⟨b, off, rfl, hbl, hcs⟩ := HR.out (by omega)
        have hr2 := hcs k hlt
        have c0 := (hb.cell (p := ⟨b, off + k * 3, none⟩) hbl).trans (hr2 0 _ rfl)
        have c1 := (hb.cell (p := ⟨b, off + k * 3 + 1, none⟩) hbl).trans (hr2 1 _ rfl)
        have c2 := (hb.cell (p := ⟨b, off + k * 3 + 2, none⟩) hbl).trans (hr2 2 _ rfl)
        have HT : Hid (l.take (k + 1) = l.take k ++ [l.getD k default]) := Lib.hid (by rw [List.take_add_one, List.getElem?_eq_getElem hlt]; simp [List.getD_eq_getElem?_getD, List.getElem?_eq_getElem hlt])
        have hJ1 := hJa _ wr (.cells #[.int .i32 (l.getD k default).lo, .int .i32 (l.getD k default).hi, .int .i64 (l.getD k default).val] 24) hJs (Nat.le_trans hs hb.size)
        obtain ⟨fn, tmps, assign, body, hy, hRd⟩ := hY (l.take k) (l.getD k default) _ hJ1 (by rw [List.length_take]; omega)
        have hb1 : Below n₀ W (wr.alloc (.cells #[.int .i32 (l.getD k default).lo, .int .i32 (l.getD k default).hi, .int .i64 (l.getD k default).val] 24)) := hb.alloc (Nat.le_trans hs hb.size) _
        clear hr2 hcs hY hJa
        generalize l.getD k default = x at *
        gi_wp2_with fail
        refine hRd.mono ?_
        rintro e W3 (⟨rfl, hJ3, hk3⟩ | ⟨rfl, hJx3⟩)
        · gi_wp2
          go_roundw
          case rel => exact ⟨k + 1, by go_num, by omega, HT.out ▸ hJ3, hb1.trans hk3⟩
          case measure => simp [intOf]; omega
        · gi_wp2
          refine bodyPost_ret (results_none rfl _ _ _) rfl ?_
          exact ⟨⟨_, rfl⟩, .inr ⟨_, ⟨l.drop (k + 1), by rw [← HT.out, List.take_append_drop]⟩, hJx3⟩⟩
      · have : k = l.length := by omega
        subst this
        have HL : Hid (l.take l.length = l) := Lib.hid (List.take_length ..)
        clear hY hJa
        gi_wp2
        go_end0
        exact ⟨⟨_, rfl⟩, .inl ⟨l, rfl, HL.out ▸ hJs⟩⟩

/-- THE CONTRACT of a map's All's value. -/
theorem all_stops (q : Option Addr) (l : List Rg) (h1 : l.length ≤ 1000000) (n : Nat) (hn : 1 ≤ n) (Bs n₀ : Nat) (w : World) (hBw : Bs < w.heap.size) (hc : w.cell? ⟨Bs, 0, none⟩ = some (.pointer q)) (hm : MapR w n₀ q l) (hn0 : n₀ ≤ w.heap.size) :
    SeqStopsK Fence.wide n Try.prog 24 #[.pointer (some ⟨Bs, 0, none⟩)] (fun x : Rg => #[aggR x]) (Below n₀) (fun ys => ys = l)
      (fun pre => ∃ rest, l = pre ++ rest) l.length w := fun lb J Jx W hW ha _ hY h0 =>
  all1_in q l h1 n hn lb Bs n₀ J Jx hY (fun pre W' o hj hs => ha pre W' _ none hj (World.grownBy_alloc W' o none) (fun r e => by cases e)) W ((hW.cell (p := ⟨Bs, 0, none⟩) hBw).trans hc) (hm.below (hW.mono hn0)) h0 (Nat.le_trans hn0 hW.size)
end Go.Proofs.Ytpghnoadeamplaa
