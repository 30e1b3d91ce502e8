/- WeighWalk's own function that is gone over: it counts what it is asked for. -/
import Derived.Test.YtlemiejmjdhcgaaWalkA
namespace Go.Proofs.Ytlemiejmjdhcgaa
open Go.RowKit Go.Shelf
set_option linter.unusedVariables false
set_option linter.unusedSimpArgs false
attribute [local go_sem] Oper.semAt_some

set_option maxRecDepth 100000 in
set_option maxHeartbeats 4000000 in
theorem ask_in (A : Option Addr) (c : Nat) (l : List El) (h1 : l.length ≤ 1000000) (n : Nat) (hn : 1 ≤ n) (lb Bl a₀ base n₀ : Nat) (ty : TypeId → Bool) (J Jx : List El → World → Prop)
    (hY : ∀ pre x W, J pre W → Blk W a₀ 3 #[.int .i64 ((pre.length : Int) + 1)] → (∃ rest, l = (pre ++ [x]) ++ rest) → YieldAt Fence.wide (n - 1) Try.prog lb #[x.agg] W fun e W' =>
      (e = .returned (.bool true) ∧ J (pre ++ [x]) W' ∧ KP n₀ ty W W') ∨ (e = .returned (.bool false) ∧ Jx (pre ++ [x]) W' ∧ KeepsFrom (lb + 1) W W'))
    (hJs : ∀ pre W (k : Int), J pre W → J pre (W.setCell ⟨a₀, 0, none⟩ (.int .i64 k)))
    (W : World) (hl : Blk W Bl 24 #[.slice A l.length c]) (ha : Blk W a₀ 3 #[.int .i64 0]) (hBl : Bl < n₀) (han : a₀ < n₀) (hne : Bl ≠ a₀) (hm : RdK kE W base A l) (hba : base ≤ a₀) (h0 : J [] W) (hs : n₀ ≤ W.heap.size) :
    CallsIn Fence.wide n Try.prog 14 #[.func (.yield lb) #[] #[], .pointer (some ⟨Bl, 0, none⟩), .pointer (some ⟨a₀, 0, none⟩)] W fun e W' => (∃ v, e = .returned v) ∧
      ((∃ ys, ys = l ∧ J ys W') ∨ (∃ pre, (∃ rest, l = pre ++ rest) ∧ Jx pre W')) := by
  refine callsIn_of_wp Try.func14 rfl trivial ?_ rfl
  simp only [Try.ntmps14, List.size_toArray, List.length_cons, List.length_nil, Nat.reduceAdd, Nat.reduceSub, Array.replicate_succ, Array.replicate_zero, List.push_toArray, List.append_toArray, List.nil_append, List.cons_append]
  have HR := Lib.hid hm
  have H0 := Lib.hid (And.intro hl (And.intro ha h0))
  clear hm hl ha h0
  gi_wp2
  gi_loopw [4] (fun i wr => ∃ (k : Nat), i = .int .i64 k ∧ k ≤ l.length ∧ J (l.take k) wr ∧ Below base W wr ∧ Blk wr Bl 24 #[.slice A l.length c] ∧ Blk wr a₀ 3 #[.int .i64 (k : Int)] ∧ n₀ ≤ wr.heap.size)
    (fun i _ => l.length - (intOf i).toNat)
  case atStart => exact ⟨0, rfl, Nat.zero_le _, H0.out.2.2, Below.refl _ _, H0.out.1, H0.out.2.1, hs⟩
  case round =>
    obtain ⟨k, rfl, hk, hJ, hb, hL, hA, hz⟩ := hrel
    have cl := hL.cell 0
    by_cases hlt : k < l.length
    · obtain ⟨b, off, rfl, hbl, x0, x1, x2, x3⟩ := el_cells HR.out hb hlt
      have ca := hA.cell 0
      have fa := hA.frozen 0
      have hne2 : b ≠ a₀ := by omega
      have HT : Hid (l.take (k + 1) = l.take k ++ [l.getD k default]) := Lib.hid (take_snoc hlt)
      have hA1 : Blk (wr.setCell ⟨a₀, 0, none⟩ (.int .i64 ((k : Int) + 1))) a₀ 3 #[.int .i64 ((k : Int) + 1)] := by simpa using hA.set_ 0 (.int .i64 ((k : Int) + 1))
      have hL1 : Blk (wr.setCell ⟨a₀, 0, none⟩ (.int .i64 ((k : Int) + 1))) Bl 24 #[.slice (some ⟨b, off, none⟩) l.length c] := hL.far (p := ⟨a₀, 0, none⟩) hne _
      have hb1 : Below base W (wr.setCell ⟨a₀, 0, none⟩ (.int .i64 ((k : Int) + 1))) := hb.setCell (p := ⟨a₀, 0, none⟩) hba _
      have hJ1 := hJs _ _ ((k : Int) + 1) hJ
      have hlen : (l.take k).length = k := by rw [List.length_take]; omega
      obtain ⟨fn, tmps, assign, body, hy, hRd⟩ := hY (l.take k) (l.getD k default) _ hJ1 (by rw [hlen]; exact hA1) ⟨l.drop (k + 1), by rw [← HT.out, List.take_append_drop]⟩
      have HH := Lib.hid (And.intro hA1 (And.intro hL1 hb1))
      clear hY hJs hlen hA1 hL1 hb1 hJ1 hJ hA hL
      generalize l.getD k default = x at *
      gi_wp2_with fail
      refine hRd.mono ?_
      rintro e W3 (⟨rfl, hJ3, hk3⟩ | ⟨rfl, hJx3, _⟩)
      · gi_wp2
        go_roundw
        case rel => exact ⟨k + 1, by go_num, by omega, HT.out ▸ hJ3, HH.out.2.2.trans (hk3.bel.mono (by omega)), HH.out.2.1.below hk3.bel hBl, by simpa using HH.out.1.below hk3.bel han, Nat.le_trans hz (by have := hk3.oth.size; simp at this; exact this)⟩
        case measure => simp [intOf]; omega
      · gi_wp2
        refine bodyPost_ret (results_none rfl _ _ _) rfl ?_
        exact ⟨⟨_, rfl⟩, .inr ⟨_, ⟨l.drop (k + 1), by rw [← HT.out, List.take_append_drop]⟩, hJx3⟩⟩
    · have : k = l.length := by omega
      subst this
      have HL : Hid (l.take l.length = l) := Lib.hid (List.take_length ..)
      clear hY hJs
      gi_wp2
      go_end0
      exact ⟨⟨_, rfl⟩, .inl ⟨l, rfl, HL.out ▸ hJ⟩⟩

/-- THE CONTRACT of it. -/
theorem ask_A (pv : TypeId → Bool) (n₀ : Nat) (ty : TypeId → Bool) (A : Option Addr) (c : Nat) (l : List El) (h1 : l.length ≤ 1000000) (n : Nat) (hn : 1 ≤ n) (Bl a₀ base : Nat) (w : World) (hl : Blk w Bl 24 #[.slice A l.length c]) (ha : Blk w a₀ 3 #[.int .i64 0])
    (hBl : Bl < n₀) (han : a₀ < n₀) (hne : Bl ≠ a₀) (hm : RdK kE w base A l) (hba : base ≤ a₀) (hn0 : n₀ ≤ w.heap.size) :
    SeqA pv a₀ n₀ ty n 14 #[.pointer (some ⟨Bl, 0, none⟩), .pointer (some ⟨a₀, 0, none⟩)] (fun x : El => #[x.agg]) (fun pre _ W => Blk W a₀ 3 #[.int .i64 ((pre.length : Int) + 1)]) (fun ys => ys = l) (fun pre => ∃ rest, l = pre ++ rest) w := fun lb J Jx W hW _ hJ _ hY h0 =>
  ask_in A c l h1 n hn lb Bl a₀ base n₀ ty J Jx hY hJ.2 W (hl.on hW) (ha.on hW) hBl han hne (hm.below (hW.mono (by omega))) hba h0 (Nat.le_trans hn0 hW.size)
end Go.Proofs.Ytlemiejmjdhcgaa
