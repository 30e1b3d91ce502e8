/- fields.all's function: its contract. -/
import Derived.RangeFuncBox
import Derived.RangeFuncCalls
import Derived.RangeFuncLeaves
import Derived.Shelf.Abstract
import Derived.Shelf.RegionOpen
import Derived.OwnWalkIn
import Derived.TacticsInMore
import Derived.LoopNIn
import Derived.LoopIn
import Derived.Test.YtppmjlfecbaicaaDoorRange
import Derived.Test.YtppmjlfecbaicaaDoorFSplit
namespace Go.Proofs.YtppmjlfecbaicaaDoor
open Go.RowKit Go.Shelf
set_option linter.unusedVariables false
set_option linter.unusedSimpArgs false
attribute [local go_sem] Oper.semAt_some

theorem round_at {n n' l' l : Nat} {f : FuncId} {tmps : Array Value} {assign body : Code} {w : World} {R : Ending → World → Prop} (h : RoundIn Fence.wide n Tryd.prog l f tmps assign body w R) : RoundIn (Fence.wide.inRound l') n' Tryd.prog l f tmps assign body w R :=
  ⟨trivial, fun c cs _ => h.2 c cs (room_wide _)⟩
theorem call_at {n l' : Nat} {f : FuncId} {args : Array Value} {w : World} {R : Ending → World → Prop} (h : Calls Tryd.prog f args w R) : CallsIn (Fence.wide.inRound l') n Tryd.prog f args w R := (callsIn_wide.2 h).inRound l'
theorem grown_of {W W' : World} (h : Below W.heap.size W W') : W.grownBy W' none := ⟨h.os, h.tape, h.output, h.size, fun k hk _ => h.block k hk⟩
theorem kp_of {n₀ : Nat} {ty : TypeId → Bool} {W W' : World} (h : Below W.heap.size W W') (hn : n₀ ≤ W.heap.size) : KP n₀ ty W W' :=
  ⟨h.mono hn, fun b t cs _ hb => hb.on h, ⟨h.size, fun k o hk _ => (h.block k (Array.getElem?_eq_some_iff.1 hk).1).trans hk⟩⟩
theorem blk_stays {pv : TypeId → Bool} {B b : Nat} {t : TypeId} {cs : Array Value} (ht : pv t = false) {W W' : World} {row : Option Nat} (h : Blk W b t cs) (hg : W.grownBy W' row) (hr : ∀ r, row = some r → B ≤ r ∧ ∃ o : Obj, W.heap[r]? = some o ∧ privO pv o = true) : Blk W' b t cs :=
  h.grown hg (fun e => by
    obtain ⟨_, o, ho, hp⟩ := hr b e.symm
    unfold Blk at h
    rw [h] at ho
    cases ho
    simp [privO, ht] at hp)


/-- What all's function hands: a line's number, what the line says. -/
abbrev encA (x : Nat × List UInt8) : Array Value := #[.int .i64 (x.1 : Int), .string (mk x.2)]
def allV (l : List UInt8) : List (Nat × List UInt8) := allL (l.length + 1) 1 l
theorem mk_empty {r : List UInt8} : (mk r).toList = r := by rw [ByteArray.toList_eq, mk_data]
theorem all_nil (f k : Nat) : allL f k [] = [] := by cases f <;> rfl
theorem all_more {f k : Nat} {r : List UInt8} (h : r ≠ []) : allL (f + 1) k r = (k, (Lib.cut (Lib.cut r [10]).1 [35]).1) :: allL f (k + 1) (Lib.cut r [10]).2.1 := by
  conv => lhs; unfold allL
  rw [if_neg h]
theorem cut_less {r : List UInt8} (h : r ≠ []) : (Lib.cut r [10]).2.1.length < r.length := by
  obtain ⟨q, h1, h2, h3⟩ := cut_parts 10 r
  by_cases hq : q = []
  · rw [h2 hq]
    exact List.length_pos_iff.2 h
  · exact (h3 hq).2
theorem cut_fst_le (c : UInt8) (r : List UInt8) : (Lib.cut r [c]).1.length ≤ r.length := by
  obtain ⟨q, h1, _⟩ := cut_parts c r
  exact parts_mem_le c r _ (by rw [← h1]; exact List.mem_cons_self ..)

set_option maxRecDepth 100000 in
set_option maxHeartbeats 4000000 in
theorem all1_in (l : List UInt8) (h1 : l.length ≤ 1000000) (m : Int) (n : Nat) (hn : 1 ≤ n) (lb Bs n₀ : Nat) (hn₀ : 0 < n₀) (ty : TypeId → Bool) (J Jx : List (Nat × List UInt8) → World → Prop)
    (hY : ∀ pre x W, J pre W → True → (∃ rest, allV l = (pre ++ [x]) ++ rest) → YieldAt Fence.wide (n - 1) Tryd.prog lb (encA x) W fun e W' =>
      (e = .returned (.bool true) ∧ J (pre ++ [x]) W' ∧ KP n₀ ty W W') ∨ (e = .returned (.bool false) ∧ Jx (pre ++ [x]) W' ∧ KeepsFrom (lb + 1) W W'))
    (hJa : ∀ pre W W', Below W.heap.size W W' → J pre W → J pre W')
    (W : World) (hBs : W.cell? ⟨Bs, 0, none⟩ = some (.string (mk l))) (hm : W.cell? ⟨0, 0, none⟩ = some (.int .i64 m)) (h0 : J [] W) (hs : n₀ ≤ W.heap.size) :
    CallsIn Fence.wide n Tryd.prog 46 #[.func (.yield lb) #[] #[], .pointer (some ⟨Bs, 0, none⟩)] W fun e W' => (∃ v, e = .returned v) ∧
      ((∃ ys, ys = allV l ∧ J ys W') ∨ (∃ pre, (∃ rest, allV l = pre ++ rest) ∧ Jx pre W')) := by
  refine callsIn_of_wp Tryd.func46 rfl trivial ?_ rfl
  simp only [Tryd.ntmps46, List.size_toArray, List.length_cons, List.length_nil, Nat.reduceAdd, Nat.reduceSub, Array.replicate_succ, Array.replicate_zero, List.push_toArray, List.append_toArray, List.nil_append, List.cons_append]
  have HM := Lib.hid hm
  clear hm
  gi_wp2
  gi_loopw [3, 4] (fun i j wr => ∃ (f k : Nat) (r : List UInt8) (pre : List (Nat × List UInt8)), i = .string (mk r) ∧ j = .int .i64 k ∧ r.length < f ∧ k + r.length ≤ l.length + 1 ∧ Hid (allV l = pre ++ allL f k r) ∧ J pre wr ∧ Hid (Below n₀ W wr))
    (fun i _ _ => match i with | .string s => s.size | _ => 0)
  case atStart => exact ⟨l.length + 1, 1, l, [], rfl, rfl, Nat.lt_succ_self _, by omega, Lib.hid rfl, h0, Lib.hid (Below.refl _ _)⟩
  case round =>
    obtain ⟨f, k, r, pre, rfl, rfl, hrf, hkr, HA, hJ, HB⟩ := hrel
    by_cases hr : r = []
    · subst hr
      have HE : Hid (allV l = pre) := Lib.hid (by rw [HA.out, all_nil, List.append_nil])
      clear HA hY hJa
      rw [show mk [] = (⟨#[]⟩ : ByteArray) from rfl]
      gi_wp2
      refine bodyPost_end (results_none rfl _ _ _) rfl ?_
      exact ⟨⟨_, rfl⟩, .inl ⟨pre, HE.out.symm, hJ⟩⟩
    · obtain ⟨g, rfl⟩ : ∃ g, f = g + 1 := ⟨f - 1, by omega⟩
      have hless := cut_less hr
      have hfst := cut_fst_le 10 r
      have hfst2 := cut_fst_le 35 (Lib.cut r [10]).1
      have HX : Hid (allV l = (pre ++ [(k, (Lib.cut (Lib.cut r [10]).1 [35]).1)]) ++ allL g (k + 1) (Lib.cut r [10]).2.1) := Lib.hid (by rw [HA.out, all_more hr, List.append_assoc]; rfl)
      have HC1 := Lib.hid (cut_any r 10 m wr (by omega) ((HB.out.cell (p := ⟨0, 0, none⟩) hn₀).trans HM.out))
      have hne : ¬ (mk r).toList = [] := by rw [mk_empty]; exact hr
      have hne2 : (mk r).toList.isEmpty = false := by rw [mk_empty]; cases r; exact absurd rfl hr; rfl
      have hsz : (mk r).size = r.length := mk_size r
      clear HA hr
      gi_wp2_with fail
      refine ⟨trivial, (callsIn_wide.2 HC1.out).mono ?_⟩
      clear HC1
      rintro e w1 ⟨rfl, q1, rfl⟩
      have hb1 : Below wr.heap.size wr (wr.drewN q1) := below_drewN (Below.refl _ _) q1
      have HC2 := Lib.hid (cut_any (Lib.cut r [10]).1 35 m (wr.drewN q1) (by omega) ((HB.out.cell (p := ⟨0, 0, none⟩) hn₀).trans HM.out))
      have HB1 := Lib.hid hb1
      clear hb1
      gi_wp2_with fail
      refine ⟨trivial, (callsIn_wide.2 HC2.out).mono ?_⟩
      clear HC2
      rintro e w2 ⟨rfl, q2, rfl⟩
      have hb2 : Below wr.heap.size wr ((wr.drewN q1).drewN q2) := below_drewN HB1.out q2
      have hJ2 := hJa _ _ _ hb2 hJ
      clear HB1
      generalize (wr.drewN q1).drewN q2 = w2 at *
      obtain ⟨fn, tmps, assign, body, hy, hRd⟩ := hY pre (k, (Lib.cut (Lib.cut r [10]).1 [35]).1) w2 hJ2 trivial ⟨_, HX.out⟩
      dsimp only [encA] at hy
      have HB2 : Hid (Below n₀ W w2) := Lib.hid (HB.out.trans (hb2.mono (Nat.le_trans hs HB.out.size)))
      clear hY hb2 hJ
      gi_wp2_with fail
      refine hRd.mono ?_
      clear hRd hy
      rintro e W3 (⟨rfl, hJ3, hk3⟩ | ⟨rfl, hJx3, _⟩)
      · have HB3 := Lib.hid (HB2.out.trans hk3.bel)
        clear hk3
        gi_wp2
        go_roundw
        case rel => exact ⟨g, k + 1, _, _, rfl, by go_num, by omega, by omega, HX, hJ3, HB3⟩
        case measure => show (mk (Lib.cut r [10]).2.1).size < (mk r).size; rw [mk_size, mk_size]; exact hless
      · gi_wp2
        refine bodyPost_ret (results_none rfl _ _ _) rfl ?_
        exact ⟨⟨_, rfl⟩, .inr ⟨_, ⟨_, HX.out⟩, hJx3⟩⟩

/-- THE CONTRACT of all's function. -/
theorem all_T (pv : TypeId → Bool) (n₀ : Nat) (ty : TypeId → Bool) (l : List UInt8) (h1 : l.length ≤ 1000000) (m : Int) (n : Nat) (hn : 1 ≤ n) (Bs : Nat) (w : World) (hb : Blk w Bs 9 #[.string (mk l)]) (hm : w.cell? ⟨0, 0, none⟩ = some (.int .i64 m)) (hn0 : 0 < n₀) (hn1 : n₀ ≤ w.heap.size) :
    SeqT pv n₀ ty n 46 #[.pointer (some ⟨Bs, 0, none⟩)] encA (fun _ _ => True) (fun ys => ys = allV l) (fun pre => ∃ rest, allV l = pre ++ rest) w := fun lb J Jx W hW _ ha _ hY h0 =>
  all1_in l h1 m n hn lb Bs n₀ hn0 ty J Jx hY (fun pre W1 W2 hB hj => ha _ _ _ none hj (grown_of hB) (fun r e => by cases e)) W (((hb.on hW).cell 0).trans rfl) ((hW.cell (p := ⟨0, 0, none⟩) (by show 0 < w.heap.size; omega)).trans hm) h0 (Nat.le_trans hn1 hW.size)

set_option maxHeartbeats 1000000 in
theorem all_any (l : List UInt8) (w : World) : Calls Tryd.prog 32 #[.string (mk l)] w fun e w' => e = .returned (.func (.func 46) #[] #[.pointer (some ⟨w.heap.size, 0, none⟩)]) ∧ Blk w' w.heap.size 9 #[.string (mk l)] ∧ Below w.heap.size w w' := by
  have hB := Lib.hid (Blk.new w 9 #[.string (mk l)])
  go_enter Tryd.func32, Tryd.ntmps32
  go_wp2
  go_ret
  exact ⟨rfl, hB.out, (Below.refl _ _).alloc (Nat.le_refl _) _⟩
set_option maxHeartbeats 1000000 in
theorem lines_any (l : List UInt8) (w : World) : Calls Tryd.prog 23 #[.string (mk l)] w fun e w' => e = .returned (.func (.func 31) #[] #[.pointer (some ⟨w.heap.size, 0, none⟩)]) ∧ Blk w' w.heap.size 9 #[.string (mk l)] ∧ Below w.heap.size w w' := by
  have hB := Lib.hid (Blk.new w 9 #[.string (mk l)])
  go_enter Tryd.func23, Tryd.ntmps23
  go_wp2
  go_ret
  exact ⟨rfl, hB.out, (Below.refl _ _).alloc (Nat.le_refl _) _⟩
end Go.Proofs.YtppmjlfecbaicaaDoor
