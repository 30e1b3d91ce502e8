/- tlv.All's function: its contract. -/
import Derived.RangeFuncBox
import Derived.RangeFuncCalls
import Derived.RangeFuncLeaves
import Derived.Shelf.Abstract
import Derived.Shelf.RegionOpen
import Derived.OwnWalkIn
import Derived.TacticsInMore
import Derived.LoopNIn
import Derived.LoopIn
import Derived.Test.YtiakfdfpikheaaaRange
import Derived.Test.YtiakfdfpikheaaaFirst
namespace Go.Proofs.Ytiakfdfpikheaaa
open Go.RowKit Go.Shelf
set_option linter.unusedVariables false
set_option linter.unusedSimpArgs false
attribute [local go_sem] Oper.semAt_some

theorem round_at {n n' l' l : Nat} {f : FuncId} {tmps : Array Value} {assign body : Code} {w : World} {R : Ending → World → Prop} (h : RoundIn Fence.wide n Try.prog l f tmps assign body w R) : RoundIn (Fence.wide.inRound l') n' Try.prog l f tmps assign body w R :=
  ⟨trivial, fun c cs _ => h.2 c cs (room_wide _)⟩
theorem call_at {n l' : Nat} {f : FuncId} {args : Array Value} {w : World} {R : Ending → World → Prop} (h : Calls Try.prog f args w R) : CallsIn (Fence.wide.inRound l') n Try.prog f args w R := (callsIn_wide.2 h).inRound l'
theorem grown_of {W W' : World} (h : Below W.heap.size W W') : W.grownBy W' none := ⟨h.os, h.tape, h.output, h.size, fun k hk _ => h.block k hk⟩
theorem kp_of {n₀ : Nat} {ty : TypeId → Bool} {W W' : World} (h : Below W.heap.size W W') (hn : n₀ ≤ W.heap.size) : KP n₀ ty W W' :=
  ⟨h.mono hn, fun b t cs _ hb => hb.on h, ⟨h.size, fun k o hk _ => (h.block k (Array.getElem?_eq_some_iff.1 hk).1).trans hk⟩⟩
theorem blk_stays {pv : TypeId → Bool} {B b : Nat} {t : TypeId} {cs : Array Value} (ht : pv t = false) {W W' : World} {row : Option Nat} (h : Blk W b t cs) (hg : W.grownBy W' row) (hr : ∀ r, row = some r → B ≤ r ∧ ∃ o : Obj, W.heap[r]? = some o ∧ privO pv o = true) : Blk W' b t cs :=
  h.grown hg (fun e => by
    obtain ⟨_, o, ho, hp⟩ := hr b e.symm
    unfold Blk at h
    rw [h] at ho
    cases ho
    simp [privO, ht] at hp)

/-- The values that stand one behind another at the beginning of bytes. -/
def items (l : List Int) : List (Int × List Int) :=
  if h : stands l = true then (l.getD 0 0, (l.drop 5).take (nv l)) :: items (l.drop (5 + nv l)) else []
termination_by l.length
decreasing_by
  have h1 := of_decide_eq_true h
  simp only [List.length_drop]
  omega
theorem items_no {l : List Int} (h : stands l = false) : items l = [] := by rw [items]; simp [h]
theorem items_yes {l : List Int} (h : stands l = true) : items l = (l.getD 0 0, (l.drop 5).take (nv l)) :: items (l.drop (5 + nv l)) := by rw [items]; simp [h]
theorem stands_parts {l : List Int} (h : stands l = true) : 5 ≤ l.length ∧ l.getD 0 0 ≠ 0 ∧ nv l ≤ 4194304 ∧ 5 + nv l ≤ l.length := of_decide_eq_true h

/-- What All's function hands: a tag, a slice that reads as the value's bytes. -/
structure Hand where
  t : Int
  A : Option Addr
  c : Nat
  bs : List Int
deriving Inhabited
def Hand.it (h : Hand) : Int × List Int := (h.t, h.bs)
abbrev Hand.enc (h : Hand) : Array Value := #[.int .u8 h.t, .slice h.A h.bs.length h.c]
def Reads (h : Hand) (W : World) : Prop := Rd W W.heap.size h.A h.bs

theorem step_items {l r : List Int} {pre : List Hand} (h : items l = pre.map Hand.it ++ items r) (hs : stands r = true) (x : Hand) (h1 : x.t = r.getD 0 0) (h2 : x.bs = (r.drop 5).take (nv r)) :
    items l = (pre ++ [x]).map Hand.it ++ items (r.drop (5 + nv r)) ∧ pre.length < (items l).length := by
  rw [items_yes hs] at h
  refine ⟨by rw [h]; simp [Hand.it, h1, h2], by rw [h]; simp⟩

theorem Byt.drop {l : List Int} (h : Byt l) (k : Nat) : Byt (l.drop k) := fun x hx => h x (List.mem_of_mem_drop hx)

set_option maxRecDepth 100000 in
set_option maxHeartbeats 4000000 in
theorem all1_in (A : Option Addr) (c : Nat) (l : List Int) (h1 : l.length ≤ 1000000000) (hlc : l.length ≤ c) (hcm : c ≤ 9223372036854775807) (hby : Byt l) (n : Nat) (hn : 1 ≤ n) (lb Bs n₀ : Nat) (ty : TypeId → Bool) (J Jx : List Hand → World → Prop)
    (hY : ∀ pre x W, J pre W → Reads x W → (∃ rest, items l = (pre ++ [x]).map Hand.it ++ rest) → YieldAt Fence.wide (n - 1) Try.prog lb x.enc W fun e W' =>
      (e = .returned (.bool true) ∧ J (pre ++ [x]) W' ∧ KP n₀ ty W W') ∨ (e = .returned (.bool false) ∧ Jx (pre ++ [x]) W' ∧ KeepsFrom (lb + 1) W W'))
    (hJa : ∀ pre W W', Below W.heap.size W W' → J pre W → J pre W')
    (W : World) (hBs : W.cell? ⟨Bs, 0, none⟩ = some (.slice A l.length c)) (hm : Rd W n₀ A l) (h0 : J [] W) (hs : n₀ ≤ W.heap.size) :
    CallsIn Fence.wide n Try.prog 38 #[.func (.yield lb) #[] #[], .pointer (some ⟨Bs, 0, none⟩)] W fun e W' => (∃ v, e = .returned v) ∧
      ((∃ ys, ys.map Hand.it = items l ∧ J ys W') ∨ (∃ pre, (∃ rest, items l = pre.map Hand.it ++ rest) ∧ Jx pre W')) := by
  refine callsIn_of_wp Try.func38 rfl trivial ?_ rfl
  simp only [Try.ntmps38, List.size_toArray, List.length_cons, List.length_nil, Nat.reduceAdd, Nat.reduceSub, Array.replicate_succ, Array.replicate_zero, List.push_toArray, List.append_toArray, List.nil_append, List.cons_append]
  have HR := Lib.hid hm
  clear hm
  gi_wp2
  gi_loopw [3] (fun i wr => ∃ (r : List Int) (A' : Option Addr) (c' : Nat) (pre : List Hand), i = .slice A' r.length c' ∧ r.length ≤ l.length ∧ r.length ≤ c' ∧ c' ≤ 9223372036854775807 ∧ Byt r ∧ Rd wr n₀ A' r ∧ items l = pre.map Hand.it ++ items r ∧ J pre wr ∧ Below n₀ W wr)
    (fun i _ => match i with | .slice _ k _ => k | _ => 0)
  case atStart => exact ⟨l, A, c, [], rfl, Nat.le_refl _, hlc, hcm, hby, HR.out, rfl, h0, Below.refl _ _⟩
  case round =>
    obtain ⟨r, A', c', pre, rfl, hrl, hrc, hcm', hbr, hrd, hit, hJ, hb⟩ := hrel
    have HV := Lib.hid (value_any A' c' n₀ r wr hrd hbr (by omega) hrc hcm')
    gi_wp2_with fail
    refine ⟨trivial, (callsIn_wide.2 HV.out).mono ?_⟩
    clear HV
    rintro e w1 ⟨⟨m, rfl⟩, (⟨hst, rfl⟩ | ⟨hst, A1, A2, rfl, hr1, hr2⟩)⟩
    · have HL := Lib.hid (items_no hst)
      have hb1 : Below wr.heap.size wr (wr.drewN m) := below_drewN (Below.refl _ _) m
      have hJ1 := Lib.hid (hJa _ _ _ hb1 hJ)
      have HI := Lib.hid hit
      clear hY hJa hit hst hJ
      gi_wp2
      refine ⟨trivial, ?_⟩
      gi_wp2
      refine ⟨fun _ h => (by cases h), ?_⟩
      gi_wp2
      refine bodyPost_ret (results_none rfl _ _ _) rfl ?_
      exact ⟨⟨_, rfl⟩, .inl ⟨pre, by rw [HI.out, HL.out, List.append_nil], hJ1.out⟩⟩
    · obtain ⟨p1, p2, p3, p4⟩ := stands_parts hst
      have hb1 : Below wr.heap.size wr (wr.drewN m) := below_drewN (Below.refl _ _) m
      have hlen : ((r.drop 5).take (nv r)).length = nv r := by rw [List.length_take, List.length_drop]; omega
      have HC := clone_any A1 (nv r) _ (wr.drewN m) (hr1.more (Nat.le_trans hs hb.size)) (by rw [hlen]; omega)
      rw [hlen] at HC
      have HC := Lib.hid HC
      have HN := fun x h1 h2 => Lib.hid (step_items hit hst x h1 h2)
      have HR' : Hid (Rd wr n₀ A2 (r.drop (5 + nv r))) := Lib.hid hr2
      have HB' : Hid (Byt (r.drop (5 + nv r))) := Lib.hid (hbr.drop _)
      have HL' : Hid ((r.drop (5 + nv r)).length = r.length - (5 + nv r)) := Lib.hid (List.length_drop ..)
      have HBS : Hid (((r.drop 5).take (nv r)).length = nv r) := Lib.hid hlen
      clear hr1 hr2 hst hlen hit
      generalize r.getD 0 0 = t at *
      generalize (r.drop 5).take (nv r) = bs at *
      generalize nv r = nb at *
      generalize hr' : r.drop (5 + nb) = r' at *
      have hz : (t == 0) = false := by simpa using p2
      gi_wp2_with fail
      refine ⟨trivial, (callsIn_wide.2 HC.out).mono ?_⟩
      clear HC
      rintro e w2 ⟨v, rfl, hrow, hb2⟩
      obtain ⟨A3, c3, rfl, hc3, hr3⟩ := hrow.rd
      have hb2' : Below wr.heap.size wr w2 := hb1.trans hb2
      have hJ2 := hJa _ _ _ hb2' hJ
      have HX := HN ⟨t, A3, c3, bs⟩ rfl rfl
      obtain ⟨fn, tmps, assign, body, hy, hRd⟩ := hY pre ⟨t, A3, c3, bs⟩ w2 hJ2 hr3 ⟨_, HX.out.1⟩
      clear hY hrow
      gi_wp2_with fail
      refine hRd.mono ?_
      clear hRd hy
      rintro e W3 (⟨rfl, hJ3, hk3⟩ | ⟨rfl, hJx3, _⟩)
      · gi_wp2
        go_roundw
        case rel =>
          exact ⟨r', A2, r.length - (5 + nb), _, by rw [HL'.out], by rw [HL'.out]; omega, by rw [HL'.out]; omega, by omega, HB'.out, (HR'.out.below (hb2'.mono (Nat.le_trans hs hb.size))).below hk3.bel, HX.out.1, hJ3, (hb.trans (hb2'.mono (Nat.le_trans hs hb.size))).trans hk3.bel⟩
        case measure => simp; omega
      · gi_wp2
        refine bodyPost_ret (results_none rfl _ _ _) rfl ?_
        exact ⟨⟨_, rfl⟩, .inr ⟨_, ⟨_, HX.out.1⟩, hJx3⟩⟩

/-- THE CONTRACT of tlv.All's function. -/
theorem all_T (pv : TypeId → Bool) (n₀ : Nat) (ty : TypeId → Bool) (A : Option Addr) (c : Nat) (l : List Int) (h1 : l.length ≤ 1000000000) (hlc : l.length ≤ c) (hcm : c ≤ 9223372036854775807) (hby : Byt l) (n : Nat) (hn : 1 ≤ n) (Bs : Nat) (w : World) (hb : Blk w Bs 25 #[.slice A l.length c]) (hm : Rd w n₀ A l) (hn0 : n₀ ≤ w.heap.size) :
    SeqT pv n₀ ty n 38 #[.pointer (some ⟨Bs, 0, none⟩)] Hand.enc Reads (fun ys => ys.map Hand.it = items l) (fun pre => ∃ rest, items l = pre.map Hand.it ++ rest) w := fun lb J Jx W hW _ ha _ hY h0 =>
  all1_in A c l h1 hlc hcm hby n hn lb Bs n₀ ty J Jx hY (fun pre W1 W2 hB hj => ha _ _ _ none hj (grown_of hB) (fun r e => by cases e)) W (((hb.on hW).cell 0).trans rfl) (hm.below (hW.mono hn0)) h0 (Nat.le_trans hn0 hW.size)
end Go.Proofs.Ytiakfdfpikheaaa
