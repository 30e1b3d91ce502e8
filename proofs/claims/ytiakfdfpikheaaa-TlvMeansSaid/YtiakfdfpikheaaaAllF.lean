/- tlv.All's function: what it hands is new; what its consumer must keep: bytes that read. -/
import Derived.Test.YtiakfdfpikheaaaRangeF
import Derived.Test.YtiakfdfpikheaaaCuts
namespace Go.Proofs.Ytiakfdfpikheaaa
open Go.RowKit Go.Shelf
set_option linter.unusedVariables false
set_option linter.unusedSimpArgs false

/-- What is handed stands in a block that was made behind the world W0. -/
def FreshH (x : Hand) (W0 : World) : Prop := (∀ ad, x.A = some ad → W0.heap.size ≤ ad.block) ∧ (x.A = none → x.c = 0)
theorem fresh_row {t : Int} {A : Option Addr} {n c m : Nat} {bs : List Int} {w W0 : World} (h : Row w (W0.drewN m).heap.size (.slice A n c) bs) : FreshH ⟨t, A, c, bs⟩ W0 := by
  rcases h.2 with ⟨e, h0⟩ | ⟨g, cap, cur, e, h3, hg, h5, h6⟩
  · injection e with e1 e2 e3
    subst e1 e3
    exact ⟨fun ad e => (by cases e), fun _ => rfl⟩
  · injection e with e1 e2 e3
    subst e1
    exact ⟨fun ad e => (by cases e; exact h3), fun e => (by cases e)⟩
/-- Bytes that read below n₀ still read so. -/
def KRb (n₀ : Nat) (W W' : World) : Prop := ∀ (A : Option Addr) (r : List Int), Rd W n₀ A r → Rd W' n₀ A r
theorem rd_not {W : World} {n b : Nat} {A : Option Addr} {r : List Int} (h : Rd W n A r) {o : Obj} (ho : W.heap[b]? = some o) (hc : o.isCells = false) : ∀ off, 0 < r.length → A ≠ some ⟨b, off, none⟩ := fun off hp e => by
  obtain ⟨b', off', e', hlt, hcc⟩ := h hp
  rw [e] at e'
  injection e' with e'
  injection e' with e1 e2
  subst e1
  have := hcc 0 hp
  unfold World.cell? at this
  simp only [ho] at this
  cases o <;> simp_all [Obj.isCells]
theorem rd_put {W : World} {n b : Nat} {A : Option Addr} {r : List Int} (h : Rd W n A r) {o : Obj} (ho : W.heap[b]? = some o) (hc : o.isCells = false) (o' : Obj) : Rd (W.putObj b o') n A r := fun hp => by
  obtain ⟨b', off', e', hlt, hcc⟩ := h hp
  have hne : b' ≠ b := fun e => rd_not h ho hc off' hp (by rw [e', e])
  exact ⟨b', off', e', hlt, fun j hj => (World.cell?_of_block (w := W) (a := ⟨b', off' + j, none⟩) (World.putObj_heap_other hne)).trans (hcc j hj)⟩
theorem keep_b (n₀ : Nat) : KeepRel (KRb n₀) where
  trans := fun h k A r hr => k A r (h A r hr)
  swap := fun hl ho h hl3 ho' A r hr => rd_put (h A r (rd_put hr hl ho _)) hl3 ho' _

set_option maxRecDepth 100000 in
set_option maxHeartbeats 4000000 in
theorem all1_F (A : Option Addr) (c : Nat) (l : List Int) (h1 : l.length ≤ 1000000000) (hlc : l.length ≤ c) (hcm : c ≤ 9223372036854775807) (hby : Byt l) (n : Nat) (hn : 1 ≤ n) (lb Bs n₀ : Nat) (J Jx : List Hand → World → Prop)
    (hY : ∀ pre x W, J pre W → Reads x W → (∃ rest, items l = (pre ++ [x]).map Hand.it ++ rest) → (∃ W0, J pre W0 ∧ FreshH x W0 ∧ Below W0.heap.size W0 W) → YieldAt Fence.wide (n - 1) Try.prog lb x.enc W fun e W' =>
      (e = .returned (.bool true) ∧ J (pre ++ [x]) W' ∧ KRb n₀ W W' ∧ KeepsOthers W W') ∨ (e = .returned (.bool false) ∧ Jx (pre ++ [x]) W' ∧ KeepsFrom (lb + 1) W W'))
    (hJa : ∀ pre W W', Below W.heap.size W W' → J pre W → J pre W')
    (W : World) (hBs : W.cell? ⟨Bs, 0, none⟩ = some (.slice A l.length c)) (hm : Rd W n₀ A l) (h0 : J [] W) (hs : n₀ ≤ W.heap.size) :
    CallsIn Fence.wide n Try.prog 38 #[.func (.yield lb) #[] #[], .pointer (some ⟨Bs, 0, none⟩)] W fun e W' => (∃ v, e = .returned v) ∧
      ((∃ ys, ys.map Hand.it = items l ∧ J ys W') ∨ (∃ pre, (∃ rest, items l = pre.map Hand.it ++ rest) ∧ Jx pre W')) := by
  refine callsIn_of_wp Try.func38 rfl trivial ?_ rfl
  simp only [Try.ntmps38, List.size_toArray, List.length_cons, List.length_nil, Nat.reduceAdd, Nat.reduceSub, Array.replicate_succ, Array.replicate_zero, List.push_toArray, List.append_toArray, List.nil_append, List.cons_append]
  have HR := Lib.hid hm
  clear hm
  gi_wp2
  gi_loopw [3] (fun i wr => ∃ (r : List Int) (A' : Option Addr) (c' : Nat) (pre : List Hand), i = .slice A' r.length c' ∧ r.length ≤ l.length ∧ r.length ≤ c' ∧ c' ≤ 9223372036854775807 ∧ Byt r ∧ Rd wr n₀ A' r ∧ items l = pre.map Hand.it ++ items r ∧ J pre wr ∧ W.heap.size ≤ wr.heap.size)
    (fun i _ => match i with | .slice _ k _ => k | _ => 0)
  case atStart => exact ⟨l, A, c, [], rfl, Nat.le_refl _, hlc, hcm, hby, HR.out, rfl, h0, Nat.le_refl _⟩
  case round =>
    obtain ⟨r, A', c', pre, rfl, hrl, hrc, hcm', hbr, hrd, hit, hJ, hb⟩ := hrel
    have HV := Lib.hid (value_any A' c' n₀ r wr hrd hbr (by omega) hrc hcm')
    gi_wp2_with fail
    refine ⟨trivial, (callsIn_wide.2 HV.out).mono ?_⟩
    clear HV
    rintro e w1 ⟨⟨m, rfl⟩, (⟨hst, rfl⟩ | ⟨hst, A1, A2, rfl, hr1, hr2⟩)⟩
    · have HL := Lib.hid (items_no hst)
      have hb1 : Below wr.heap.size wr (wr.drewN m) := below_drewN (Below.refl _ _) m
      have hJ1 := Lib.hid (hJa _ _ _ hb1 hJ)
      have HI := Lib.hid hit
      clear hY hJa hit hst hJ
      gi_wp2
      refine ⟨trivial, ?_⟩
      gi_wp2
      refine ⟨fun _ h => (by cases h), ?_⟩
      gi_wp2
      refine bodyPost_ret (results_none rfl _ _ _) rfl ?_
      exact ⟨⟨_, rfl⟩, .inl ⟨pre, by rw [HI.out, HL.out, List.append_nil], hJ1.out⟩⟩
    · obtain ⟨p1, p2, p3, p4⟩ := stands_parts hst
      have hb1 : Below wr.heap.size wr (wr.drewN m) := below_drewN (Below.refl _ _) m
      have hlen : ((r.drop 5).take (nv r)).length = nv r := by rw [List.length_take, List.length_drop]; omega
      have HC := clone_any A1 (nv r) _ (wr.drewN m) (hr1.more (Nat.le_trans hs hb)) (by rw [hlen]; omega)
      rw [hlen] at HC
      have HC := Lib.hid HC
      have HN := fun x h1 h2 => Lib.hid (step_items hit hst x h1 h2)
      have HR' : Hid (Rd wr n₀ A2 (r.drop (5 + nv r))) := Lib.hid hr2
      have HB' : Hid (Byt (r.drop (5 + nv r))) := Lib.hid (hbr.drop _)
      have HL' : Hid ((r.drop (5 + nv r)).length = r.length - (5 + nv r)) := Lib.hid (List.length_drop ..)
      have HBS : Hid (((r.drop 5).take (nv r)).length = nv r) := Lib.hid hlen
      clear hr1 hr2 hst hlen hit
      generalize r.getD 0 0 = t at *
      generalize (r.drop 5).take (nv r) = bs at *
      generalize nv r = nb at *
      generalize hr' : r.drop (5 + nb) = r' at *
      have hz : (t == 0) = false := by simpa using p2
      gi_wp2_with fail
      refine ⟨trivial, (callsIn_wide.2 HC.out).mono ?_⟩
      clear HC
      rintro e w2 ⟨v, rfl, hrow, hb2⟩
      obtain ⟨A3, c3, rfl, hc3, hr3⟩ := hrow.rd
      have hfr : FreshH ⟨t, A3, c3, bs⟩ wr := fresh_row hrow
      have hb2' : Below wr.heap.size wr w2 := hb1.trans hb2
      have hJ2 := hJa _ _ _ hb2' hJ
      have HX := HN ⟨t, A3, c3, bs⟩ rfl rfl
      obtain ⟨fn, tmps, assign, body, hy, hRd⟩ := hY pre ⟨t, A3, c3, bs⟩ w2 hJ2 hr3 ⟨_, HX.out.1⟩ ⟨wr, hJ, hfr, hb2'⟩
      clear hY hrow
      gi_wp2_with fail
      refine hRd.mono ?_
      clear hRd hy
      rintro e W3 (⟨rfl, hJ3, hk3, ho3⟩ | ⟨rfl, hJx3, _⟩)
      · gi_wp2
        go_roundw
        case rel =>
          exact ⟨r', A2, r.length - (5 + nb), _, by rw [HL'.out], by rw [HL'.out]; omega, by rw [HL'.out]; omega, by omega, HB'.out, hk3 _ _ (HR'.out.below (hb2'.mono (Nat.le_trans hs hb))), HX.out.1, hJ3, Nat.le_trans hb (Nat.le_trans hb2'.size ho3.size)⟩
        case measure => simp; omega
      · gi_wp2
        refine bodyPost_ret (results_none rfl _ _ _) rfl ?_
        exact ⟨⟨_, rfl⟩, .inr ⟨_, ⟨_, HX.out.1⟩, hJx3⟩⟩

/-- THE CONTRACT of tlv.All's function, which hands what is new. -/
theorem all_F (pv : TypeId → Bool) (n₀ : Nat) (A : Option Addr) (c : Nat) (l : List Int) (h1 : l.length ≤ 1000000000) (hlc : l.length ≤ c) (hcm : c ≤ 9223372036854775807) (hby : Byt l) (n : Nat) (hn : 1 ≤ n) (Bs : Nat) (w : World) (hb : Blk w Bs 25 #[.slice A l.length c]) (hm : Rd w n₀ A l) (hn0 : n₀ ≤ w.heap.size) :
    SeqF pv (KRb n₀) FreshH n 38 #[.pointer (some ⟨Bs, 0, none⟩)] Hand.enc Reads (fun ys => ys.map Hand.it = items l) (fun pre => ∃ rest, items l = pre.map Hand.it ++ rest) w := fun lb J Jx W hW _ ha _ hY h0 =>
  all1_F A c l h1 hlc hcm hby n hn lb Bs n₀ J Jx hY (fun pre W1 W2 hB hj => ha _ _ _ none hj (grown_of hB) (fun r e => by cases e)) W (((hb.on hW).cell 0).trans rfl) (hm.below (hW.mono hn0)) h0 (Nat.le_trans hn0 hW.size)
end Go.Proofs.Ytiakfdfpikheaaa
