/- A reader's List. -/
import Derived.Test.YtiakfdfpikheaaaEach
namespace Go.Proofs.Ytiakfdfpikheaaa
open Go.RowKit
set_option linter.unusedVariables false
set_option linter.unusedSimpArgs false

theorem Ch.under {g gi Bi : Nat} {w w2 w3 : World} (h0 : Ch g Bi w w2) (h : Ch gi Bi w2 w3) (hg : w.heap.size ≤ gi) : Ch g Bi w w3 :=
  ⟨h.os.trans h0.os, h.tape.trans h0.tape, h.output.trans h0.output, Nat.le_trans h0.size h.size, fun k hk h1 h2 => (h.same k (Nat.lt_of_lt_of_le hk h0.size) (by omega) h2).trans (h0.same k hk h1 h2)⟩
theorem eachR_whole {ls : List ByteArray} {f' : Bool} {r' : List Int} {k : Nat} (hsz : ∀ k, k < ls.length → (ls.getD k ByteArray.empty).size ≤ 30000) (h : EachR (lb ls) ls f' r' k) : f' = false ∧ r' = [] ∧ k = ls.length := by
  rcases h with ⟨h1, h2, h3, h4⟩ | ⟨_, h2⟩
  · rw [lb_split ls k] at h3
    have h5 := List.append_cancel_left h3
    rcases Nat.lt_or_ge k ls.length with hk | hk
    · rw [lb_drop hk] at h5
      rw [← h5, (stands_put (by decide) (by rw [bytesOf_length]; have := hsz k hk; omega)).2.1] at h4
      cases h4
    · rw [List.drop_eq_nil_of_le hk] at h5
      exact ⟨h1, by rw [← h5]; rfl, by omega⟩
  · exact absurd rfl h2

set_option maxHeartbeats 8000000 in
theorem list_r (D g Bi Bx B : Nat) (f : Bool) (r : List Int) (tag : Int) (p : Pt) (w : World) (hs : RS w D g f r) (hi : Blk w Bi 3 #[.int .i64 0]) (hx : Blk w Bx 31 p.cells.toArray) (hl : RdS w B p.LA p.ls) (hB : B ≤ g) (hB2 : B ≤ Bi) (hD : D ≤ Bi) (h1 : g ≠ Bi) (h2 : Bx ≠ g) (h3 : Bx ≠ Bi) (hll : p.ls.length ≤ 30) (hsz : ∀ k, k < p.ls.length → (p.ls.getD k ByteArray.empty).size ≤ 30000) :
    Calls Try.prog 36 #[.pointer (some ⟨g, 0, none⟩), .int .u8 tag, .func (.func 37) #[] #[.pointer (some ⟨Bi, 0, none⟩), .pointer (some ⟨Bx, 0, none⟩)]] w fun e w' => ∃ (b : Bool) (f' : Bool) (r' : List Int) (k : Nat), e = .returned (.bool b) ∧ Blk w' Bi 3 #[.int .i64 (k : Int)] ∧ RS w' D g f' r' ∧ Ch g Bi w w' ∧
      (b = true → k = p.ls.length → f' = false ∧ tk f r tag = (some (lb p.ls), (false, r'))) ∧ (∀ r1, tk f r tag = (some (lb p.ls), (false, r1)) → b = true ∧ k = p.ls.length ∧ f' = false ∧ r' = r1) := by
  have HT := Lib.hid (take_any D g f r tag w hs)
  have hbyt := hs.byt
  have hD0 := hs.1
  have hgl := hs.lt
  have hbl := hi.lt
  have hxl := hx.lt
  have HSO : Hid (∀ v q, tk f r tag = (some v, q) → q = (false, q.2) ∧ v.length ≤ 4194304 ∧ Byt v) := Lib.hid fun v q h => by
    obtain ⟨q1, q2⟩ := q
    obtain ⟨_, h2, _, h4, h5⟩ := tk_some hbyt h
    exact ⟨by rw [h2], h5, fun x hx => hbyt x (by rw [h4]; simp [valB, hx])⟩
  have H := Lib.hid (And.intro hi (And.intro hx hl))
  have HSZ := Lib.hid hsz
  generalize tk f r tag = t at *
  obtain ⟨v0, f0, rr0⟩ := t
  clear hs hi hx hl hsz hbyt
  go_enter Try.func36, Try.ntmps36
  go_wp2_with fail
  refine HT.out.mono ?_
  clear HT
  rintro e w1 ⟨h, hrs, hg⟩
  have hsz1 := hg.size
  have HRS := Lib.hid (And.intro hrs hg)
  have HI1 := Lib.hid (Blk.grown H.out.1 hg (fun e => by injection e with e; exact h1 e.symm))
  have HX1 := Lib.hid (Blk.grown H.out.2.1 hg (fun e => by injection e with e; exact h2 e))
  have HL1 : Hid (RdS w1 B p.LA p.ls) := Lib.hid fun hp => by
    obtain ⟨b, off, e, hlt, hc⟩ := H.out.2.2 hp
    exact ⟨b, off, e, hlt, fun j hj => (World.cell?_of_block (w := w) (a := ⟨b, off + j, none⟩) (hg.block b (by omega) (fun e => by injection e with e; omega))).trans (hc j hj)⟩
  clear hrs hg
  rcases h with ⟨v, A1, rfl, rfl, hr⟩ | ⟨rfl, rfl⟩
  · obtain ⟨hq, hvl, hvb⟩ := HSO.out v _ rfl
    simp only [Prod.mk.injEq, and_true] at hq
    subst hq
    have hb2 : Below w1.heap.size w1 (w1.alloc (.cells #[.slice A1 v.length v.length, .bool true, .bool false] 69)) := (Below.refl _ _).alloc (Nat.le_refl _) _
    have hin : RS (w1.alloc (.cells #[.slice A1 v.length v.length, .bool true, .bool false] 69)) D w1.heap.size false v :=
      ⟨by omega, A1, v.length, Blk.new w1 69 _, hr.below (hb2.mono (by omega)), hvb, Nat.le_refl _, by omega, by omega⟩
    have HE := Lib.hid (each_any D w1.heap.size Bi Bx B v p _ hin (HI1.out.on hb2) (HX1.out.on hb2) (HL1.out.below (hb2.mono (by omega))) (by omega) hB2 hD (by omega) (by omega) h3 hll HSZ.out)
    clear hin hr
    go_wp2_with fail
    refine HE.out.mono ?_
    clear HE
    rintro e w3 ⟨⟨vv, rfl⟩, fe, re, k, her, hbi, hre, hch⟩
    have HER := Lib.hid her
    have HBI := Lib.hid hbi
    have hrs3 := hch.rs (HRS.out.1.on hb2) (show g ≠ w1.heap.size by omega) h1 (by omega) hD
    have hlt3 := hrs3.lt
    have HR3 := Lib.hid hrs3
    have HC3 := Lib.hid (((Ch.of (b := Bi) HRS.out.2).trans (Ch.bel hb2)).under hch (by omega))
    have HFA := Lib.hid (fail_any D g false rr0 w3 hrs3)
    obtain ⟨A4, c4, hblk4, _⟩ := hre.2
    have e0 := hblk4.cell 0
    have e2 := hblk4.cell 2
    obtain ⟨A5, c5, hblk5, _⟩ := hrs3.2
    have g2 := hblk5.cell 2
    clear her hbi hre hch hrs3 hblk4 hblk5 hb2
    by_cases hgood : fe = false ∧ re = []
    · obtain ⟨rfl, rfl⟩ := hgood
      go_wp2_with fail
      go_ret
      refine ⟨true, false, rr0, k, rfl, HBI.out, HR3.out, HC3.out, fun _ hk => ⟨rfl, ?_⟩, fun r1 hr1 => ?_⟩
      · rcases HER.out with ⟨_, h5, h6, _⟩ | ⟨h5, _⟩
        · rw [h6, hk, List.take_length, List.append_nil]
        · cases h5
      · simp only [Prod.mk.injEq, Option.some.injEq] at hr1
        obtain ⟨rfl, -, rfl⟩ := hr1
        exact ⟨rfl, (eachR_whole HSZ.out HER.out).2.2, rfl, rfl⟩
    · have HGO := Lib.hid hgood
      have fin : ∀ {w' : World}, RS w' D g true rr0 → w3.grownBy w' (some g) → ∃ (b : Bool) (f' : Bool) (r' : List Int) (k : Nat), Ending.returned (.bool false) = .returned (.bool b) ∧ Blk w' Bi 3 #[.int .i64 (k : Int)] ∧ RS w' D g f' r' ∧ Ch g Bi w w' ∧
          (b = true → k = p.ls.length → f' = false ∧ ((some v, (false, rr0)) : Option (List Int) × Bool × List Int) = (some (lb p.ls), (false, r'))) ∧ (∀ r1, ((some v, (false, rr0)) : Option (List Int) × Bool × List Int) = (some (lb p.ls), (false, r1)) → b = true ∧ k = p.ls.length ∧ f' = false ∧ r' = r1) := fun h4 h5 =>
        ⟨false, true, rr0, k, rfl, Blk.grown HBI.out h5 (fun e => by injection e with e; exact h1 e.symm), h4, HC3.out.trans (Ch.of h5), fun h => (by cases h), fun r1 hr1 => by
          simp only [Prod.mk.injEq, Option.some.injEq] at hr1
          obtain ⟨rfl, -, rfl⟩ := hr1
          have := eachR_whole HSZ.out HER.out
          exact (HGO.out ⟨this.1, this.2.1⟩).elim⟩
      have hd : fe = true ∨ (fe = false ∧ 0 < re.length) := by
        cases fe with
        | true => exact .inl rfl
        | false =>
          refine .inr ⟨rfl, ?_⟩
          cases re with
          | nil => exact (hgood ⟨rfl, rfl⟩).elim
          | cons x t => simp
      clear hgood
      rcases hd with rfl | ⟨rfl, hd⟩
      · go_wp2_with fail
        refine HFA.out.mono ?_
        rintro e w4 ⟨⟨v4, rfl⟩, h4, h5⟩
        obtain ⟨A6, c6, hblk6, _⟩ := h4.2
        have g6 := hblk6.cell 2
        have HF := Lib.hid (fin h4 h5)
        clear hblk6 h4 h5
        go_wp2_with fail
        go_ret
        exact HF.out
      · go_wp2_with fail
        refine HFA.out.mono ?_
        rintro e w4 ⟨⟨v4, rfl⟩, h4, h5⟩
        obtain ⟨A6, c6, hblk6, _⟩ := h4.2
        have g6 := hblk6.cell 2
        have HF := Lib.hid (fin h4 h5)
        clear hblk6 h4 h5
        go_wp2_with fail
        go_ret
        exact HF.out
  · go_wp2_with fail
    go_ret
    exact ⟨false, f0, rr0, 0, rfl, HI1.out, HRS.out.1, Ch.of HRS.out.2, fun h => (by cases h), fun r1 h => by simp at h⟩
end Go.Proofs.Ytiakfdfpikheaaa
