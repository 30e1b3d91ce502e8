/- A reader's list of attributes: each. -/
import Derived.Test.YtcjiofhjognklaaGreatW16
import Derived.Test.YtcjiofhjognklaaGreatW14
import Derived.Test.YtcjiofhjognklaaGreatW02
import Derived.Test.YtcjiofhjognklaaGreatW05
import Derived.Test.YtcjiofhjognklaaGreatW03

namespace Go.Proofs.YtcjiofhjognklaaGreat.Tlv
open Go.RowKit
set_option maxRecDepth 100000
set_option linter.unusedVariables false
set_option linter.unusedSimpArgs false
theorem each1_idle (p : Addr) (w : World) :
    CallsD Tryz.prog 143 #[.pointer (some p)] .returning w fun e u' w' => e = .returned (.tuple #[]) ∧ u' = .returning ∧ w' = w := by
  refine callsD_of_wpS Tryz.func143 rfl fun c₀ cs hu => ?_
  apply wpS_seq
  apply wpS_region
  simp [wpOpsS, go_sem, recoverD, hu, Tryz.ntmps143, Exit.thenS]
  refine wpS_cond (t := false) (by simp [Act.eval, Array.replicate]) ?_
  simp only [Bool.false_eq_true, if_false]
  refine wpS_of_wp (wp_skip ?_)
  cases c₀
  simp_all [bodyPostS, results, Tryz.results143]
/-- How many bytes are left. -/
def restLen (gi : Nat) (w : World) : Nat := match w.cell? ⟨gi, 0, none⟩ with | some (.slice _ n _) => n | _ => 0
theorem restLen_rs {w : World} {D gi : Nat} {f : Bool} {r : List Int} (h : RS w D gi f r) : restLen gi w = r.length := by
  obtain ⟨_, A, c, hb, _⟩ := h
  have := hb.cell 0
  unfold restLen
  rw [this]
  rfl
end Go.Proofs.YtcjiofhjognklaaGreat.Tlv

namespace Go.Proofs.YtcjiofhjognklaaGreat.Tlv
open Go.RowKit
set_option maxRecDepth 100000
set_option linter.unusedVariables false
set_option linter.unusedSimpArgs false
theorem below_grown {n0 g : Nat} {w w' : World} (h : w.grownBy w' (some g)) (hg : n0 ≤ g) (hn : n0 ≤ w.heap.size) : Below n0 w w' := ⟨h.os, h.tape, h.output, h.size, fun k hk => h.block k (by omega) (fun e => by injection e with e; omega)⟩
end Go.Proofs.YtcjiofhjognklaaGreat.Tlv

namespace Go.Proofs.YtcjiofhjognklaaGreat.Tlv
open Go.RowKit
set_option maxRecDepth 100000
set_option linter.unusedVariables false
set_option linter.unusedSimpArgs false
set_option maxHeartbeats 4000000 in
theorem fst_edgeR (b off : Nat) (t a1 a2 a3 a4 : Int) (w : World) (h0 : w.cell? ⟨b, off, none⟩ = some (.int .u8 t))
    (h1 : w.cell? ⟨b, off + 1, none⟩ = some (.int .u8 a1)) (h2 : w.cell? ⟨b, off + 2, none⟩ = some (.int .u8 a2)) (h3 : w.cell? ⟨b, off + 3, none⟩ = some (.int .u8 a3)) (h4 : w.cell? ⟨b, off + 4, none⟩ = some (.int .u8 a4))
    (ht : 0 < t) (l1 : 0 ≤ a1) (g1 : a1 ≤ 255) (l2 : 0 ≤ a2) (g2 : a2 ≤ 255) (l3 : 0 ≤ a3) (g3 : a3 ≤ 255) (l4 : 0 ≤ a4) (g4 : a4 ≤ 255) (hn : 16777216 * a1 + 65536 * a2 + 256 * a3 + a4 = 0) :
    Calls Tryz.prog 120 #[.slice (some ⟨b, off, none⟩) 5 5] w fun e w' => ∃ o : Nat, e = .returned (.tuple #[.int .u8 t, .slice (some ⟨b, o, none⟩) 0 0, .int .i64 5]) ∧ ∃ m, w' = w.drewN m := by
  have ht0 : (t == 0) = false := by simp; omega
  go_enter Tryz.func120, Tryz.ntmps120
  go_wp2
  go_quiet (fail)
  go_wp2
  go_quiet (fail)
  go_wp2
  go_ret3
  exact ⟨_, rfl, _, by first | rfl | rw [World.drewN_drewN]⟩
/-- What stands is an address in a block that was there. -/
def Fine (B : Nat) (A : Option Addr) : Prop := ∃ b off, A = some ⟨b, off, none⟩ ∧ b < B
theorem firstR_any (A : Option Addr) (c B : Nat) (l : List Int) (w : World) (hr : Rd w B A l) (hby : Byt l) (hlen : l.length ≤ 1000000000000) (hc : l.length ≤ c) (hcm : c ≤ 9223372036854775807) :
    Calls Tryz.prog 120 #[.slice A l.length c] w fun e w' => (∃ m, w' = w.drewN m) ∧
      ((stands l = false ∧ e = .returned (.tuple #[.int .u8 0, .slice none 0 0, .int .i64 0])) ∨
       (stands l = true ∧ ∃ (A1 : Option Addr) (c1 : Nat), e = .returned (.tuple #[.int .u8 (l.getD 0 0), .slice A1 (nv l) c1, .int .i64 (5 + nv l : Nat)]) ∧
         Rd w B A1 ((l.drop 5).take (nv l)) ∧ Fine B A1 ∧ nv l ≤ c1 ∧ c1 ≤ c)) := by
  by_cases hs : 5 ≤ l.length
  rotate_left
  · exact (fst_short A c l w (by omega)).mono fun e w' ⟨he, hw⟩ => ⟨hw, .inl ⟨decide_eq_false (fun h => hs h.1), he⟩⟩
  obtain ⟨b, off, rfl, hlt, hcell⟩ := hr (by omega)
  have h0 := hcell 0 (by omega)
  rw [Nat.add_zero] at h0
  have h1 := hcell 1 (by omega)
  have h2 := hcell 2 (by omega)
  have h3 := hcell 3 (by omega)
  have h4 := hcell 4 (by omega)
  have y0 := hby.at 0
  have y1 := hby.at 1
  have y2 := hby.at 2
  have y3 := hby.at 3
  have y4 := hby.at 4
  by_cases hz : l.getD 0 0 = 0
  · rw [hz] at h0
    exact (fst_zero b off c l.length w hs h0).mono fun e w' ⟨he, hw⟩ => ⟨hw, .inl ⟨decide_eq_false (fun h => h.2.1 hz), he⟩⟩
  have hn : 16777216 * l.getD 1 0 + 65536 * l.getD 2 0 + 256 * l.getD 3 0 + l.getD 4 0 = (nv l : Int) := by unfold nv; omega
  have c1 : l.getD 0 0 > 0 := by omega
  by_cases hbig : 4194304 < nv l ∨ l.length < 5 + nv l
  · exact (fst_big b off c l.length _ _ _ _ _ w hs hlen h0 h1 h2 h3 h4 (by omega) y1.1 y1.2 y2.1 y2.2 y3.1 y3.2 y4.1 y4.2 (nv l) hn hbig).mono fun e w' ⟨he, hw⟩ =>
      ⟨hw, .inl ⟨decide_eq_false (fun h => by have := h.2.2; omega), he⟩⟩
  have hst : stands l = true := decide_eq_true ⟨hs, hz, by omega, by omega⟩
  by_cases hc5 : 5 < c
  · exact (fst_ok b off c l.length _ _ _ _ _ w hs hlen hc hcm h0 h1 h2 h3 h4 c1 y1.1 y1.2 y2.1 y2.2 y3.1 y3.2 y4.1 y4.2 (nv l) hn (by omega) (by omega) hc5).mono fun e w' ⟨he, hw⟩ =>
      ⟨hw, .inr ⟨hst, _, _, he, hr.part 5 (nv l) (by omega) (fun _ => rfl), ⟨b, off + 5, rfl, hlt⟩, by omega, by omega⟩⟩
  · obtain rfl : c = 5 := by omega
    have e5 : l.length = 5 := by omega
    have e0 : nv l = 0 := by omega
    rw [e0] at hn ⊢
    rw [e5]
    exact (fst_edgeR b off _ _ _ _ _ w h0 h1 h2 h3 h4 c1 y1.1 y1.2 y2.1 y2.2 y3.1 y3.2 y4.1 y4.2 hn).mono fun e w' ⟨o, he, hw⟩ =>
      ⟨hw, .inr ⟨hst, _, 0, he, by simpa using Rd.nil, ⟨b, o, rfl, hlt⟩, Nat.le_refl _, by omega⟩⟩
/-- The reference's reader: its bytes, whether it failed. -/
def RR (W : World) (D g : Nat) (f : Bool) (r : List Int) : Prop :=
  D ≤ g ∧ ∃ A c, Blk W g 107 #[.slice A r.length c, .bool f] ∧ Rd W D A r ∧ Byt r ∧ r.length ≤ c ∧ c ≤ 9223372036854775807 ∧ r.length ≤ 100000000
theorem RR.lt {W : World} {D g : Nat} {f : Bool} {r : List Int} (h : RR W D g f r) : g < W.heap.size := by
  obtain ⟨_, A, c, h, _⟩ := h
  exact h.lt
theorem RR.byt {W : World} {D g : Nat} {f : Bool} {r : List Int} (h : RR W D g f r) : Byt r := by
  obtain ⟨_, A, c, _, _, h, _⟩ := h
  exact h
theorem RR.on {W W' : World} {D g : Nat} {f : Bool} {r : List Int} (h : RR W D g f r) (hb : Below W.heap.size W W') : RR W' D g f r := by
  have hlt := h.lt
  obtain ⟨h0, A, c, h1, h2, h3⟩ := h
  exact ⟨h0, A, c, h1.on hb, h2.below (hb.mono (by omega)), h3⟩
/-- Done. -/
theorem refDone_any (D g : Nat) (f : Bool) (r : List Int) (w : World) (hs : RR w D g f r) : Calls Tryz.prog 65 #[.pointer (some ⟨g, 0, none⟩)] w fun e w' => e = .returned (.bool (!f && decide (r = []))) ∧ w' = w := by
  obtain ⟨_, A, c, hblk, _⟩ := hs
  have c0 := hblk.cell 0
  have c1 := hblk.cell 1
  clear hblk
  cases f with
  | true =>
    go_enter Tryz.func65, Tryz.ntmps65
    go_wp2
    go_ret
    exact ⟨rfl, rfl⟩
  | false =>
    cases r with
    | nil =>
      go_enter Tryz.func65, Tryz.ntmps65
      go_wp2
      go_ret
      exact ⟨rfl, rfl⟩
    | cons x t =>
      have hd : (((x :: t).length : Int) == 0) = false := by simp; omega
      generalize hl : (x :: t).length = n at *
      go_enter Tryz.func65, Tryz.ntmps65
      go_wp2
      go_ret
      exact ⟨by simp, rfl⟩
theorem RR.bad {W : World} {D g : Nat} {f : Bool} {r : List Int} (h : RR W D g f r) : RR (W.setCell ⟨g, 1, none⟩ (.bool true)) D g true r := by
  have hlt := h.lt
  obtain ⟨h0, A, c, h1, h2, h3⟩ := h
  exact ⟨h0, A, c, by simpa using h1.set_ 1 (.bool true), h2.gr (blk_set_grown W g 1 _) h0 (by omega), h3⟩
theorem take_done {w : World} {D g b off n c m : Nat} {v0 : Value} {r : List Int} (hk : Blk w g 107 #[v0, .bool false]) (hD : D ≤ g) (hr : Rd w D (some ⟨b, off, none⟩) r) (hb : b < D) (hby : Byt r) (hn : r.length = n) (hc : n ≤ c) (hcm : c ≤ 9223372036854775807) (hl : n ≤ 100000000) :
    RR ((w.drewN m).setCell ⟨g, 0, none⟩ (.slice (some ⟨b, off, none⟩) n c)) D g false r ∧ w.grownBy ((w.drewN m).setCell ⟨g, 0, none⟩ (.slice (some ⟨b, off, none⟩) n c)) (some g) := by
  subst hn
  have hlt := hk.lt
  have hr' : Rd (w.drewN m) D (some ⟨b, off, none⟩) r := hr
  refine ⟨⟨hD, _, c, by simpa using (hk.drewN m).set_ 0 (.slice (some ⟨b, off, none⟩) r.length c), hr'.gr (blk_set_grown (w.drewN m) g 0 _) hD (by show g ≤ w.heap.size; omega), hby, hc, hcm, hl⟩, grownBy_trans (grownBy_of (below_drewN (Below.refl _ _) m)) (blk_set_grown _ g 0 _)⟩
/-- What Take tells. -/
def TakeR (D g : Nat) (t : Option (List Int) × Bool × List Int) (w : World) (e : Ending) (w' : World) : Prop :=
  ((∃ v A1 c1, t.1 = some v ∧ e = .returned (.slice A1 v.length c1) ∧ Rd w' D A1 v ∧ Fine D A1 ∧ v.length ≤ c1 ∧ c1 ≤ 9223372036854775807) ∨ (t.1 = none ∧ e = .returned (.slice none 0 0))) ∧
    RR w' D g t.2.1 t.2.2 ∧ w.grownBy w' (some g)
set_option maxHeartbeats 4000000 in
theorem refTake_any (D g : Nat) (f : Bool) (r : List Int) (tag : Int) (w : World) (hs : RR w D g f r) :
    Calls Tryz.prog 64 #[.pointer (some ⟨g, 0, none⟩), .int .u8 tag] w (TakeR D g (tk f r tag) w) := by
  have HS := Lib.hid hs
  have hlt := hs.lt
  have HB : Hid (∀ m, RR ((w.drewN m).setCell ⟨g, 1, none⟩ (.bool true)) D g true r ∧ w.grownBy ((w.drewN m).setCell ⟨g, 1, none⟩ (.bool true)) (some g)) := Lib.hid fun m =>
    ⟨(hs.on (below_drewN (Below.refl _ _) m)).bad, grownBy_trans (grownBy_of (below_drewN (Below.refl _ _) m)) (blk_set_grown _ g 1 _)⟩
  obtain ⟨hD, A, c, hblk, hr, hby, h1, h2, h3⟩ := hs
  have c0 := hblk.cell 0
  have c1 := hblk.cell 1
  have f0 := hblk.frozen 0
  have f1 := hblk.frozen 1
  have hF := Lib.hid (firstR_any A c D r w hr hby (by omega) h1 h2)
  have HK := Lib.hid (And.intro hblk (And.intro hr trivial))
  have HY := Lib.hid hby
  clear hblk hr hby
  unfold TakeR
  cases f with
  | true =>
    have ht : tk true r tag = (none, (true, r)) := by simp [tk]
    rw [ht]
    clear ht
    go_enter Tryz.func64, Tryz.ntmps64
    go_wp2_with fail
    refine hF.out.mono ?_
    rintro e w1 ⟨⟨m, rfl⟩, (⟨hn, rfl⟩ | ⟨hy, A1, c1', rfl, hr1, hA1, hc1, hc2⟩)⟩
    · clear hn hF
      go_wp2_with fail
      go_ret
      exact ⟨.inr ⟨trivial, rfl⟩, HB.out m⟩
    · clear hy hr1 hA1 hF hc1 hc2
      generalize r.getD 0 0 = t0 at *
      generalize nv r = nn at *
      go_wp2_with fail
      go_ret
      exact ⟨.inr ⟨trivial, rfl⟩, HB.out m⟩
  | false =>
    cases hsd : stands r with
    | false =>
      have ht : tk false r tag = (none, (true, r)) := by simp [tk, hsd]
      rw [ht]
      clear ht
      go_enter Tryz.func64, Tryz.ntmps64
      go_wp2_with fail
      refine hF.out.mono ?_
      rintro e w1 ⟨⟨m, rfl⟩, (⟨hn, rfl⟩ | ⟨hy, _⟩)⟩
      rotate_left
      · rw [hsd] at hy; cases hy
      clear hn hF hsd
      go_wp2_with fail
      go_ret
      exact ⟨.inr ⟨trivial, rfl⟩, HB.out m⟩
    | true =>
      obtain ⟨p1, p2, p3, p4⟩ : 5 ≤ r.length ∧ r.getD 0 0 ≠ 0 ∧ nv r ≤ 4194304 ∧ 5 + nv r ≤ r.length := of_decide_eq_true hsd
      by_cases hq : r.getD 0 0 = tag
      · have ht : tk false r tag = (some ((r.drop 5).take (nv r)), (false, r.drop (5 + nv r))) := by unfold tk; rw [if_neg (by decide), if_pos ⟨hsd, hq⟩]
        have hlen : ((r.drop 5).take (nv r)).length = nv r := by rw [List.length_take, List.length_drop]; omega
        have hq' : (r.getD 0 0 == tag) = true := by simpa using hq
        have HL := Lib.hid hlen
        have HYd : Hid (Byt (r.drop (5 + nv r))) := Lib.hid (fun x hx => HY.out x (List.mem_of_mem_drop hx))
        have HDL : Hid ((r.drop (5 + nv r)).length = r.length - (5 + nv r)) := Lib.hid (List.length_drop ..)
        obtain ⟨b, off, rfl, hbD, _⟩ := HK.out.2.1 (by omega)
        have HR2 : Hid (∀ A', (0 < r.length - (5 + nv r) → A' = some ⟨b, off + (5 + nv r), none⟩) → Rd w D A' (r.drop (5 + nv r))) := Lib.hid fun A' h => by
          have := HK.out.2.1.part (5 + nv r) (r.length - (5 + nv r)) (A' := A') (by omega) h
          rwa [List.take_of_length_le (by rw [List.length_drop]; omega)] at this
        clear hlen HS HB
        generalize (r.drop 5).take (nv r) = bs at *
        generalize hr' : r.drop (5 + nv r) = r' at *
        rw [ht]
        clear ht
        generalize nv r = nn at *
        generalize r.getD 0 0 = t0 at *
        subst hq
        clear hr'
        have hn0 : ((5 : Int) + (nn : Int) == 0) = false := by simp; omega
        by_cases hnc : 5 + nn < c
        · go_enter Tryz.func64, Tryz.ntmps64
          go_wp2_with fail
          refine hF.out.mono ?_
          clear hF
          rintro e w1 ⟨⟨m, rfl⟩, (⟨hn, _⟩ | ⟨hy, A1, c1', rfl, hr1, hA1, hc1, hc2⟩)⟩
          · rw [hsd] at hn; cases hn
          have HT := Lib.hid (And.intro hr1 (And.intro hA1 (And.intro hc1 hc2)))
          clear hr1 hA1 hc1 hc2 hy hsd
          go_wp2_with fail
          go_ret
          have hv' : Rd (w.drewN m) D A1 bs := HT.out.1
          exact ⟨.inl ⟨bs, A1, c1', rfl, by rw [HL.out]; rfl, hv'.gr (blk_set_grown (w.drewN m) g 0 _) hD (by show g ≤ w.heap.size; omega), HT.out.2.1, by rw [HL.out]; exact HT.out.2.2.1, by have := HT.out.2.2.2; omega⟩, take_done HK.out.1 hD (HR2.out _ (fun _ => rfl)) hbD HYd.out (by rw [HDL.out]) (by omega) (by omega) (by omega)⟩
        · obtain rfl : c = 5 + nn := by omega
          have hrl : r.length = 5 + nn := by omega
          rw [hrl] at *
          go_enter Tryz.func64, Tryz.ntmps64
          go_wp2_with fail
          refine hF.out.mono ?_
          clear hF
          rintro e w1 ⟨⟨m, rfl⟩, (⟨hn, _⟩ | ⟨hy, A1, c1', rfl, hr1, hA1, hc1, hc2⟩)⟩
          · rw [hsd] at hn; cases hn
          have HT := Lib.hid (And.intro hr1 (And.intro hA1 (And.intro hc1 hc2)))
          clear hr1 hA1 hc1 hc2 hy hsd
          go_wp2_with fail
          go_ret
          have hv' : Rd (w.drewN m) D A1 bs := HT.out.1
          exact ⟨.inl ⟨bs, A1, c1', rfl, by rw [HL.out]; rfl, hv'.gr (blk_set_grown (w.drewN m) g 0 _) hD (by show g ≤ w.heap.size; omega), HT.out.2.1, by rw [HL.out]; exact HT.out.2.2.1, by have := HT.out.2.2.2; omega⟩, take_done HK.out.1 hD (HR2.out _ (fun h => by omega)) hbD HYd.out (by rw [HDL.out]; omega) (by omega) (by omega) (by omega)⟩
      · have ht : tk false r tag = (none, (true, r)) := by unfold tk; rw [if_neg (by decide), if_neg (fun h => hq h.2)]
        rw [ht]
        have hq' : (r.getD 0 0 != tag) = true := by simpa using hq
        clear hq ht
        go_enter Tryz.func64, Tryz.ntmps64
        go_wp2_with fail
        refine hF.out.mono ?_
        clear hF
        rintro e w1 ⟨⟨m, rfl⟩, (⟨hn, _⟩ | ⟨hy, A1, c1', rfl, hr1, hA1, hc1, hc2⟩)⟩
        · rw [hsd] at hn; cases hn
        clear hr1 hA1 hy hsd
        generalize r.getD 0 0 = t0 at *
        generalize nv r = nn at *
        go_wp2_with fail
        go_ret
        exact ⟨.inr ⟨trivial, rfl⟩, HB.out m⟩
end Go.Proofs.YtcjiofhjognklaaGreat.Tlv

namespace Go.Proofs.YtcjiofhjognklaaGreat.Tlv
open Go.RowKit
set_option maxRecDepth 100000
set_option linter.unusedVariables false
set_option linter.unusedSimpArgs false
theorem refText_any (D g : Nat) (f : Bool) (r : List Int) (tag : Int) (w : World) (hs : RR w D g f r) :
    Calls Tryz.prog 61 #[.pointer (some ⟨g, 0, none⟩), .int .u8 tag] w fun e w' => e = .returned (.string (mkS (((tk f r tag).1).getD []))) ∧ RR w' D g (tk f r tag).2.1 (tk f r tag).2.2 ∧ w.grownBy w' (some g) := by
  have ht := Lib.hid (refTake_any D g f r tag w hs)
  generalize tk f r tag = t at *
  obtain ⟨v0, f0, r0⟩ := t
  clear hs
  go_enter Tryz.func61, Tryz.ntmps61
  go_wp2_with fail
  refine ht.out.mono ?_
  clear ht
  rintro e w1 ⟨h, hrs, hg⟩
  have HRS := Lib.hid (And.intro hrs hg)
  clear hrs hg
  rcases h with ⟨v, A1, c1, rfl, rfl, hr, ⟨b, off, rfl, _⟩, hc1, hc2⟩ | ⟨rfl, rfl⟩
  · have hcv := conv_of w1 (some ⟨b, off, none⟩) c1 D v hr (.inl rfl)
    clear hr
    go_wp2_with fail
    go_ret
    exact ⟨rfl, HRS.out⟩
  · have hcv : (convert 25 9 (.slice none 0 0)).run Tryz.prog w1 = .ok (.string (mkS [])) w1 := conv_of w1 none 0 0 [] Rd.nil (.inr rfl)
    go_wp2_with fail
    go_ret
    exact ⟨rfl, HRS.out⟩
end Go.Proofs.YtcjiofhjognklaaGreat.Tlv

namespace Go.Proofs.YtcjiofhjognklaaGreat.Tlv
open Go.RowKit
set_option maxRecDepth 100000
set_option linter.unusedVariables false
set_option linter.unusedSimpArgs false
/-- What is handed reads well, below B, and may be cut on. -/
def GoodH (w : World) (B : Nat) (hs : List Hand) : Prop := ∀ x ∈ hs, Rd w B x.A x.bs ∧ Fine B x.A ∧ x.bs.length ≤ x.c ∧ x.c ≤ 9223372036854775807 ∧ Byt x.bs
theorem GoodH.below {w w' : World} {B : Nat} {hs : List Hand} (h : GoodH w B hs) (hb : Below B w w') : GoodH w' B hs := fun x hx => ⟨(h x hx).1.below hb, (h x hx).2⟩
theorem GoodH.more {w : World} {B B' : Nat} {hs : List Hand} (h : GoodH w B hs) (hb : B ≤ B') : GoodH w B' hs := fun x hx => by
  obtain ⟨h1, ⟨b, off, e, hl⟩, h3⟩ := h x hx
  exact ⟨h1.more hb, ⟨b, off, e, by omega⟩, h3⟩

set_option maxHeartbeats 4000000 in
theorem bookR_some (b off c : Nat) (l : List Int) (w : World) (hr : Rd w w.heap.size (some ⟨b, off, none⟩) l) (hby : Byt l) (hlen : l.length ≤ 1000000) (hc : l.length ≤ c) (hcm : c ≤ 9223372036854775807) (hb : b < w.heap.size) :
    Calls Tryz.prog 119 #[.slice (some ⟨b, off, none⟩) l.length c] w fun e w' => ∃ (v : Value) (hs : List Hand) (k : Nat), e = .returned (.tuple #[v, .int .i64 k]) ∧ k = endP l ∧ hs.map Hand.it = items l ∧ RowK kI w' w.heap.size v hs ∧ GoodH w' w.heap.size hs ∧ Below w.heap.size w w' := by
  go_enter Tryz.func119, Tryz.ntmps119
  have HR := Lib.hid hr
  clear hr
  go_wp2
  go_loopw [4, 5] (fun i j wr => ∃ (k : Nat) (hs : List Hand), j = .int .i64 k ∧ k ≤ l.length ∧ hs.length ≤ k ∧ RowK kI wr w.heap.size i hs ∧ (items l = hs.map Hand.it ++ items (l.drop k) ∧ endP l = k + endP (l.drop k)) ∧ GoodH wr w.heap.size hs ∧ Below w.heap.size w wr)
    (fun _ j _ => l.length - (intOf j).toNat)
  case atStart => exact ⟨0, [], rfl, Nat.zero_le _, Nat.le_refl _, nil_row _ _ _, ⟨by simp, by simp⟩, fun x hx => by simp at hx, Below.refl _ _⟩
  case round =>
    obtain ⟨k, hs, rfl, hk, hhs, hrow, hit, hgood, hb⟩ := hrel
    have hbw := hb.size
    have hlr : (l.drop k).length = l.length - k := List.length_drop ..
    rcases Nat.lt_or_ge k c with hkc | hkc
    · have hrd : Rd wr w.heap.size (some ⟨b, off + k, none⟩) (l.drop k) := by
        have := (HR.out.below hb).part k (l.length - k) (A' := some ⟨b, off + k, none⟩) (by omega) (fun _ => rfl)
        rwa [List.take_of_length_le (by omega)] at this
      have HF := firstR_any (some ⟨b, off + k, none⟩) (c - k) w.heap.size (l.drop k) wr hrd (hby.drop k) (by omega) (by omega) (by omega)
      rw [hlr] at HF
      have HF := Lib.hid HF
      clear hrd
      go_wp2_with fail
      refine HF.out.mono ?_
      clear HF
      rintro e w1 ⟨⟨m, rfl⟩, (⟨hst, rfl⟩ | ⟨hst, A1, c1, rfl, hr1, hA1, hc1, hc2⟩)⟩
      · have HL := Lib.hid (items_no hst)
        have HE := Lib.hid (endP_no hst)
        have HI := Lib.hid hit
        clear hst hit hlr
        go_wp2_with fail
        go_ret2
        exact ⟨_, hs, k, rfl, by rw [HI.out.2, HE.out, Nat.add_zero], by rw [HI.out.1, HL.out, List.append_nil], hrow.drewN m, hgood.below (below_drewN (Below.refl _ _) m), below_drewN hb m⟩
      · obtain ⟨p1, p2, p3, p4⟩ := stands_parts hst
        have hlen' : (((l.drop k).drop 5).take (nv (l.drop k))).length = nv (l.drop k) := by rw [List.length_take, List.length_drop]; omega
        have hbt : Byt (((l.drop k).drop 5).take (nv (l.drop k))) := fun x hx => hby x (List.mem_of_mem_drop (List.mem_of_mem_drop (List.mem_of_mem_take hx)))
        have HEE : Hid (endP l = k + (5 + nv (l.drop k)) + endP (l.drop (k + (5 + nv (l.drop k))))) := Lib.hid (hit.2.trans (by rw [endP_yes hst, List.drop_drop, ← Nat.add_assoc]))
        have HX := Lib.hid (step_items hit.1 hst ⟨(l.drop k).getD 0 0, A1, c1, ((l.drop k).drop 5).take (nv (l.drop k))⟩ rfl rfl).1
        rw [hlr] at p1 p4
        clear hit hst p2
        generalize (l.drop k).getD 0 0 = t at *
        generalize ((l.drop k).drop 5).take (nv (l.drop k)) = bs at *
        generalize nv (l.drop k) = nb at *
        clear hlr
        rw [List.drop_drop] at HX
        subst hlen'
        have hbz : w.heap.size ≤ (wr.drewN m).heap.size := hbw
        have hrow1 := hrow.drewN m
        have hb1 : Below w.heap.size w (wr.drewN m) := below_drewN hb m
        have hg1 : GoodH (wr.drewN m) w.heap.size hs := hgood.below (below_drewN (Below.refl _ _) m)
        have hgx : GoodH (wr.drewN m) w.heap.size [⟨t, A1, c1, bs⟩] := fun x hx => by
          obtain rfl := List.mem_singleton.1 hx
          exact ⟨hr1.drewN m, hA1, hc1, (show c1 ≤ 9223372036854775807 by omega), hbt⟩
        have hlen1 : hs.length + 1 ≤ 1000000000 := by omega
        have H := Lib.hid (And.intro hrow1 (And.intro hb1 (And.intro hg1 hgx)))
        clear hrow1 hb1 hg1 hgx hr1 hgood hb hrow hbt hA1 hc1 hc2
        generalize wr.drewN m = w1 at *
        have hz : ¬ (5 + (bs.length : Int) = 0) := by omega
        go_wp2_with (at_builtin; refine wpList_appK kI rfl _ _ rfl [⟨t, A1, c1, bs⟩] rfl (H.out.1.alloc _) rfl (rd_block (K := kI) (l := [⟨t, A1, c1, bs⟩]) (Blk.new _ _ _) rfl) (fun e => by cases e) hlen1 (le_alloc hbz) ?_; intro v8 w8 hrow8 hgr8; have Hrow8 := Lib.hid (And.intro hrow8 hgr8); clear hrow8 hgr8)
        go_roundw
        case rel =>
          have hgr := Hrow8.out.2
          have hb8 : Below w.heap.size w1 w8 := ((Below.refl _ _).alloc hbz _).grown hgr (le_alloc hbz) (fun kk hk => (World.ownsRow.lt H.out.1 kk hk).1)
          refine ⟨k + (5 + bs.length), hs ++ [⟨t, A1, c1, bs⟩], by go_num, by omega, by simp; omega, Hrow8.out.1, ⟨HX.out, HEE.out⟩, ?_, H.out.2.1.trans hb8⟩
          intro x hx
          rcases List.mem_append.1 hx with h | h
          · exact ((H.out.2.2.1).below hb8) x h
          · exact ((H.out.2.2.2).below hb8) x h
        case measure => simp [intOf]; omega
    · have hkl : k = l.length := by omega
      have HF := (fst_short (some ⟨b, off, none⟩) 0 [] wr (by simp))
      have hc0 : c = l.length := by omega
      subst hkl
      subst hc0
      have HI2 : Hid (l.length = endP l) := Lib.hid (by rw [hit.2, List.drop_length, endP_no (l := []) rfl]; rfl)
      have HI : Hid (items l = hs.map Hand.it) := Lib.hid (by rw [hit.1, List.drop_length, items_no (l := []) rfl, List.append_nil])
      have HF := Lib.hid HF
      clear hit hlr
      go_wp2_with fail
      refine Calls.mono (HF.out) ?_
      rintro e w1 ⟨rfl, m, rfl⟩
      go_wp2_with fail
      go_ret2
      exact ⟨_, hs, l.length, rfl, HI2.out, HI.out.symm, hrow.drewN m, hgood.below (below_drewN (Below.refl _ _) m), below_drewN hb m⟩

set_option maxHeartbeats 4000000 in
theorem bookR_none (w : World) :
    Calls Tryz.prog 119 #[.slice none 0 0] w fun e w' => ∃ (v : Value) (hs : List Hand) (k : Nat), e = .returned (.tuple #[v, .int .i64 k]) ∧ k = endP [] ∧ hs.map Hand.it = items [] ∧ RowK kI w' w.heap.size v hs ∧ GoodH w' w.heap.size hs ∧ Below w.heap.size w w' := by
  go_enter Tryz.func119, Tryz.ntmps119
  go_wp2
  go_loopw [4, 5] (fun i j wr => i = .slice none 0 0 ∧ j = .int .i64 0 ∧ wr = w) (fun _ _ _ => 0)
  case atStart => exact ⟨rfl, rfl, rfl⟩
  case round =>
    obtain ⟨rfl, rfl, rfl⟩ := hrel
    have HF := Lib.hid (fst_short none 0 [] wr (by simp))
    go_wp2_with fail
    refine Calls.mono (HF.out) ?_
    rintro e w1 ⟨rfl, m, rfl⟩
    go_wp2_with fail
    go_ret2
    exact ⟨_, [], 0, rfl, by rw [endP_no (l := []) rfl], by rw [items_no (l := []) rfl]; rfl, nil_row _ _ _, fun x hx => by simp at hx, below_drewN (Below.refl _ _) m⟩

/-- THE CONTRACT of ref.All. -/
theorem bookR_any (A : Option Addr) (c : Nat) (l : List Int) (w : World) (hr : Rd w w.heap.size A l) (hA : A = none → c = 0) (hA2 : ∀ a, A = some a → ∃ b off, a = ⟨b, off, none⟩ ∧ b < w.heap.size) (hby : Byt l) (hlen : l.length ≤ 1000000) (hc : l.length ≤ c) (hcm : c ≤ 9223372036854775807) :
    Calls Tryz.prog 119 #[.slice A l.length c] w fun e w' => ∃ (v : Value) (hs : List Hand) (k : Nat), e = .returned (.tuple #[v, .int .i64 k]) ∧ k = endP l ∧ hs.map Hand.it = items l ∧ RowK kI w' w.heap.size v hs ∧ GoodH w' w.heap.size hs ∧ Below w.heap.size w w' := by
  cases A with
  | none =>
    have h0 := hA rfl
    subst h0
    obtain rfl : l = [] := List.eq_nil_of_length_eq_zero (by omega)
    exact bookR_none w
  | some a =>
    obtain ⟨b, off, rfl, hb⟩ := hA2 a rfl
    exact bookR_some b off c l w hr hby hlen hc hcm hb
end Go.Proofs.YtcjiofhjognklaaGreat.Tlv
