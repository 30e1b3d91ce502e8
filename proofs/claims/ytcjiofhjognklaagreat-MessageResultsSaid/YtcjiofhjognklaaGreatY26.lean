/- The reference's reader. -/
import Derived.Test.YtcjiofhjognklaaGreatY03
import Derived.Test.YtcjiofhjognklaaGreatY06
namespace Go.Proofs.YtcjiofhjognklaaGreat.Tlv
open Go.RowKit
set_option maxRecDepth 100000
set_option linter.unusedVariables false
set_option linter.unusedSimpArgs false
set_option maxHeartbeats 4000000 in
theorem fst_edgeR (b off : Nat) (t a1 a2 a3 a4 : Int) (w : World) (h0 : w.cell? ⟨b, off, none⟩ = some (.int .u8 t))
   (h1 : w.cell? ⟨b, off + 1, none⟩ = some (.int .u8 a1)) (h2 : w.cell? ⟨b, off + 2, none⟩ = some (.int .u8 a2)) (h3 : w.cell? ⟨b, off + 3, none⟩ = some (.int .u8 a3)) (h4 : w.cell? ⟨b, off + 4, none⟩ = some (.int .u8 a4))
   (ht : 0 < t) (l1 : 0 ≤ a1) (g1 : a1 ≤ 255) (l2 : 0 ≤ a2) (g2 : a2 ≤ 255) (l3 : 0 ≤ a3) (g3 : a3 ≤ 255) (l4 : 0 ≤ a4) (g4 : a4 ≤ 255) (hn : 16777216 * a1 + 65536 * a2 + 256 * a3 + a4 = 0) :
   Calls Tryz.prog 120 #[.slice (some ⟨b, off, none⟩) 5 5] w fun e w' => ∃ o : Nat, e = .returned (.tuple #[.int .u8 t, .slice (some ⟨b, o, none⟩) 0 0, .int .i64 5]) ∧ ∃ m, w' = w.drewN m := by
 have ht0 : (t == 0) = false := by simp; omega
 go_enter Tryz.func120, Tryz.ntmps120
 go_wp2
 go_quiet (fail)
 go_wp2
 go_quiet (fail)
 go_wp2
 go_ret3
 exact ⟨_, rfl, _, by first | rfl | rw [World.drewN_drewN]⟩
def Fine (B : Nat) (A : Option Addr) : Prop := ∃ b off, A = some ⟨b, off, none⟩ ∧ b < B
theorem firstR_any (A : Option Addr) (c B : Nat) (l : List Int) (w : World) (hr : Rd w B A l) (hby : Byt l) (hlen : l.length ≤ 1000000000000) (hc : l.length ≤ c) (hcm : c ≤ 9223372036854775807) :
   Calls Tryz.prog 120 #[.slice A l.length c] w fun e w' => (∃ m, w' = w.drewN m) ∧
     ((stands l = false ∧ e = .returned (.tuple #[.int .u8 0, .slice none 0 0, .int .i64 0])) ∨
      (stands l = true ∧ ∃ (A1 : Option Addr) (c1 : Nat), e = .returned (.tuple #[.int .u8 (l.getD 0 0), .slice A1 (nv l) c1, .int .i64 (5 + nv l : Nat)]) ∧
        Rd w B A1 ((l.drop 5).take (nv l)) ∧ Fine B A1 ∧ nv l ≤ c1 ∧ c1 ≤ c)) := by
 by_cases hs : 5 ≤ l.length
 rotate_left
 · exact (fst_short A c l w (by omega)).mono fun e w' ⟨he, hw⟩ => ⟨hw, .inl ⟨decide_eq_false (fun h => hs h.1), he⟩⟩
 obtain ⟨b, off, rfl, hlt, hcell⟩ := hr (by omega)
 have h0 := hcell 0 (by omega)
 rw [Nat.add_zero] at h0
 have h1 := hcell 1 (by omega)
 have h2 := hcell 2 (by omega)
 have h3 := hcell 3 (by omega)
 have h4 := hcell 4 (by omega)
 have y0 := hby.at 0
 have y1 := hby.at 1
 have y2 := hby.at 2
 have y3 := hby.at 3
 have y4 := hby.at 4
 by_cases hz : l.getD 0 0 = 0
 · rw [hz] at h0
   exact (fst_zero b off c l.length w hs h0).mono fun e w' ⟨he, hw⟩ => ⟨hw, .inl ⟨decide_eq_false (fun h => h.2.1 hz), he⟩⟩
 have hn : 16777216 * l.getD 1 0 + 65536 * l.getD 2 0 + 256 * l.getD 3 0 + l.getD 4 0 = (nv l : Int) := by unfold nv; omega
 have c1 : l.getD 0 0 > 0 := by omega
 by_cases hbig : 4194304 < nv l ∨ l.length < 5 + nv l
 · exact (fst_big b off c l.length _ _ _ _ _ w hs hlen h0 h1 h2 h3 h4 (by omega) y1.1 y1.2 y2.1 y2.2 y3.1 y3.2 y4.1 y4.2 (nv l) hn hbig).mono fun e w' ⟨he, hw⟩ =>
     ⟨hw, .inl ⟨decide_eq_false (fun h => by have := h.2.2; omega), he⟩⟩
 have hst : stands l = true := decide_eq_true ⟨hs, hz, by omega, by omega⟩
 by_cases hc5 : 5 < c
 · exact (fst_ok b off c l.length _ _ _ _ _ w hs hlen hc hcm h0 h1 h2 h3 h4 c1 y1.1 y1.2 y2.1 y2.2 y3.1 y3.2 y4.1 y4.2 (nv l) hn (by omega) (by omega) hc5).mono fun e w' ⟨he, hw⟩ =>
     ⟨hw, .inr ⟨hst, _, _, he, hr.part 5 (nv l) (by omega) (fun _ => rfl), ⟨b, off + 5, rfl, hlt⟩, by omega, by omega⟩⟩
 · obtain rfl : c = 5 := by omega
   have e5 : l.length = 5 := by omega
   have e0 : nv l = 0 := by omega
   rw [e0] at hn ⊢
   rw [e5]
   exact (fst_edgeR b off _ _ _ _ _ w h0 h1 h2 h3 h4 c1 y1.1 y1.2 y2.1 y2.2 y3.1 y3.2 y4.1 y4.2 hn).mono fun e w' ⟨o, he, hw⟩ =>
     ⟨hw, .inr ⟨hst, _, 0, he, by simpa using Rd.nil, ⟨b, o, rfl, hlt⟩, Nat.le_refl _, by omega⟩⟩
def RR (W : World) (D g : Nat) (f : Bool) (r : List Int) : Prop :=
 D ≤ g ∧ ∃ A c, Blk W g 107 #[.slice A r.length c, .bool f] ∧ Rd W D A r ∧ Byt r ∧ r.length ≤ c ∧ c ≤ 9223372036854775807 ∧ r.length ≤ 100000000
theorem RR.lt {W : World} {D g : Nat} {f : Bool} {r : List Int} (h : RR W D g f r) : g < W.heap.size := by
 obtain ⟨_, A, c, h, _⟩ := h
 exact h.lt
theorem RR.byt {W : World} {D g : Nat} {f : Bool} {r : List Int} (h : RR W D g f r) : Byt r := by
 obtain ⟨_, A, c, _, _, h, _⟩ := h
 exact h
theorem RR.on {W W' : World} {D g : Nat} {f : Bool} {r : List Int} (h : RR W D g f r) (hb : Below W.heap.size W W') : RR W' D g f r := by
 have hlt := h.lt
 obtain ⟨h0, A, c, h1, h2, h3⟩ := h
 exact ⟨h0, A, c, h1.on hb, h2.below (hb.mono (by omega)), h3⟩
theorem refDone_any (D g : Nat) (f : Bool) (r : List Int) (w : World) (hs : RR w D g f r) : Calls Tryz.prog 65 #[.pointer (some ⟨g, 0, none⟩)] w fun e w' => e = .returned (.bool (!f && decide (r = []))) ∧ w' = w := by
 obtain ⟨_, A, c, hblk, _⟩ := hs
 have c0 := hblk.cell 0
 have c1 := hblk.cell 1
 clear hblk
 cases f with
 | true =>
   go_enter Tryz.func65, Tryz.ntmps65
   go_wp2
   go_ret
   exact ⟨rfl, rfl⟩
 | false =>
   cases r with
   | nil =>
     go_enter Tryz.func65, Tryz.ntmps65
     go_wp2
     go_ret
     exact ⟨rfl, rfl⟩
   | cons x t =>
     have hd : (((x :: t).length : Int) == 0) = false := by simp; omega
     generalize hl : (x :: t).length = n at *
     go_enter Tryz.func65, Tryz.ntmps65
     go_wp2
     go_ret
     exact ⟨by simp, rfl⟩
theorem RR.bad {W : World} {D g : Nat} {f : Bool} {r : List Int} (h : RR W D g f r) : RR (W.setCell ⟨g, 1, none⟩ (.bool true)) D g true r := by
 have hlt := h.lt
 obtain ⟨h0, A, c, h1, h2, h3⟩ := h
 exact ⟨h0, A, c, by simpa using h1.set_ 1 (.bool true), h2.gr (blk_set_grown W g 1 _) h0 (by omega), h3⟩
theorem take_done {w : World} {D g b off n c m : Nat} {v0 : Value} {r : List Int} (hk : Blk w g 107 #[v0, .bool false]) (hD : D ≤ g) (hr : Rd w D (some ⟨b, off, none⟩) r) (hb : b < D) (hby : Byt r) (hn : r.length = n) (hc : n ≤ c) (hcm : c ≤ 9223372036854775807) (hl : n ≤ 100000000) :
   RR ((w.drewN m).setCell ⟨g, 0, none⟩ (.slice (some ⟨b, off, none⟩) n c)) D g false r ∧ w.grownBy ((w.drewN m).setCell ⟨g, 0, none⟩ (.slice (some ⟨b, off, none⟩) n c)) (some g) := by
 subst hn
 have hlt := hk.lt
 have hr' : Rd (w.drewN m) D (some ⟨b, off, none⟩) r := hr
 refine ⟨⟨hD, _, c, by simpa using (hk.drewN m).set_ 0 (.slice (some ⟨b, off, none⟩) r.length c), hr'.gr (blk_set_grown (w.drewN m) g 0 _) hD (by show g ≤ w.heap.size; omega), hby, hc, hcm, hl⟩, grownBy_trans (grownBy_of (below_drewN (Below.refl _ _) m)) (blk_set_grown _ g 0 _)⟩
def TakeR (D g : Nat) (t : Option (List Int) × Bool × List Int) (w : World) (e : Ending) (w' : World) : Prop :=
 ((∃ v A1 c1, t.1 = some v ∧ e = .returned (.slice A1 v.length c1) ∧ Rd w' D A1 v ∧ Fine D A1 ∧ v.length ≤ c1 ∧ c1 ≤ 9223372036854775807) ∨ (t.1 = none ∧ e = .returned (.slice none 0 0))) ∧
   RR w' D g t.2.1 t.2.2 ∧ w.grownBy w' (some g)
set_option maxHeartbeats 4000000 in
theorem refTake_any (D g : Nat) (f : Bool) (r : List Int) (tag : Int) (w : World) (hs : RR w D g f r) :
   Calls Tryz.prog 64 #[.pointer (some ⟨g, 0, none⟩), .int .u8 tag] w (TakeR D g (tk f r tag) w) := by
 have HS := Lib.hid hs
 have hlt := hs.lt
 have HB : Hid (∀ m, RR ((w.drewN m).setCell ⟨g, 1, none⟩ (.bool true)) D g true r ∧ w.grownBy ((w.drewN m).setCell ⟨g, 1, none⟩ (.bool true)) (some g)) := Lib.hid fun m =>
   ⟨(hs.on (below_drewN (Below.refl _ _) m)).bad, grownBy_trans (grownBy_of (below_drewN (Below.refl _ _) m)) (blk_set_grown _ g 1 _)⟩
 obtain ⟨hD, A, c, hblk, hr, hby, h1, h2, h3⟩ := hs
 have c0 := hblk.cell 0
 have c1 := hblk.cell 1
 have f0 := hblk.frozen 0
 have f1 := hblk.frozen 1
 have hF := Lib.hid (firstR_any A c D r w hr hby (by omega) h1 h2)
 have HK := Lib.hid (And.intro hblk (And.intro hr trivial))
 have HY := Lib.hid hby
 clear hblk hr hby
 unfold TakeR
 cases f with
 | true =>
   have ht : tk true r tag = (none, (true, r)) := by simp [tk]
   rw [ht]
   clear ht
   go_enter Tryz.func64, Tryz.ntmps64
   go_wp2_with fail
   refine hF.out.mono ?_
   rintro e w1 ⟨⟨m, rfl⟩, (⟨hn, rfl⟩ | ⟨hy, A1, c1', rfl, hr1, hA1, hc1, hc2⟩)⟩
   · clear hn hF
     go_wp2_with fail
     go_ret
     exact ⟨.inr ⟨trivial, rfl⟩, HB.out m⟩
   · clear hy hr1 hA1 hF hc1 hc2
     generalize r.getD 0 0 = t0 at *
     generalize nv r = nn at *
     go_wp2_with fail
     go_ret
     exact ⟨.inr ⟨trivial, rfl⟩, HB.out m⟩
 | false =>
   cases hsd : stands r with
   | false =>
     have ht : tk false r tag = (none, (true, r)) := by simp [tk, hsd]
     rw [ht]
     clear ht
     go_enter Tryz.func64, Tryz.ntmps64
     go_wp2_with fail
     refine hF.out.mono ?_
     rintro e w1 ⟨⟨m, rfl⟩, (⟨hn, rfl⟩ | ⟨hy, _⟩)⟩
     rotate_left
     · rw [hsd] at hy; cases hy
     clear hn hF hsd
     go_wp2_with fail
     go_ret
     exact ⟨.inr ⟨trivial, rfl⟩, HB.out m⟩
   | true =>
     obtain ⟨p1, p2, p3, p4⟩ : 5 ≤ r.length ∧ r.getD 0 0 ≠ 0 ∧ nv r ≤ 4194304 ∧ 5 + nv r ≤ r.length := of_decide_eq_true hsd
     by_cases hq : r.getD 0 0 = tag
     · have ht : tk false r tag = (some ((r.drop 5).take (nv r)), (false, r.drop (5 + nv r))) := by unfold tk; rw [if_neg (by decide), if_pos ⟨hsd, hq⟩]
       have hlen : ((r.drop 5).take (nv r)).length = nv r := by rw [List.length_take, List.length_drop]; omega
       have hq' : (r.getD 0 0 == tag) = true := by simpa using hq
       have HL := Lib.hid hlen
       have HYd : Hid (Byt (r.drop (5 + nv r))) := Lib.hid (fun x hx => HY.out x (List.mem_of_mem_drop hx))
       have HDL : Hid ((r.drop (5 + nv r)).length = r.length - (5 + nv r)) := Lib.hid (List.length_drop ..)
       obtain ⟨b, off, rfl, hbD, _⟩ := HK.out.2.1 (by omega)
       have HR2 : Hid (∀ A', (0 < r.length - (5 + nv r) → A' = some ⟨b, off + (5 + nv r), none⟩) → Rd w D A' (r.drop (5 + nv r))) := Lib.hid fun A' h => by
         have := HK.out.2.1.part (5 + nv r) (r.length - (5 + nv r)) (A' := A') (by omega) h
         rwa [List.take_of_length_le (by rw [List.length_drop]; omega)] at this
       clear hlen HS HB
       generalize (r.drop 5).take (nv r) = bs at *
       generalize hr' : r.drop (5 + nv r) = r' at *
       rw [ht]
       clear ht
       generalize nv r = nn at *
       generalize r.getD 0 0 = t0 at *
       subst hq
       clear hr'
       have hn0 : ((5 : Int) + (nn : Int) == 0) = false := by simp; omega
       by_cases hnc : 5 + nn < c
       · go_enter Tryz.func64, Tryz.ntmps64
         go_wp2_with fail
         refine hF.out.mono ?_
         clear hF
         rintro e w1 ⟨⟨m, rfl⟩, (⟨hn, _⟩ | ⟨hy, A1, c1', rfl, hr1, hA1, hc1, hc2⟩)⟩
         · rw [hsd] at hn; cases hn
         have HT := Lib.hid (And.intro hr1 (And.intro hA1 (And.intro hc1 hc2)))
         clear hr1 hA1 hc1 hc2 hy hsd
         go_wp2_with fail
         go_ret
         have hv' : Rd (w.drewN m) D A1 bs := HT.out.1
         exact ⟨.inl ⟨bs, A1, c1', rfl, by rw [HL.out]; rfl, hv'.gr (blk_set_grown (w.drewN m) g 0 _) hD (by show g ≤ w.heap.size; omega), HT.out.2.1, by rw [HL.out]; exact HT.out.2.2.1, by have := HT.out.2.2.2; omega⟩, take_done HK.out.1 hD (HR2.out _ (fun _ => rfl)) hbD HYd.out (by rw [HDL.out]) (by omega) (by omega) (by omega)⟩
       · obtain rfl : c = 5 + nn := by omega
         have hrl : r.length = 5 + nn := by omega
         rw [hrl] at *
         go_enter Tryz.func64, Tryz.ntmps64
         go_wp2_with fail
         refine hF.out.mono ?_
         clear hF
         rintro e w1 ⟨⟨m, rfl⟩, (⟨hn, _⟩ | ⟨hy, A1, c1', rfl, hr1, hA1, hc1, hc2⟩)⟩
         · rw [hsd] at hn; cases hn
         have HT := Lib.hid (And.intro hr1 (And.intro hA1 (And.intro hc1 hc2)))
         clear hr1 hA1 hc1 hc2 hy hsd
         go_wp2_with fail
         go_ret
         have hv' : Rd (w.drewN m) D A1 bs := HT.out.1
         exact ⟨.inl ⟨bs, A1, c1', rfl, by rw [HL.out]; rfl, hv'.gr (blk_set_grown (w.drewN m) g 0 _) hD (by show g ≤ w.heap.size; omega), HT.out.2.1, by rw [HL.out]; exact HT.out.2.2.1, by have := HT.out.2.2.2; omega⟩, take_done HK.out.1 hD (HR2.out _ (fun h => by omega)) hbD HYd.out (by rw [HDL.out]; omega) (by omega) (by omega) (by omega)⟩
     · have ht : tk false r tag = (none, (true, r)) := by unfold tk; rw [if_neg (by decide), if_neg (fun h => hq h.2)]
       rw [ht]
       have hq' : (r.getD 0 0 != tag) = true := by simpa using hq
       clear hq ht
       go_enter Tryz.func64, Tryz.ntmps64
       go_wp2_with fail
       refine hF.out.mono ?_
       clear hF
       rintro e w1 ⟨⟨m, rfl⟩, (⟨hn, _⟩ | ⟨hy, A1, c1', rfl, hr1, hA1, hc1, hc2⟩)⟩
       · rw [hsd] at hn; cases hn
       clear hr1 hA1 hy hsd
       generalize r.getD 0 0 = t0 at *
       generalize nv r = nn at *
       go_wp2_with fail
       go_ret
       exact ⟨.inr ⟨trivial, rfl⟩, HB.out m⟩
end Go.Proofs.YtcjiofhjognklaaGreat.Tlv
