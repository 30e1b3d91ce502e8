/- The reference's reader: a text, a list. -/
import Derived.Test.YtcjiofhjognklaaGreatY26
import Derived.Test.YtcjiofhjognklaaGreatY03
namespace Go.Proofs.YtcjiofhjognklaaGreat.Tlv
open Go.RowKit
set_option maxRecDepth 100000
set_option linter.unusedVariables false
set_option linter.unusedSimpArgs false
theorem refText_any (D g : Nat) (f : Bool) (r : List Int) (tag : Int) (w : World) (hs : RR w D g f r) :
   Calls Tryz.prog 61 #[.pointer (some ⟨g, 0, none⟩), .int .u8 tag] w fun e w' => e = .returned (.string (mkS (((tk f r tag).1).getD []))) ∧ RR w' D g (tk f r tag).2.1 (tk f r tag).2.2 ∧ w.grownBy w' (some g) := by
 have ht := Lib.hid (refTake_any D g f r tag w hs)
 generalize tk f r tag = t at *
 obtain ⟨v0, f0, r0⟩ := t
 clear hs
 go_enter Tryz.func61, Tryz.ntmps61
 go_wp2_with fail
 refine ht.out.mono ?_
 clear ht
 rintro e w1 ⟨h, hrs, hg⟩
 have HRS := Lib.hid (And.intro hrs hg)
 clear hrs hg
 rcases h with ⟨v, A1, c1, rfl, rfl, hr, ⟨b, off, rfl, _⟩, hc1, hc2⟩ | ⟨rfl, rfl⟩
 · have hcv := conv_of w1 (some ⟨b, off, none⟩) c1 D v hr (.inl rfl)
   clear hr
   go_wp2_with fail
   go_ret
   exact ⟨rfl, HRS.out⟩
 · have hcv : (convert 25 9 (.slice none 0 0)).run Tryz.prog w1 = .ok (.string (mkS [])) w1 := conv_of w1 none 0 0 [] Rd.nil (.inr rfl)
   go_wp2_with fail
   go_ret
   exact ⟨rfl, HRS.out⟩
def GoodH (w : World) (B : Nat) (hs : List Hand) : Prop := ∀ x ∈ hs, Rd w B x.A x.bs ∧ Fine B x.A ∧ x.bs.length ≤ x.c ∧ x.c ≤ 9223372036854775807 ∧ Byt x.bs
theorem GoodH.below {w w' : World} {B : Nat} {hs : List Hand} (h : GoodH w B hs) (hb : Below B w w') : GoodH w' B hs := fun x hx => ⟨(h x hx).1.below hb, (h x hx).2⟩
theorem GoodH.more {w : World} {B B' : Nat} {hs : List Hand} (h : GoodH w B hs) (hb : B ≤ B') : GoodH w B' hs := fun x hx => by
 obtain ⟨h1, ⟨b, off, e, hl⟩, h3⟩ := h x hx
 exact ⟨h1.more hb, ⟨b, off, e, by omega⟩, h3⟩
set_option maxHeartbeats 4000000 in
theorem bookR_some (b off c : Nat) (l : List Int) (w : World) (hr : Rd w w.heap.size (some ⟨b, off, none⟩) l) (hby : Byt l) (hlen : l.length ≤ 1000000) (hc : l.length ≤ c) (hcm : c ≤ 9223372036854775807) (hb : b < w.heap.size) :
   Calls Tryz.prog 119 #[.slice (some ⟨b, off, none⟩) l.length c] w fun e w' => ∃ (v : Value) (hs : List Hand) (k : Nat), e = .returned (.tuple #[v, .int .i64 k]) ∧ k = endP l ∧ hs.map Hand.it = items l ∧ RowK kI w' w.heap.size v hs ∧ GoodH w' w.heap.size hs ∧ Below w.heap.size w w' := by
 go_enter Tryz.func119, Tryz.ntmps119
 have HR := Lib.hid hr
 clear hr
 go_wp2
 go_loopw [4, 5] (fun i j wr => ∃ (k : Nat) (hs : List Hand), j = .int .i64 k ∧ k ≤ l.length ∧ hs.length ≤ k ∧ RowK kI wr w.heap.size i hs ∧ (items l = hs.map Hand.it ++ items (l.drop k) ∧ endP l = k + endP (l.drop k)) ∧ GoodH wr w.heap.size hs ∧ Below w.heap.size w wr)
   (fun _ j _ => l.length - (intOf j).toNat)
 case atStart => exact ⟨0, [], rfl, Nat.zero_le _, Nat.le_refl _, nil_row _ _ _, ⟨by simp, by simp⟩, fun x hx => by simp at hx, Below.refl _ _⟩
 case round =>
   obtain ⟨k, hs, rfl, hk, hhs, hrow, hit, hgood, hb⟩ := hrel
   have hbw := hb.size
   have hlr : (l.drop k).length = l.length - k := List.length_drop ..
   rcases Nat.lt_or_ge k c with hkc | hkc
   · have hrd : Rd wr w.heap.size (some ⟨b, off + k, none⟩) (l.drop k) := by
       have := (HR.out.below hb).part k (l.length - k) (A' := some ⟨b, off + k, none⟩) (by omega) (fun _ => rfl)
       rwa [List.take_of_length_le (by omega)] at this
     have HF := firstR_any (some ⟨b, off + k, none⟩) (c - k) w.heap.size (l.drop k) wr hrd (hby.drop k) (by omega) (by omega) (by omega)
     rw [hlr] at HF
     have HF := Lib.hid HF
     clear hrd
     go_wp2_with fail
     refine HF.out.mono ?_
     clear HF
     rintro e w1 ⟨⟨m, rfl⟩, (⟨hst, rfl⟩ | ⟨hst, A1, c1, rfl, hr1, hA1, hc1, hc2⟩)⟩
     · have HL := Lib.hid (items_no hst)
       have HE := Lib.hid (endP_no hst)
       have HI := Lib.hid hit
       clear hst hit hlr
       go_wp2_with fail
       go_ret2
       exact ⟨_, hs, k, rfl, by rw [HI.out.2, HE.out, Nat.add_zero], by rw [HI.out.1, HL.out, List.append_nil], hrow.drewN m, hgood.below (below_drewN (Below.refl _ _) m), below_drewN hb m⟩
     · obtain ⟨p1, p2, p3, p4⟩ := stands_parts hst
       have hlen' : (((l.drop k).drop 5).take (nv (l.drop k))).length = nv (l.drop k) := by rw [List.length_take, List.length_drop]; omega
       have hbt : Byt (((l.drop k).drop 5).take (nv (l.drop k))) := fun x hx => hby x (List.mem_of_mem_drop (List.mem_of_mem_drop (List.mem_of_mem_take hx)))
       have HEE : Hid (endP l = k + (5 + nv (l.drop k)) + endP (l.drop (k + (5 + nv (l.drop k))))) := Lib.hid (hit.2.trans (by rw [endP_yes hst, List.drop_drop, ← Nat.add_assoc]))
       have HX := Lib.hid (step_items hit.1 hst ⟨(l.drop k).getD 0 0, A1, c1, ((l.drop k).drop 5).take (nv (l.drop k))⟩ rfl rfl).1
       rw [hlr] at p1 p4
       clear hit hst p2
       generalize (l.drop k).getD 0 0 = t at *
       generalize ((l.drop k).drop 5).take (nv (l.drop k)) = bs at *
       generalize nv (l.drop k) = nb at *
       clear hlr
       rw [List.drop_drop] at HX
       subst hlen'
       have hbz : w.heap.size ≤ (wr.drewN m).heap.size := hbw
       have hrow1 := hrow.drewN m
       have hb1 : Below w.heap.size w (wr.drewN m) := below_drewN hb m
       have hg1 : GoodH (wr.drewN m) w.heap.size hs := hgood.below (below_drewN (Below.refl _ _) m)
       have hgx : GoodH (wr.drewN m) w.heap.size [⟨t, A1, c1, bs⟩] := fun x hx => by
         obtain rfl := List.mem_singleton.1 hx
         exact ⟨hr1.drewN m, hA1, hc1, (show c1 ≤ 9223372036854775807 by omega), hbt⟩
       have hlen1 : hs.length + 1 ≤ 1000000000 := by omega
       have H := Lib.hid (And.intro hrow1 (And.intro hb1 (And.intro hg1 hgx)))
       clear hrow1 hb1 hg1 hgx hr1 hgood hb hrow hbt hA1 hc1 hc2
       generalize wr.drewN m = w1 at *
       have hz : ¬ (5 + (bs.length : Int) = 0) := by omega
       go_wp2_with (at_builtin; refine wpList_appK kI rfl _ _ rfl [⟨t, A1, c1, bs⟩] rfl (H.out.1.alloc _) rfl (rd_block (K := kI) (l := [⟨t, A1, c1, bs⟩]) (Blk.new _ _ _) rfl) (fun e => by cases e) hlen1 (le_alloc hbz) ?_; intro v8 w8 hrow8 hgr8; have Hrow8 := Lib.hid (And.intro hrow8 hgr8); clear hrow8 hgr8)
       go_roundw
       case rel =>
         have hgr := Hrow8.out.2
         have hb8 : Below w.heap.size w1 w8 := ((Below.refl _ _).alloc hbz _).grown hgr (le_alloc hbz) (fun kk hk => (World.ownsRow.lt H.out.1 kk hk).1)
         refine ⟨k + (5 + bs.length), hs ++ [⟨t, A1, c1, bs⟩], by go_num, by omega, by simp; omega, Hrow8.out.1, ⟨HX.out, HEE.out⟩, ?_, H.out.2.1.trans hb8⟩
         intro x hx
         rcases List.mem_append.1 hx with h | h
         · exact ((H.out.2.2.1).below hb8) x h
         · exact ((H.out.2.2.2).below hb8) x h
       case measure => simp [intOf]; omega
   · have hkl : k = l.length := by omega
     have HF := (fst_short (some ⟨b, off, none⟩) 0 [] wr (by simp))
     have hc0 : c = l.length := by omega
     subst hkl
     subst hc0
     have HI2 : Hid (l.length = endP l) := Lib.hid (by rw [hit.2, List.drop_length, endP_no (l := []) rfl]; rfl)
     have HI : Hid (items l = hs.map Hand.it) := Lib.hid (by rw [hit.1, List.drop_length, items_no (l := []) rfl, List.append_nil])
     have HF := Lib.hid HF
     clear hit hlr
     go_wp2_with fail
     refine Calls.mono (HF.out) ?_
     rintro e w1 ⟨rfl, m, rfl⟩
     go_wp2_with fail
     go_ret2
     exact ⟨_, hs, l.length, rfl, HI2.out, HI.out.symm, hrow.drewN m, hgood.below (below_drewN (Below.refl _ _) m), below_drewN hb m⟩
set_option maxHeartbeats 4000000 in
theorem bookR_none (w : World) :
   Calls Tryz.prog 119 #[.slice none 0 0] w fun e w' => ∃ (v : Value) (hs : List Hand) (k : Nat), e = .returned (.tuple #[v, .int .i64 k]) ∧ k = endP [] ∧ hs.map Hand.it = items [] ∧ RowK kI w' w.heap.size v hs ∧ GoodH w' w.heap.size hs ∧ Below w.heap.size w w' := by
 go_enter Tryz.func119, Tryz.ntmps119
 go_wp2
 go_loopw [4, 5] (fun i j wr => i = .slice none 0 0 ∧ j = .int .i64 0 ∧ wr = w) (fun _ _ _ => 0)
 case atStart => exact ⟨rfl, rfl, rfl⟩
 case round =>
   obtain ⟨rfl, rfl, rfl⟩ := hrel
   have HF := Lib.hid (fst_short none 0 [] wr (by simp))
   go_wp2_with fail
   refine Calls.mono (HF.out) ?_
   rintro e w1 ⟨rfl, m, rfl⟩
   go_wp2_with fail
   go_ret2
   exact ⟨_, [], 0, rfl, by rw [endP_no (l := []) rfl], by rw [items_no (l := []) rfl]; rfl, nil_row _ _ _, fun x hx => by simp at hx, below_drewN (Below.refl _ _) m⟩
theorem bookR_any (A : Option Addr) (c : Nat) (l : List Int) (w : World) (hr : Rd w w.heap.size A l) (hA : A = none → c = 0) (hA2 : ∀ a, A = some a → ∃ b off, a = ⟨b, off, none⟩ ∧ b < w.heap.size) (hby : Byt l) (hlen : l.length ≤ 1000000) (hc : l.length ≤ c) (hcm : c ≤ 9223372036854775807) :
   Calls Tryz.prog 119 #[.slice A l.length c] w fun e w' => ∃ (v : Value) (hs : List Hand) (k : Nat), e = .returned (.tuple #[v, .int .i64 k]) ∧ k = endP l ∧ hs.map Hand.it = items l ∧ RowK kI w' w.heap.size v hs ∧ GoodH w' w.heap.size hs ∧ Below w.heap.size w w' := by
 cases A with
 | none =>
   have h0 := hA rfl
   subst h0
   obtain rfl : l = [] := List.eq_nil_of_length_eq_zero (by omega)
   exact bookR_none w
 | some a =>
   obtain ⟨b, off, rfl, hb⟩ := hA2 a rfl
   exact bookR_some b off c l w hr hby hlen hc hcm hb
end Go.Proofs.YtcjiofhjognklaaGreat.Tlv
