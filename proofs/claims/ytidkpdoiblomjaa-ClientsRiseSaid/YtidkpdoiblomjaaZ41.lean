/- A result's bytes, by the document. -/
import Derived.Test.YtidkpdoiblomjaaZ40
import Derived.Test.YtidkpdoiblomjaaZ33
namespace Go.Proofs.Ytidkpdoiblomjaa.Tlv
open Go.RowKit Go.Lib Go.Sort
set_option maxRecDepth 100000
set_option linter.unusedVariables false
set_option linter.unusedSimpArgs false
theorem take_snocY (l : List Eny) (k : Nat) (h : k < l.length) : l.take (k + 1) = l.take k ++ [l.getD k default] := by
 rw [List.take_add_one, List.getD_eq_getElem?_getD, List.getElem?_eq_getElem h]
 rfl
abbrev res0 (k : Int) : Res := ⟨k, false, [], []⟩
theorem res0_at (k : Int) (W : World) : ResAt W (res0 k) (.slice none 0 0) (.slice none 0 0) := ⟨RdE.nil W, ⟨none, 0, rfl, ⟨fun _ => rfl, Nat.le_refl _, Nat.zero_le _⟩, fun h => by simp at h⟩⟩
theorem res0_lim (k : Int) : LimR (res0 k) := ⟨⟨Nat.zero_le _, fun e h => by simp at h, fun e h => by simp at h, fun e h => by simp at h⟩, Nat.zero_le _, fun x h => by simp at h⟩
def RfOut (r : Res) (w : World) (e : Ending) (w' : World) : Prop :=
 (mayR r = true ∧ ∃ A m k, e = .returned (.tuple #[.slice A m k, .bool true]) ∧ m = (resB r).length ∧ Row w' w.heap.size (.slice A m k) (resB r) ∧ Below w.heap.size w w') ∨
 (mayR r = false ∧ e = .returned (.tuple #[.slice none 0 0, .bool false]) ∧ Below w.heap.size w w')
theorem sameR0 (r : Res) (hy : r.y = false) (he : r.es.length = 0) (hc : r.cur.length = 0) : sameR r (res0 r.k) = true := by
 obtain ⟨k, y, es, c⟩ := r
 dsimp only at hy he hc
 obtain rfl := List.eq_nil_of_length_eq_zero he
 obtain rfl := List.eq_nil_of_length_eq_zero hc
 subst hy
 simp [sameR, res0]
theorem sameR1 (r : Res) (h : sameR r (res0 r.k) = true) : r.y = false ∧ r.es.length = 0 ∧ r.cur.length = 0 := by
 unfold sameR res0 at h
 simp only [Bool.and_eq_true, decide_eq_true_eq] at h
 obtain ⟨_, h1, h2, h3⟩ := h
 exact ⟨h1, by rw [h2]; rfl, by rw [h3]; rfl⟩
set_option maxHeartbeats 4000000 in
theorem rfR0 (r : Res) (ve vc : Value) (w : World) (ha : ResAt w r ve vc) (hl : LimR r) (h0 : r.k < 0) : Calls Try.prog 15 #[rsVal r.k r.y ve vc] w fun e w' => e = .returned (.tuple #[.slice none 0 0, .bool false]) ∧ Below w.heap.size w w' := by
 obtain ⟨es, Aa, ca, na, rfl, HNa, HRa⟩ := ha.e.full
 obtain ⟨Ac, cc, nc, rfl, HNc, HRc⟩ := ha.c.full
 have hb : Below w.heap.size w (w.alloc (.cells (rsCs r.k r.y (.slice Aa na ca) (.slice Ac nc cc)) 39)) := (Below.refl _ _).alloc (Nat.le_refl _) _
 obtain ⟨a0, a1, a2, a3⟩ := rs_cells (Blk.new w 39 (rsCs r.k r.y (.slice Aa na ca) (.slice Ac nc cc)))
 have e0 : r.k < (0 : Int) := h0
 have HB := Lib.hid hb
 clear hb ha
 go_enter Try.func15, Try.ntmps15
 go_wp2
 go_ret2
 exact ⟨rfl, HB.out⟩
set_option maxHeartbeats 4000000 in
theorem rfR1 (r : Res) (ve vc : Value) (w : World) (ha : ResAt w r ve vc) (hl : LimR r) (h0 : 0 ≤ r.k) (h1 : 14 < r.k) : Calls Try.prog 15 #[rsVal r.k r.y ve vc] w fun e w' => e = .returned (.tuple #[.slice none 0 0, .bool false]) ∧ Below w.heap.size w w' := by
 obtain ⟨es, Aa, ca, na, rfl, HNa, HRa⟩ := ha.e.full
 obtain ⟨Ac, cc, nc, rfl, HNc, HRc⟩ := ha.c.full
 have hb : Below w.heap.size w (w.alloc (.cells (rsCs r.k r.y (.slice Aa na ca) (.slice Ac nc cc)) 39)) := (Below.refl _ _).alloc (Nat.le_refl _) _
 obtain ⟨a0, a1, a2, a3⟩ := rs_cells (Blk.new w 39 (rsCs r.k r.y (.slice Aa na ca) (.slice Ac nc cc)))
 have e0 : ¬ r.k < (0 : Int) := by omega
 have e1 : (14 : Int) < r.k := h1
 have HB := Lib.hid hb
 clear hb ha
 go_enter Try.func15, Try.ntmps15
 go_wp2
 go_ret2
 exact ⟨rfl, HB.out⟩
set_option maxHeartbeats 4000000 in
theorem rfR2 (r : Res) (ve vc : Value) (w : World) (ha : ResAt w r ve vc) (hl : LimR r) (h0 : 0 ≤ r.k) (h1 : r.k ≤ 14) (h2 : 1000 < r.es.length) : Calls Try.prog 15 #[rsVal r.k r.y ve vc] w fun e w' => e = .returned (.tuple #[.slice none 0 0, .bool false]) ∧ Below w.heap.size w w' := by
 obtain ⟨es, Aa, ca, na, rfl, HNa, HRa⟩ := ha.e.full
 obtain ⟨Ac, cc, nc, rfl, HNc, HRc⟩ := ha.c.full
 have hb : Below w.heap.size w (w.alloc (.cells (rsCs r.k r.y (.slice Aa na ca) (.slice Ac nc cc)) 39)) := (Below.refl _ _).alloc (Nat.le_refl _) _
 obtain ⟨a0, a1, a2, a3⟩ := rs_cells (Blk.new w 39 (rsCs r.k r.y (.slice Aa na ca) (.slice Ac nc cc)))
 have e0 : ¬ r.k < (0 : Int) := by omega
 have e1 : ¬ (14 : Int) < r.k := by omega
 have e2 : (1000 : Int) < (na : Int) := by have := HNa.out.2; omega
 have HB := Lib.hid hb
 clear hb ha
 go_enter Try.func15, Try.ntmps15
 go_wp2
 go_ret2
 exact ⟨rfl, HB.out⟩
set_option maxHeartbeats 4000000 in
theorem rfR3 (r : Res) (ve vc : Value) (w : World) (ha : ResAt w r ve vc) (hl : LimR r) (h0 : 0 ≤ r.k) (h1 : r.k ≤ 14) (h2 : r.es.length ≤ 1000) (h3 : 4000 < r.cur.length) : Calls Try.prog 15 #[rsVal r.k r.y ve vc] w fun e w' => e = .returned (.tuple #[.slice none 0 0, .bool false]) ∧ Below w.heap.size w w' := by
 obtain ⟨es, Aa, ca, na, rfl, HNa, HRa⟩ := ha.e.full
 obtain ⟨Ac, cc, nc, rfl, HNc, HRc⟩ := ha.c.full
 have hb : Below w.heap.size w (w.alloc (.cells (rsCs r.k r.y (.slice Aa na ca) (.slice Ac nc cc)) 39)) := (Below.refl _ _).alloc (Nat.le_refl _) _
 obtain ⟨a0, a1, a2, a3⟩ := rs_cells (Blk.new w 39 (rsCs r.k r.y (.slice Aa na ca) (.slice Ac nc cc)))
 have e0 : ¬ r.k < (0 : Int) := by omega
 have e1 : ¬ (14 : Int) < r.k := by omega
 have e2 : ¬ (1000 : Int) < (na : Int) := by have := HNa.out.2; omega
 have e3 : (4000 : Int) < (nc : Int) := by have := HNc.out; omega
 have HB := Lib.hid hb
 clear hb ha
 go_enter Try.func15, Try.ntmps15
 go_wp2
 go_ret2
 exact ⟨rfl, HB.out⟩
set_option maxHeartbeats 4000000 in
theorem rfR4 (r : Res) (ve vc : Value) (w : World) (ha : ResAt w r ve vc) (hl : LimR r) (h0 : 0 < r.k) (h1 : r.k ≤ 14) (h2 : r.es.length ≤ 1000) (h3 : r.cur.length ≤ 4000) (h4 : sameR r (res0 r.k) = false) : Calls Try.prog 15 #[rsVal r.k r.y ve vc] w fun e w' => e = .returned (.tuple #[.slice none 0 0, .bool false]) ∧ Below w.heap.size w w' := by
 obtain ⟨es, Aa, ca, na, rfl, HNa, HRa⟩ := ha.e.full
 obtain ⟨Ac, cc, nc, rfl, HNc, HRc⟩ := ha.c.full
 have hb : Below w.heap.size w (w.alloc (.cells (rsCs r.k r.y (.slice Aa na ca) (.slice Ac nc cc)) 39)) := (Below.refl _ _).alloc (Nat.le_refl _) _
 obtain ⟨a0, a1, a2, a3⟩ := rs_cells (Blk.new w 39 (rsCs r.k r.y (.slice Aa na ca) (.slice Ac nc cc)))
 have e0 : ¬ r.k < (0 : Int) := by omega
 have e1 : ¬ (14 : Int) < r.k := by omega
 have e2 : ¬ (1000 : Int) < (na : Int) := by have := HNa.out.2; omega
 have e3 : ¬ (4000 : Int) < (nc : Int) := by have := HNc.out; omega
 have e4 : (0 : Int) < r.k := h0
 have hM := sameResR_any r (res0 r.k) _ _ _ _ _ (ha.on hb) (res0_at r.k _) hl (res0_lim r.k)
 rw [h4] at hM
 have HM := Lib.hid hM
 have HB := Lib.hid hb
 clear hb hM ha hl h4
 go_enter Try.func15, Try.ntmps15
 go_wp2_with (go_at_call 21; (with_reducible refine HM.out.mono ?_); rintro e wx ⟨rfl, hbx⟩)
 go_ret2
 exact ⟨rfl, HB.out.trans (hbx.mono HB.out.size)⟩
set_option maxHeartbeats 32000000 in
theorem refResBytes_yes (r : Res) (ve vc : Value) (w : World) (ha : ResAt w r ve vc) (hl : LimR r) (hf : Fit r) (hm : mayF r.k r.y r.es.length r.cur.length = true) : Calls Try.prog 15 #[rsVal r.k r.y ve vc] w (RfOut r w) := by
 obtain ⟨hk, hk0, hk14, hne, hnc⟩ := mayF_iff.1 hm
 have HA := Lib.hid fun (W : World) (h : Below w.heap.size w W) => ha.on h
 have HL := Lib.hid (And.intro hl (And.intro hf hm))
 obtain ⟨es, Aa, ca, na, rfl, HNa, HRa⟩ := ha.e.full
 obtain ⟨Ac, cc, nc, rfl, HNc, HRc⟩ := ha.c.full
 have hb1 := (Below.refl w.heap.size w).alloc (Nat.le_refl _) (.cells (rsCs r.k r.y (.slice Aa na ca) (.slice Ac nc cc)) 39)
 have k0 := Blk.new w 39 (rsCs r.k r.y (.slice Aa na ca) (.slice Ac nc cc))
 obtain ⟨B1, hB1⟩ : ∃ b, b = w.heap.size := ⟨_, rfl⟩
 have H0 := Lib.hid (And.intro hb1 (show Blk _ B1 39 _ from hB1 ▸ k0))
 have hn : na ≤ 1000 := by have := HNa.out.2; omega
 have HK := Lib.hid (And.intro hk0 (And.intro hk14 hnc))
 have e0 : ¬ r.k < (0 : Int) := by omega
 have e1 : ¬ (14 : Int) < r.k := by omega
 have e2 : ¬ (1000 : Int) < (na : Int) := by omega
 have e3 : ¬ (4000 : Int) < (nc : Int) := by have := HNc.out; omega
 have HS : Hid (0 < r.k → sameR r (res0 r.k) = true) := Lib.hid fun h => by
   rcases hk with h1 | ⟨h1, h2, h3⟩
   · omega
   · exact sameR0 r h1 h2 h3
 clear hb1 k0 ha hl hf hm hk0 hk14 hne hnc hk
 go_enter Try.func15, Try.ntmps15
 go_upto_region 1 with fail
 rw [← hB1]
 generalize w.alloc (.cells (rsCs r.k r.y (.slice Aa na ca) (.slice Ac nc cc)) 39) = W0 at H0 ⊢
 clear hB1
 obtain ⟨a0, a1, a2, a3⟩ := rs_cells H0.out.2
 by_cases hpos : (0 : Int) < r.k
 focus
   have HM : Hid (Calls Try.prog 21 #[rsVal r.k r.y (.slice Aa na ca) (.slice Ac nc cc), rsVal r.k false (.slice none 0 0) (.slice none 0 0)] W0 fun e w' => e = .returned (.bool true) ∧ Below W0.heap.size W0 w') := Lib.hid (by
     have h := sameResR_any r (res0 r.k) _ _ _ _ W0 (HA.out W0 H0.out.1) (res0_at r.k _) HL.out.1 (res0_lim r.k)
     rw [HS.out hpos] at h
     exact h)
   go_upto_region 5 with (go_at_call 21; (with_reducible refine HM.out.mono ?_); clear HM a0 a1 a2 a3; rintro e w1 ⟨rfl, hb1⟩; dsimp only; have H1 := Lib.hid (And.intro (H0.out.1.trans (hb1.mono H0.out.1.size)) (H0.out.2.on hb1)); clear hb1)
   clear H0
 rotate_left
 focus
   go_upto_region 5 with fail
   clear a0 a1 a2 a3
   have H1 := H0
   clear H0
   generalize W0 = w1 at H1 ⊢
 all_goals
   clear hpos e0 e1 e2 e3
   go_loopw [4, 5] (fun s4 s5 wr => ∃ k : Nat, s5 = .int .i64 k ∧ k ≤ na ∧ Hid (∃ hs, RowK kS wr w1.heap.size s4 hs ∧ HOk wr w1.heap.size hs (r.es.take k) (r.es.take k).length ∧ Below w1.heap.size w1 wr)) (fun _ s5 _ => na - (intOf s5).toNat)
   case atStart => exact ⟨0, rfl, Nat.zero_le _, Lib.hid ⟨[], nil_row kS _ _, ⟨rfl, fun j hj => absurd hj (Nat.not_lt_zero _)⟩, Below.refl _ _⟩⟩
   case round =>
     obtain ⟨k, rfl, hk, HH⟩ := hrel
     obtain ⟨hs, HF1, HF2, HF3⟩ := HH.out
     have HF := Lib.hid (And.intro HF1 (And.intro HF2 HF3))
     clear HF1 HF2 HF3 HH
     have HWW := Lib.hid (H1.out.1.trans (HF.out.2.2.mono H1.out.1.size))
     obtain ⟨a0, a1, a2, a3⟩ := rs_cells (H1.out.2.on HF.out.2.2)
     by_cases hlt : k < na
     · have hka : k < r.es.length := by have := HNa.out.2; omega
       have hke : k < es.length := by have := HNa.out.1; omega
       obtain ⟨c1, o1, rfl, hl1, c0, c0'⟩ := en_cells HRa.out.1 HWW.out hke
       obtain ⟨m1, m2⟩ := HRa.out.2.2 k hke
       have HLE := Lib.hid (And.intro (HL.out.1.e.nm _ (mem_getE hka)) (And.intro (HL.out.1.e.la _ (mem_getE hka)) (HL.out.1.e.sa _ (mem_getE hka))))
       have HTS := Lib.hid (take_snocY r.es k hka)
       have HMEM := Lib.hid (mem_getE hka)
       have HFL : Hid (hs.length ≤ 1000) := Lib.hid (by have h1 := HF.out.2.1.1; rw [List.length_take] at h1; omega)
       generalize es.getD k default = x at c0 c0' m1 m2
       generalize r.es.getD k default = y at m1 m2 HLE HTS HMEM
       obtain ⟨xn, xA, xm, xc⟩ := x
       obtain ⟨yn, ya⟩ := y
       dsimp only [En.v] at c0 c0' m1 m2
       subst m1
       have HV := Lib.hid fun (V : World) (hV : Below w.heap.size w V) => Ytidkpdoiblomjaa.RdV.on m2 hV
       have HME := refMayEntry_any xn ya _ wr (HV.out wr HWW.out) HLE.out.1 HLE.out.2.2 HLE.out.2.1
       clear m2 hka hke
       cases hmy : mayE xn ya with
       | false =>
         rw [hmy] at HME
         have HME' := Lib.hid HME
         have HNO : Hid (mayR r = false) := Lib.hid (by
           cases h : mayR r with
           | false => rfl
           | true =>
             have := (mayR_parts h).2 _ HMEM.out
             unfold mayEn at this
             rw [hmy] at this
             cases this)
         clear HME hmy
         go_wp2_with (go_at_call 30; (with_reducible refine HME'.out.mono ?_); clear HME'; rintro e w2 ⟨rfl, hb2⟩; have H2 := Lib.hid (HWW.out.trans (hb2.mono HWW.out.size)); clear hb2)
         go_ret2
         exact .inr ⟨HNO.out, rfl, H2.out⟩
       | true =>
         rw [hmy] at HME
         have HME' := Lib.hid HME
         have HMY := Lib.hid hmy
         have HFW : Hid (FewA ya ∧ xn.length ≤ 200000) := Lib.hid (by
           obtain ⟨h1, h2⟩ := Bool.and_eq_true_iff.1 hmy
           exact ⟨few_may h2, by have := mayN_len h1; omega⟩)
         clear HME hmy
         go_wp2_with (first
           | (go_at_call 30; (with_reducible refine HME'.out.mono ?_); clear HME'; rintro e w2 ⟨rfl, hb2⟩; dsimp only; have H2 := Lib.hid (And.intro (HWW.out.trans (hb2.mono HWW.out.size)) hb2); clear hb2; obtain ⟨d1, d2, d3, hl2, d0, d0'⟩ := (show ∃ (_ : Nat) (_ : Nat) (_ : Nat), True ∧ w2.cell? ⟨c1, o1 + k * 2, none⟩ = some (.string (sx xn)) ∧ w2.cell? ⟨c1, o1 + k * 2 + 1, none⟩ = some (.slice xA xm xc) from ⟨0, 0, 0, trivial, (H2.out.2.cell (p := ⟨c1, o1 + k * 2, none⟩) (Nat.lt_of_lt_of_le hl1 HWW.out.size)).trans c0, (H2.out.2.cell (p := ⟨c1, o1 + k * 2 + 1, none⟩) (Nat.lt_of_lt_of_le hl1 HWW.out.size)).trans c0'⟩); clear c0 c0' a0 a1 a2 a3; obtain ⟨a0, a1, a2, a3⟩ := rs_cells ((H1.out.2.on HF.out.2.2).on H2.out.2); have HPK := Lib.hid (refPack_any xn ya _ w2 (HV.out w2 H2.out.1) HFW.out.1 HFW.out.2))
           | (go_at_call 31; (with_reducible refine HPK.out.mono ?_); clear HPK d0 d0'; rintro e w3 ⟨u3, rfl, hr3, hb3⟩; dsimp only; obtain ⟨A3, c3, rfl, _, _, _⟩ := rd_lowQ hr3; have H3 := Lib.hid (And.intro (row_k.2 hr3) (And.intro (H2.out.2.trans (hb3.mono H2.out.2.size)) (H2.out.1.trans (hb3.mono H2.out.1.size)))); clear hr3 hb3; obtain ⟨n3, hn3⟩ : ∃ n, n = (entB xn ya).length := ⟨_, rfl⟩; have HN3 := Lib.hid hn3; rw [← hn3] at H3 ⊢; clear hn3)
           | (at_builtin; refine wpList_appT kS (n := 1) rfl _ _ rfl [⟨0, A3, c3, entB xn ya⟩] rfl rfl ((RowK.onT HF.out.1 H3.out.2.1).alloc _) rfl (by have h := rd_oneS w3 ⟨0, A3, c3, entB xn ya⟩; dsimp only at h; rw [← HN3.out] at h; exact h) (fun h => by cases h) (by have := HFL.out; simp; omega) (by rw [World.size_alloc]; have := H3.out.2.1.size; have := HF.out.2.2.size; omega) ?_; intro v4 w4 hr4 hg4; have H4 := Lib.hid (And.intro hr4 hg4); clear hr4 hg4))
         go_roundw
         case rel => exact ⟨k + 1, by go_num, by omega, Lib.hid (by
           have ha := (Below.refl w3.heap.size w3).alloc (Nat.le_refl _) (.cells #[.slice A3 n3 c3] 37)
           have hrow := (RowK.onT HF.out.1 H3.out.2.1).alloc (.cells #[.slice A3 n3 c3] 37)
           have hx : RowK kB w3 w1.heap.size (.slice A3 (entB xn ya).length c3) (entB xn ya) := by rw [← HN3.out]; exact RowK.lowR H3.out.1 (Nat.le_trans HF.out.2.2.size H2.out.2.size)
           have e1 := HOk.snoc (HF.out.2.1.on H3.out.2.1) ⟨0, A3, c3, entB xn ya⟩ ⟨xn, ya⟩ hx rfl HMY.out
           have e2 := (e1.on ha).grow hrow H4.out.2
           have hz : w1.heap.size ≤ (w3.alloc (.cells #[.slice A3 n3 c3] 37)).heap.size := by rw [World.size_alloc]; have := H3.out.2.1.size; have := HF.out.2.2.size; omega
           exact ⟨_, H4.out.1, by rw [HTS.out]; exact e2, (HF.out.2.2.trans ((H3.out.2.1.mono HF.out.2.2.size).trans (ha.mono (by have := H3.out.2.1.size; have := HF.out.2.2.size; omega)))).trans (row_below hrow H4.out.2 hz)⟩)⟩
         case measure => simp [intOf]; omega
     · have hkn : k = na := by omega
       have HTK : Hid (r.es.take k = r.es) := Lib.hid (by rw [hkn, HNa.out.2, List.take_length])
       have hfin := HF.out
       rw [HTK.out] at hfin
       obtain ⟨A4, c4, n4, HN4, rfl, _, hrd4⟩ := hfin.1.rdn
       have hok : HOk wr w1.heap.size hs r.es r.es.length := hfin.2.1
       have hall : ∀ e ∈ r.es, mayEn e = true := fun e he => by
         obtain ⟨j, hj, e1⟩ := List.mem_iff_getElem.1 he
         have h := (hok.2 j hj).2.2
         rw [List.getD_eq_getElem?_getD, List.getElem?_eq_getElem hj] at h
         rw [← e1]
         exact h
       have HMR := Lib.hid (mayR_is HL.out.2.2 hall)
       have hEB := hands_ents hok
       have hFT := HL.out.2.1 hall
       obtain ⟨q3, hq3⟩ : ∃ q, q = valB 3 (handsB hs) := ⟨_, rfl⟩
       have hLI := list89_any 3 hs q3 A4 c4 wr hrd4 (hok.hand (Nat.le_refl _)) (by rw [hok.1, ← HNa.out.2]; omega) (by rw [hEB]; omega) hq3
       rw [← HN4.out] at hLI
       have HLI := Lib.hid hLI
       rw [hEB] at hq3
       have hl3 : q3.length ≤ 4000100 := by rw [hq3, valB_length]; omega
       have HBW := Lib.hid (H1.out.2.on HF.out.2.2)
       have HQ3 := Lib.hid (And.intro hq3 hl3)
       clear hq3 hl3
       clear hLI hfin hok hall hEB hrd4
       go_upto_region 11 with (go_at_call 32; (with_reducible refine HLI.out.mono ?_); clear HLI a0 a1 a2 a3; rintro e W5 ⟨A5, c5, rfl, hr5, hb5⟩; dsimp only; have H5 := Lib.hid (And.intro (And.intro hr5 (HWW.out.trans (hb5.mono HWW.out.size))) (HBW.out.on hb5)); clear hr5 hb5)
       clear HBW HF HTK H1
       obtain ⟨q1, hq1⟩ : ∃ q, q = numB 1 r.k := ⟨_, rfl⟩
       obtain ⟨q2, hq2⟩ : ∃ q, q = flgB 2 r.y := ⟨_, rfl⟩
       obtain ⟨q4, hq4⟩ : ∃ q, q = valB 4 r.cur := ⟨_, rfl⟩
       have hl1 : q1.length ≤ 100 := by rw [hq1]; exact num_len
       have hl2 : q2.length ≤ 100 := by rw [hq2, valB_length]; simp
       have hl4 : q4.length ≤ 5000 := by rw [hq4, valB_length]; have := HK.out.2.2; omega
       have HOP : Hid (q1 ++ q2 ++ q3 ++ q4 = resB r) := Lib.hid (by rw [hq1, hq2, HQ3.out.1, hq4]; unfold resB; simp)
       have HLN := Lib.hid (And.intro hl1 (And.intro hl2 (And.intro HQ3.out.2 hl4)))
       have HX := Lib.hid fun W (h : Below W5.heap.size W5 W) => H5.out.2.on h
       have hb9 : Below W5.heap.size W5 W5.drew := Ytidkpdoiblomjaa.below_drew (Below.refl _ _)
       have HB9 := Lib.hid hb9
       have HN1 := Lib.hid (num_out2 1 r.k q1 W5.drew HK.out.1 (by have := HK.out.2.1; omega) hq1)
       have HN2 : Hid (∀ W, Calls Try.prog 34 #[.int .u8 2, .bool r.y] W fun e w' => ∃ A' c', e = .returned (.slice A' q2.length c') ∧ Rows2 w' W.heap.size A' c' q2 ∧ Below W.heap.size W w') := Lib.hid fun W => flag_out 2 r.y q2 W hq2
       have HCU : Hid (∀ W, Below w.heap.size w W → Calls Try.prog 35 #[.int .u8 4, .slice Ac nc cc] W fun e w' => ∃ A' c', e = .returned (.slice A' q4.length c') ∧ Rows2 w' W.heap.size A' c' q4 ∧ Below W.heap.size W w') := Lib.hid fun W hW => by
         have h := val_out 4 r.cur q4 Ac cc W ((HRc.out.1.below hW).more hW.size) HRc.out.2 (by have := HK.out.2.2; omega) hq4
         rw [← HNc.out] at h
         exact h
       have x0 : W5.drew.cell? ⟨B1, 0, none⟩ = some (.int .i64 r.k) := (HX.out _ hb9).cell 0
       have x1 : W5.drew.cell? ⟨B1, 1, none⟩ = some (.bool r.y) := (HX.out _ hb9).cell 1
       have hwn : IntKind.u64.wrap r.k = r.k := IntWalk.u64_in _ ⟨HK.out.1, by have := HK.out.2.1; omega⟩
       clear hq1 hq2 hq4 hl1 hl2 hl4 hb9
       go_region_law (first
         | (go_simp; (with_reducible refine HN1.out.mono ?_); clear HN1 x0; rintro e w6 ⟨A6, c6, rfl, hr6, hb6⟩; dsimp only; have hB6 : Below W5.heap.size W5 w6 := HB9.out.trans hb6; have H6 := Lib.hid (And.intro hr6 hB6); have y1 : w6.cell? ⟨B1, 1, none⟩ = some (.bool r.y) := (HX.out _ hB6).cell 1; have HN2' := Lib.hid (HN2.out w6); clear hr6 hb6 hB6 HN2)
         | (go_simp; (with_reducible refine HN2'.out.mono ?_); clear HN2' x1 y1; rintro e w7 ⟨A7, c7, rfl, hr7, hb7⟩; dsimp only; have hB7 : Below W5.heap.size W5 w7 := H6.out.2.trans (hb7.mono H6.out.2.size); have H7 := Lib.hid (And.intro hr7 hB7); have hrow1 : RowK kB w7 W5.heap.size (.slice A6 q1.length c6) q1 := row_k.2 (Row.below (row_k.1 H6.out.1.1) hb7); have hl4 : q1.length + q2.length ≤ 1000000000 := (by have h1 := HLN.out.1; have h2 := HLN.out.2.1; omega); have hz2 := hB7.size; clear hr7 hb7 hB7)
         | (refine step_app kB (w := w7) (by rfl) _ _ (by rfl) q2 (by rfl) hrow1 (by rfl) (rd_k H7.out.1.2.1) H7.out.1.2.2 hl4 hz2 ?_; intro v8 w8 hrow8 hgr8; obtain ⟨A8, c8, n8, HN8, rfl, _, _⟩ := hrow8.rdn; have H8 := Lib.hid (And.intro hrow8 (H7.out.2.trans (row_below hrow1 hgr8 hz2))); clear hrow8 hgr8 hrow1 hl4 hz2))
       all_goals
         have hd8 : Below w8.heap.size w8 w8.drew := Ytidkpdoiblomjaa.below_drew (Below.refl _ _)
         have hB8 := H8.out.2.trans (hd8.mono H8.out.2.size)
         have H9 := Lib.hid (And.intro (RowK.drew H8.out.1) (And.intro (H5.out.1.1.on hB8) (And.intro hB8 (H5.out.1.2.trans (hB8.mono H5.out.1.2.size)))))
         have x3 : w8.drew.cell? ⟨B1, 3, none⟩ = some (.slice Ac nc cc) := (HX.out _ hB8).cell 3
         have HA := Lib.hid (HCU.out w8.drew H9.out.2.2.2)
         have hrowD := H9.out.1
         have hrdD := rd_k H9.out.2.1.2.1
         have hnilD := H9.out.2.1.2.2
         have hlD : (q1 ++ q2).length + q3.length ≤ 1000000000 := by have h := HLN.out; rw [List.length_append]; omega
         have hzD : W5.heap.size ≤ w8.drew.heap.size := hB8.size
         have HOWN : Hid (∀ g, (Value.slice A8 n8 c8).ownBlock = some g → g < w8.drew.heap.size) := Lib.hid fun g e => (own_atT H9.out.1 e).2.1
         clear hd8 hB8
         go_wp2_with fail
         go_region_law (first
           | (go_simp; (with_reducible refine HA.out.mono ?_); clear HA; rintro e w10 ⟨A10, c10, rfl, hr10, hb10⟩; dsimp only; have H10 := Lib.hid (And.intro hr10 hb10); have hrowE := RowK.onT H9.out.1 hb10; have hrdE := rd_k (H9.out.2.1.on hb10).2.1; have hzE : W5.heap.size ≤ w10.heap.size := Nat.le_trans H9.out.2.2.1.size hb10.size; have hx3 : w10.cell? ⟨B1, 3, none⟩ = some (.slice Ac nc cc) := (HX.out _ (H9.out.2.2.1.trans (hb10.mono H9.out.2.2.1.size))).cell 3; clear hr10 hb10)
           | (refine step_app kB (w := w10) (by rfl) _ _ (by rfl) q3 (by rfl) hrowE (by rfl) hrdE hnilD hlD hzE ?_; intro v11 w11 hrow11 hgr11; obtain ⟨A11, c11, n11, HN11, rfl, _, _⟩ := hrow11.rdn; have hr11 := rows2_apart H10.out.1 hrowE hgr11 HOWN.out; have hrdF := rd_k hr11.2.1; have hnilF := hr11.2.2; have hlF : (q1 ++ q2 ++ q3).length + q4.length ≤ 1000000000 := (by have h := HLN.out; rw [List.length_append, List.length_append]; omega); have hzF : W5.heap.size ≤ w11.heap.size := Nat.le_trans hzE hgr11.size; have HBF := Lib.hid ((H9.out.2.2.1.trans (H10.out.2.mono H9.out.2.2.1.size)).trans (row_below hrowE hgr11 hzE)))
           | (refine step_app kB (w := w11) (by rfl) _ _ (by rfl) q4 (by rfl) hrow11 (by rfl) hrdF hnilF hlF hzF ?_; intro v9 w9 hrow9 hgr9; have HE := Lib.hid (And.intro hrow9 (HBF.out.trans (row_below hrow11 hgr9 hzF))))
           | (refine step_app kB (w := w8.drew) (by rfl) _ _ (by rfl) q3 (by rfl) hrowD (by rfl) hrdD hnilD hlD hzD ?_; intro v12 w12 hrow12 hgr12; obtain ⟨A12, c12, n12, HN12, rfl, _, _⟩ := hrow12.rdn; have HB12 := Lib.hid (H9.out.2.2.1.trans (row_below hrowD hgr12 hzD)); have H12 := Lib.hid hrow12; have hx3 : w12.cell? ⟨B1, 3, none⟩ = some (.slice Ac nc cc) := (HX.out _ HB12.out).cell 3; have HA2 := Lib.hid (HCU.out w12 (H5.out.1.2.trans (HB12.out.mono H5.out.1.2.size))); clear hrow12 hgr12 HA)
           | (go_simp; (with_reducible refine HA2.out.mono ?_); clear HA2; rintro e w13 ⟨A13, c13, rfl, hr13, hb13⟩; dsimp only; have hrowG := RowK.onT H12.out hb13; have hrdG := rd_k hr13.2.1; have hnilG := hr13.2.2; have hlG : (q1 ++ q2 ++ q3).length + q4.length ≤ 1000000000 := (by have h := HLN.out; rw [List.length_append, List.length_append]; omega); have hzG : W5.heap.size ≤ w13.heap.size := Nat.le_trans HB12.out.size hb13.size; have HBG := Lib.hid (HB12.out.trans (hb13.mono HB12.out.size)); clear hr13 hb13)
           | (refine step_app kB (w := w13) (by rfl) _ _ (by rfl) q4 (by rfl) hrowG (by rfl) hrdG hnilG hlG hzG ?_; intro v9 w9 hrow9 hgr9; have HE := Lib.hid (And.intro hrow9 (HBG.out.trans (row_below hrowG hgr9 hzG)))))
         all_goals
           obtain ⟨A9, c9, n9, HN9, rfl, _, _⟩ := HE.out.1.rdn
           have hrr := row_k.1 HE.out.1
           rw [HOP.out] at hrr
           have HR := Lib.hid (And.intro (hrr.lowR H5.out.1.2.size) (H5.out.1.2.trans (HE.out.2.mono H5.out.1.2.size)))
           have HN : Hid (n9 = (resB r).length) := Lib.hid (by rw [← HOP.out]; exact HN9.out)
           go_wp2
           go_ret2
           exact .inl ⟨HMR.out, A9, n9, c9, rfl, HN.out, HR.out.1, HR.out.2⟩
theorem refResBytes_any (r : Res) (ve vc : Value) (w : World) (ha : ResAt w r ve vc) (hl : LimR r) (hf : Fit r) : Calls Try.prog 15 #[rsVal r.k r.y ve vc] w (RfOut r w) := by
 cases hm : mayF r.k r.y r.es.length r.cur.length with
 | true => exact refResBytes_yes r ve vc w ha hl hf hm
 | false =>
   have key : (Calls Try.prog 15 #[rsVal r.k r.y ve vc] w fun e w' => e = .returned (.tuple #[.slice none 0 0, .bool false]) ∧ Below w.heap.size w w') → Calls Try.prog 15 #[rsVal r.k r.y ve vc] w (RfOut r w) := fun h => h.mono fun e w' ⟨h1, h2⟩ => .inr ⟨by unfold mayR; rw [hm]; rfl, h1, h2⟩
   by_cases h0 : r.k < 0
   · exact key (rfR0 r ve vc w ha hl h0)
   · by_cases h1 : r.k ≤ 14
     · by_cases h2 : r.es.length ≤ 1000
       · by_cases h3 : r.cur.length ≤ 4000
         · by_cases h4 : r.k = 0
           · have : mayF r.k r.y r.es.length r.cur.length = true := mayF_iff.2 ⟨.inl h4, by omega, h1, h2, h3⟩
             rw [hm] at this
             cases this
           · refine key (rfR4 r ve vc w ha hl (by omega) h1 h2 h3 ?_)
             cases h5 : sameR r (res0 r.k) with
             | false => rfl
             | true =>
               obtain ⟨p1, p2, p3⟩ := sameR1 r h5
               have : mayF r.k r.y r.es.length r.cur.length = true := mayF_iff.2 ⟨.inr ⟨p1, p2, p3⟩, by omega, h1, h2, h3⟩
               rw [hm] at this
               cases this
         · exact key (rfR3 r ve vc w ha hl (by omega) h1 h2 (by omega))
       · exact key (rfR2 r ve vc w ha hl (by omega) h1 (by omega))
     · exact key (rfR1 r ve vc w ha hl (by omega) (by omega))
end Go.Proofs.Ytidkpdoiblomjaa.Tlv
