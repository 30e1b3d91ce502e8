/- The entry of bytes, by the document. -/
import Derived.Test.YtcjiofhjognklaaGreatY29
import Derived.Test.YtcjiofhjognklaaGreatY25
namespace Go.Proofs.YtcjiofhjognklaaGreat.Tlv
open Go.RowKit
set_option maxRecDepth 100000
set_option linter.deprecated false
set_option linter.unusedVariables false
set_option linter.unusedSimpArgs false
theorem tk_yes {v bs r : List Int} {f : Bool} {tag : Int} (h : tk false v tag = (some bs, (f, r))) : stands v = true ∧ v.getD 0 0 = tag ∧ bs = (v.drop 5).take (nv v) ∧ r = v.drop (5 + nv v) := by
 unfold tk at h
 rw [if_neg (by decide)] at h
 split at h
 · rename_i hc
   simp only [Prod.mk.injEq, Option.some.injEq] at h
   exact ⟨hc.1, hc.2, h.1.symm, h.2.2.symm⟩
 · simp at h
theorem okL_nil : okL [] = true ∧ mkL [] = [] := by
 unfold okL mkL allT
 rw [items_no (l := []) rfl, endP_no (l := []) rfl]
 simp
theorem okL_stand {v : List Int} (h : stands v = true) : okL v = (v.getD 0 0 == 3 && (okAt ((v.drop 5).take (nv v)) && okL (v.drop (5 + nv v)))) ∧ mkL v = mkAt ((v.drop 5).take (nv v)) :: mkL (v.drop (5 + nv v)) := by
 have hp := stands_parts h
 unfold okL mkL allT
 rw [items_yes h, endP_yes h]
 refine ⟨?_, rfl⟩
 simp only [List.all_cons, List.length_drop]
 have e : decide (5 + nv v + endP (v.drop (5 + nv v)) = v.length) = decide (endP (v.drop (5 + nv v)) = v.length - (5 + nv v)) := by
   rw [decide_eq_decide]
   omega
 rw [e]
 simp only [Bool.and_assoc]
 generalize okAt ((v.drop 5).take (nv v)) = a
 generalize (items (v.drop (5 + nv v))).all (fun x => x.1 == 3) = b
 generalize decide (endP (v.drop (5 + nv v)) = v.length - (5 + nv v)) = c
 generalize (items (v.drop (5 + nv v))).all (fun x => okAt x.2) = d
 generalize (v.getD 0 0 == 3) = x
 cases x <;> cases a <;> cases b <;> cases c <;> cases d <;> rfl
theorem okL_not {v : List Int} (h : stands v = false) (ho : okL v = true) : v = [] := by
 unfold okL allT at ho
 rw [items_no h, endP_no h] at ho
 simp at ho
 exact List.eq_nil_of_length_eq_zero ho.symm
theorem okL_inv : ∀ (n : Nat) (v : List Int), v.length ≤ n → Byt v → okL v = true → v = atsB (mkL v) ∧ ∀ a ∈ mkL v, SmA a := by
 intro n
 induction n with
 | zero =>
   intro v h hb ho
   obtain rfl : v = [] := List.eq_nil_of_length_eq_zero (by omega)
   rw [okL_nil.2]
   exact ⟨rfl, fun a ha => by simp at ha⟩
 | succ n ih =>
   intro v h hb ho
   cases hst : stands v with
   | false =>
     obtain rfl := okL_not hst ho
     rw [okL_nil.2]
     exact ⟨rfl, fun a ha => by simp at ha⟩
   | true =>
     have hp := stands_parts hst
     obtain ⟨h1, h2⟩ := okL_stand hst
     rw [h1] at ho
     obtain ⟨h3, h4⟩ := Bool.and_eq_true_iff.1 ho
     obtain ⟨h5, h6⟩ := Bool.and_eq_true_iff.1 h4
     have h3 : v.getD 0 0 = 3 := by simpa using h3
     have htk : tk false v 3 = (some ((v.drop 5).take (nv v)), (false, v.drop (5 + nv v))) := by unfold tk; rw [if_neg (by decide), if_pos ⟨hst, h3⟩]
     obtain ⟨_, _, _, h7, h8⟩ := tk_some hb htk
     have hbs : Byt ((v.drop 5).take (nv v)) := fun x hx => hb x (List.mem_of_mem_drop (List.mem_of_mem_take hx))
     obtain ⟨i1, i2⟩ := ih (v.drop (5 + nv v)) (by rw [List.length_drop]; omega) (fun x hx => hb x (List.mem_of_mem_drop hx)) h6
     have hi := okAt_inv hbs h5
     have hl := congrArg List.length hi
     rw [List.length_append, valB_length, valB_length, bytes_sx, bytes_sx] at hl
     rw [h2]
     refine ⟨?_, ?_⟩
     · rw [atsB_cons, ← i1]
       unfold atB
       rw [← hi]
       exact h7
     · intro a ha
       rcases List.mem_cons.1 ha with rfl | ha
       · unfold SmA
         omega
       · exact i2 a ha
theorem okL_ats : ∀ l : List At, (∀ a ∈ l, SmA a) → okL (atsB l) = true ∧ mkL (atsB l) = l
 | [], _ => okL_nil
 | a :: l, h => by
   obtain ⟨i1, i2⟩ := okL_ats l fun x hx => h x (List.mem_cons_of_mem _ hx)
   have ha := h a (List.mem_cons_self ..)
   have hs := ha
   unfold SmA at hs
   have e1 : tk false (atsB (a :: l)) 3 = (some (valB 1 (bytesOf (sx a.t)) ++ valB 2 (bytesOf (sx a.v))), (false, atsB l)) := by
     rw [atsB_cons]
     exact tk_put (by decide) (by rw [List.length_append, valB_length, valB_length, bytes_sx, bytes_sx]; omega)
   obtain ⟨h1, h2, h3, h4⟩ := tk_yes e1
   obtain ⟨h5, h6⟩ := okL_stand h1
   obtain ⟨h7, h8⟩ := okAt_put a ha
   rw [← h3, ← h4] at h5 h6
   rw [h2, h7, i1] at h5
   rw [h8, i2] at h6
   exact ⟨h5, h6⟩
theorem tk_len {f : Bool} {r : List Int} {tag : Int} : (tk f r tag).2.2.length ≤ r.length := by
 unfold tk
 split
 · exact Nat.le_refl _
 · split
   · show (r.drop _).length ≤ _
     rw [List.length_drop]
     omega
   · exact Nat.le_refl _
theorem tk_byt {f : Bool} {r : List Int} {tag : Int} (hb : Byt r) : Byt ((tk f r tag).1.getD []) ∧ Byt (tk f r tag).2.2 ∧ ((tk f r tag).1.getD []).length ≤ 4194304 := by
 cases h : tk f r tag with
 | mk o q =>
   obtain ⟨f1, r1⟩ := q
   cases o with
   | none =>
     obtain ⟨_, h2⟩ := tk_none h
     exact ⟨fun x hx => by simp at hx, by rw [h2]; exact hb, by simp⟩
   | some v =>
     obtain ⟨_, _, _, h4, h5⟩ := tk_some hb h
     exact ⟨fun x hx => hb x (by rw [h4]; simp only [Option.getD_some] at hx; simp [valB, hx]), fun x hx => hb x (by rw [h4]; simp [hx]), h5⟩
def RefOfOut (w : World) (l : List Int) (e : Ending) (w' : World) : Prop :=
 (∃ (name : List UInt8) (at' : List At) (va : Value), mayE name at' = true ∧ l = entB name at' ∧ e = .returned (.tuple #[.agg #[.string (sx name), va], .bool true]) ∧ YtcjiofhjognklaaGreat.RowK kA w' w.heap.size va at' ∧ Below w.heap.size w w') ∨
 ((∀ name at', mayE name at' = true → l ≠ entB name at') ∧ e = .returned (.tuple #[.agg #[.string ⟨#[]⟩, .slice none 0 0], .bool false]) ∧ Below w.heap.size w w')
theorem of_parts {l v1 v2 r1 r2 : List Int} {f1 f2 : Bool} (hby : Byt l) (h1 : (tk false l 1) = ((tk false l 1).1, (f1, r1))) (e1 : (tk false l 1).1.getD [] = v1) (h2 : (tk f1 r1 2).1.getD [] = v2) (h3 : (tk f1 r1 2).2 = (f2, r2)) :
   (f2 = false → okL v2 = true → r2 = [] → l = entB (u8s v1) (mkL v2) ∧ ∀ a ∈ mkL v2, SmA a) ∧ (∀ nm at', mayE nm at' = true → l = entB nm at' → nm = u8s v1 ∧ f2 = false ∧ r2 = [] ∧ okL v2 = true ∧ mkL v2 = at') := by
 have hf1 : (tk false l 1).2.1 = f1 := by rw [h1]
 have hr1 : (tk false l 1).2.2 = r1 := by rw [h1]
 constructor
 · intro a b c
   subst a c
   have hbr : Byt r1 := by rw [← hr1]; exact (tk_byt hby).2.1
   have hbv : Byt v2 := by rw [← h2]; exact (tk_byt hbr).1
   obtain ⟨i1, i2⟩ := okL_inv _ v2 (Nat.le_refl _) hbv b
   refine ⟨?_, i2⟩
   rw [← e1]
   refine of_inv hby ?_
   rw [hf1, hr1]
   cases h4 : tk f1 r1 2 with
   | mk o q =>
     rw [h4] at h2 h3
     simp only at h3
     subst h3
     cases o with
     | none => exact absurd (tk_none h4).1 (by decide)
     | some z =>
       simp only [Option.getD_some] at h2
       subst h2
       rw [← i1]
 · intro nm at' hm hl
   obtain ⟨g1, g2⟩ := may_lens hm
   obtain ⟨g3, g4⟩ := of_put (name := nm) (l := at') g1 g2
   obtain ⟨_, g5⟩ := Bool.and_eq_true_iff.1 hm
   rw [hl, g3] at hf1 hr1 e1
   simp only at hf1 hr1 e1
   subst hf1 hr1
   rw [g4] at h2 h3
   simp only [Option.getD_some, Prod.mk.injEq] at h2 h3
   obtain ⟨h6, h7⟩ := okL_ats at' (sm_of_may g5)
   rw [← h2, ← e1]
   simp only [Option.getD_some]
   exact ⟨(u8s_bytes nm).symm, h3.1.symm, h3.2.symm, h6, h7⟩
set_option maxHeartbeats 8000000 in
theorem refOf_any (A : Option Addr) (c : Nat) (l : List Int) (w : World) (hr : Rd w w.heap.size A l) (hby : Byt l) (hn : l.length ≤ 1000000) (hc : l.length ≤ c) (hcm : c ≤ 9223372036854775807) :
   Calls Tryz.prog 95 #[.slice A l.length c] w (RefOfOut w l) := by
 have hb1 : Below w.heap.size w (w.alloc (.cells #[.string ⟨#[]⟩, .slice none 0 0] 126)) := (Below.refl _ _).alloc (Nat.le_refl _) _
 have kR1 := Blk.new w 126 #[.string ⟨#[]⟩, .slice none 0 0]
 have hs2 := RR.new (w := w.alloc (.cells #[.string ⟨#[]⟩, .slice none 0 0] 126)) (hr.below hb1) hc hcm hby (by omega) hb1.size
 rw [World.size_alloc] at hs2
 have hb3 : Below w.heap.size w (((w.alloc (.cells #[.string ⟨#[]⟩, .slice none 0 0] 126)).alloc (.cells #[.slice A l.length c, .bool false] 107)).alloc (.cells #[.string ⟨#[]⟩, .slice none 0 0] 126)) := (hb1.alloc (le_alloc (Nat.le_refl _)) _).alloc (le_alloc (le_alloc (Nat.le_refl _))) _
 have hs3 := hs2.on ((Below.refl _ _).alloc (Nat.le_refl _) (.cells #[.string ⟨#[]⟩, .slice none 0 0] 126))
 have kR3 := (kR1.alloc (.cells #[.slice A l.length c, .bool false] 107)).alloc (.cells #[.string ⟨#[]⟩, .slice none 0 0] 126)
 have kE3 := Blk.new ((w.alloc (.cells #[.string ⟨#[]⟩, .slice none 0 0] 126)).alloc (.cells #[.slice A l.length c, .bool false] 107)) 126 #[.string ⟨#[]⟩, .slice none 0 0]
 rw [World.size_alloc, World.size_alloc] at kE3
 have hsz3 : (((w.alloc (.cells #[.string ⟨#[]⟩, .slice none 0 0] 126)).alloc (.cells #[.slice A l.length c, .bool false] 107)).alloc (.cells #[.string ⟨#[]⟩, .slice none 0 0] 126)).heap.size = w.heap.size + 3 := by rw [World.size_alloc, World.size_alloc, World.size_alloc]
 have HT1 := Lib.hid (refText_any _ _ false l 1 _ hs3)
 have HB3 := Lib.hid (And.intro hb3 (And.intro kR3 (And.intro kE3 hsz3)))
 have HBY := Lib.hid hby
 have HNL := Lib.hid hn
 obtain ⟨n, hnn⟩ : ∃ n, n = l.length := ⟨_, rfl⟩
 rw [← hnn] at HT1 HB3 ⊢
 clear hr hby hb1 kR1 hs2 hb3 hs3 kR3 kE3 hsz3 hn hnn
 go_enter Tryz.func95, Tryz.ntmps95
 go_wp2_with fail
 refine HT1.out.mono ?_
 clear HT1
 rintro e w4 ⟨rfl, hr4, hg4⟩
 cases ht1 : tk false l 1 with
 | mk o1 q1 =>
 obtain ⟨f1, r1⟩ := q1
 rw [ht1] at hr4
 dsimp only at hr4 ⊢
 have hz4 := hg4.size
 rw [HB3.out.2.2.2] at hz4
 have HV1 : Hid (∃ v1, v1 = o1.getD [] ∧ v1.length ≤ 4194304) := Lib.hid ⟨_, rfl, by have := (tk_byt (f := false) (tag := 1) HBY.out).2.2; rw [ht1] at this; exact this⟩
 obtain ⟨v1, hv1, hl1⟩ := HV1.out
 rw [← hv1]
 have HV := Lib.hid (And.intro ht1 hv1)
 have hrl1 : r1.length ≤ 1000000 := by have h1 := tk_len (f := false) (r := l) (tag := 1); rw [ht1] at h1; have h2 := HNL.out; dsimp only at h1; omega
 have kE4 : Blk w4 (w.heap.size + 1 + 1) 126 #[.string ⟨#[]⟩, .slice none 0 0] := HB3.out.2.2.1.grown hg4 (by intro e; injection e with e; omega)
 have kR4 := HB3.out.2.1.grown hg4 (by intro e; injection e with e; omega)
 have hr5 := hr4.far (ga := w.heap.size + 1 + 1) (i := 0) (by omega) (by omega) (by omega) (.string (mkS v1))
 have HTA := Lib.hid (refTakeAttrs_any _ _ f1 r1 2 _ hr5 hrl1)
 have kE5 := kE4.set_ 0 (.string (mkS v1))
 have kR5 := kR4.far (p := ⟨w.heap.size + 1 + 1, 0, none⟩) (by show w.heap.size ≠ w.heap.size + 1 + 1; omega) (.string (mkS v1))
 have hb5 := (HB3.out.1.trans (below_grown hg4 (by omega : w.heap.size ≤ w.heap.size + 1) (by rw [HB3.out.2.2.2]; omega))).setCell (p := ⟨w.heap.size + 1 + 1, 0, none⟩) (by show w.heap.size ≤ w.heap.size + 1 + 1; omega) (.string (mkS v1))
 have d0 := kE4.cell 0
 have g0 := kE4.frozen 0
 have HX5 := Lib.hid (And.intro hb5 (And.intro kE5 kR5))
 clear hr4 hg4 hv1 ht1 HV1 hb5 kE5 kR5 kE4 kR4 hr5 hrl1
 go_wp2_with fail
 refine HTA.out.mono ?_
 clear HTA d0 g0
 intro e w6 h
 unfold TakeQ at h
 obtain ⟨h, hg6⟩ := h
 rw [World.size_setCell] at h
 cases ht2 : tk f1 r1 2 with
 | mk o2 q2 =>
 obtain ⟨f2, r2⟩ := q2
 rw [ht2] at h
 dsimp only at h
 have HP := Lib.hid (of_parts (v1 := v1) (v2 := o2.getD []) HBY.out (by rw [HV.out.1]) (by rw [HV.out.1]; exact HV.out.2.symm) (by rw [ht2]) (by rw [ht2]))
 have HBV2 : Hid (Byt (o2.getD []) ∧ (o2.getD []).length ≤ 4194304) := Lib.hid (by
   have hb1 : Byt r1 := by have := (tk_byt (f := false) (tag := 1) HBY.out).2.1; rw [HV.out.1] at this; exact this
   have := tk_byt (f := f1) (r := r1) (tag := 2) hb1
   rw [ht2] at this
   exact ⟨this.1, this.2.2⟩)
 generalize o2.getD [] = v2 at h HP HBV2
 obtain ⟨u, Au, nu, cu, hu, fD, rfl, hr6, hch⟩ : ∃ u Au nu cu, u = .slice Au nu cu ∧ ∃ fD, e = .returned u ∧ RR w6 (w.heap.size + 1) (w.heap.size + 1) fD r2 ∧ ((fD = false ∧ f2 = false ∧ okL v2 = true ∧ YtcjiofhjognklaaGreat.RowK kA w6 w4.heap.size u (mkL v2)) ∨ (fD = true ∧ ¬ (f2 = false ∧ okL v2 = true))) := by
   by_cases hq : f2 = false ∧ okL v2 = true
   · rw [if_pos hq] at h
     obtain ⟨u, h1, h2, h3⟩ := h
     obtain ⟨Au, cu, hu, _⟩ := YtcjiofhjognklaaGreat.RowK.rd0 h2
     exact ⟨u, Au, _, cu, hu, false, h1, h3, .inl ⟨rfl, hq.1, hq.2, h2⟩⟩
   · rw [if_neg hq] at h
     exact ⟨_, none, 0, 0, rfl, true, h.1, h.2, .inr ⟨rfl, hq⟩⟩
 clear h
 have hz6 := hg6.size
 rw [World.size_setCell] at hz6
 have kE6 : Blk w6 (w.heap.size + 1 + 1) 126 #[.string (mkS v1), .slice none 0 0] := HX5.out.2.1.grown hg6 (by intro e; injection e with e; omega)
 have kR6 := HX5.out.2.2.grown hg6 (by intro e; injection e with e; omega)
 have hb6 := HX5.out.1.trans (below_grown hg6 (by omega : w.heap.size ≤ w.heap.size + 1) (by rw [World.size_setCell]; omega))
 have hb7 := hb6.setCell (p := ⟨w.heap.size + 1 + 1, 1, none⟩) (by show w.heap.size ≤ w.heap.size + 1 + 1; omega) u
 have kE7 := kE6.set_ 1 u
 have kR7 := kR6.far (p := ⟨w.heap.size + 1 + 1, 1, none⟩) (by show w.heap.size ≠ w.heap.size + 1 + 1; omega) u
 have hr7 := hr6.far (ga := w.heap.size + 1 + 1) (i := 1) (by omega) (by omega) (by omega) u
 have d1 := kE6.cell 1
 have g1 := kE6.frozen 1
 have hz7 : w4.heap.size ≤ (w6.setCell ⟨w.heap.size + 1 + 1, 1, none⟩ u).heap.size := by rw [World.size_setCell]; exact hz6
 have HD := Lib.hid (refDone_any _ _ fD r2 _ hr7)
 have HX7 := Lib.hid (And.intro hb7 (And.intro kE7 (And.intro kR7 hz7)))
 by_cases hdn : fD = false ∧ r2 = []
 · obtain ⟨rfl, rfl⟩ := hdn
   obtain ⟨-, rfl, hok, hrow⟩ | ⟨h, _⟩ := hch
   rotate_left
   · cases h
   have hrow7 := row_far (b := w.heap.size + 1 + 1) (i := 1) hrow (by show w.heap.size + 1 + 1 < w4.heap.size; omega) u
   obtain ⟨hinv, hsm⟩ := HP.out.1 rfl hok rfl
   have HML := Lib.hid hsm
   have hnl : (u8s v1).length ≤ 9223372036854775807 := by
     have h3 : (u8s v1).length = v1.length := by unfold u8s; rw [Array.length_toList]; exact mkS_size v1
     omega
   have hkl : (mkL v2).length ≤ 1000000 := by
     have h1 := (okL_inv _ v2 (Nat.le_refl _) HBV2.out.1 hok).1
     have h2 := congrArg List.length h1
     rw [atsB_len] at h2
     have h3 := HBV2.out.2
     omega
   have HME := Lib.hid (refMayEntry_any (u8s v1) (mkL v2) u _ (YtcjiofhjognklaaGreat.RowK.rdv hrow7) hnl (fun x hx => by have := hsm x hx; unfold SmA at this; omega) hkl)
   rw [sx_u8s] at HME
   have HIN := Lib.hid hinv
   have HRW := Lib.hid hrow7
   clear hrow hrow7 hinv hsm hnl hkl hg6 ht2 kE6 kR6 hb6 hb7 kE7 kR7 hr6 hr7 hok
   subst hu
   go_wp2_with fail
   refine HD.out.mono ?_
   clear HD d1 g1
   rintro e w7 ⟨rfl, rfl⟩
   generalize w6.setCell ⟨w.heap.size + 1 + 1, 1, none⟩ (.slice Au nu cu) = w7 at *
   have e0 : w7.cell? ⟨w.heap.size + 1 + 1, 0, none⟩ = some (.string (mkS v1)) := HX7.out.2.1.cell 0
   have e1 : w7.cell? ⟨w.heap.size + 1 + 1, 1, none⟩ = some (.slice Au nu cu) := HX7.out.2.1.cell 1
   cases hm : mayE (u8s v1) (mkL v2) with
   | true =>
     rw [hm] at HME
     have HM := Lib.hid hm
     clear hm
     go_wp2_with (go_at_call 87; (with_reducible refine HME.out.mono ?_); clear HME e0 e1; rintro e w8 ⟨rfl, hb8⟩; have HB8 := Lib.hid hb8; have e0 : w8.cell? ⟨w.heap.size + 1 + 1, 0, none⟩ = some (.string (mkS v1)) := (HX7.out.2.1.on hb8).cell 0; have e1 : w8.cell? ⟨w.heap.size + 1 + 1, 1, none⟩ = some (.slice Au nu cu) := (HX7.out.2.1.on hb8).cell 1; have kR8 := HX7.out.2.2.1.on hb8; have fR0 := kR8.frozen 0; have fR1 := kR8.frozen 1; have cR0 : w8.cell? ⟨w.heap.size, 0, none⟩ = some (.string ⟨#[]⟩) := kR8.cell 0; have cR1 : w8.cell? ⟨w.heap.size, 1, none⟩ = some (.slice none 0 0) := kR8.cell 1; clear hb8)
     have hlt : w.heap.size < w4.heap.size := by omega
     have hrowF : YtcjiofhjognklaaGreat.RowK kA ((w8.setCell ⟨w.heap.size, 0, none⟩ (.string (mkS v1))).setCell ⟨w.heap.size, 1, none⟩ (.slice Au nu cu)) w4.heap.size (.slice Au nu cu) (mkL v2) := row_far (row_far (YtcjiofhjognklaaGreat.RowK.on HRW.out HB8.out) hlt _) hlt _
     have hkS := (kR8.set_ 0 (.string (mkS v1))).set_ 1 (.slice Au nu cu)
     have t0 := hkS.cell 0
     have t1 := hkS.cell 1
     have hbF := ((HX7.out.1.trans (HB8.out.mono (Nat.le_trans (Nat.le_of_lt hlt) HX7.out.2.2.2))).setCell (p := ⟨w.heap.size, 0, none⟩) (Nat.le_refl _) (.string (mkS v1))).setCell (p := ⟨w.heap.size, 1, none⟩) (Nat.le_refl _) (.slice Au nu cu)
     have HE2 := Lib.hid (And.intro hrowF hbF)
     clear hrowF hkS hbF
     generalize (w8.setCell ⟨w.heap.size, 0, none⟩ (.string (mkS v1))).setCell ⟨w.heap.size, 1, none⟩ (.slice Au nu cu) = w9 at t0 t1 HE2 ⊢
     refine bodyPost_ret (v := .tuple #[.agg #[.string (mkS v1), .slice Au nu cu], .bool true]) ?_ rfl (.inl ⟨u8s v1, mkL v2, _, HM.out, HIN.out, by rw [sx_u8s], rowA_low HE2.out.1 (Nat.le_of_lt hlt), HE2.out.2⟩)
     simp at t0 t1
     simp [results, Tryz.f95, go_sem, t0, t1]
   | false =>
     rw [hm] at HME
     have HNO : Hid (∀ nm at', mayE nm at' = true → l ≠ entB nm at') := Lib.hid fun nm at' h1 h2 => by
       obtain ⟨x0, _, _, _, x4⟩ := HP.out.2 nm at' h1 h2
       rw [x0, ← x4, hm] at h1
       cases h1
     clear hm
     go_wp2_with (go_at_call 87; (with_reducible refine HME.out.mono ?_); clear HME e0 e1; rintro e w8 ⟨rfl, hb8⟩; have HB8 := Lib.hid hb8; have kR8 := HX7.out.2.2.1.on hb8; have fR0 := kR8.frozen 0; have fR1 := kR8.frozen 1; have cR0 : w8.cell? ⟨w.heap.size, 0, none⟩ = some (.string ⟨#[]⟩) := kR8.cell 0; have cR1 : w8.cell? ⟨w.heap.size, 1, none⟩ = some (.slice none 0 0) := kR8.cell 1; clear hb8)
     have hlt : w.heap.size < w4.heap.size := by omega
     have hkS := (kR8.set_ 0 (.string ⟨#[]⟩)).set_ 1 (.slice none 0 0)
     have t0 := hkS.cell 0
     have t1 := hkS.cell 1
     have hbF := ((HX7.out.1.trans (HB8.out.mono (Nat.le_trans (Nat.le_of_lt hlt) HX7.out.2.2.2))).setCell (p := ⟨w.heap.size, 0, none⟩) (Nat.le_refl _) (.string ⟨#[]⟩)).setCell (p := ⟨w.heap.size, 1, none⟩) (Nat.le_refl _) (.slice none 0 0)
     have HE2 := Lib.hid hbF
     clear hkS hbF
     generalize (w8.setCell ⟨w.heap.size, 0, none⟩ (.string ⟨#[]⟩)).setCell ⟨w.heap.size, 1, none⟩ (.slice none 0 0) = w9 at t0 t1 HE2 ⊢
     refine bodyPost_ret (v := .tuple #[.agg #[.string ⟨#[]⟩, .slice none 0 0], .bool false]) ?_ rfl (.inr ⟨HNO.out, rfl, HE2.out⟩)
     simp at t0 t1
     simp [results, Tryz.f95, go_sem, t0, t1]
 · have hdd : (!fD && decide (r2 = [])) = false := by
     cases fD with
     | true => rfl
     | false => simpa using fun h => hdn ⟨rfl, h⟩
   rw [hdd] at HD
   have HNO : Hid (∀ nm at', mayE nm at' = true → l ≠ entB nm at') := Lib.hid fun nm at' h1 h2 => by
     obtain ⟨_, x1, x2, x3, _⟩ := HP.out.2 nm at' h1 h2
     rcases hch with ⟨y1, _⟩ | ⟨_, y2⟩
     · exact hdn ⟨y1, x2⟩
     · exact y2 ⟨x1, x3⟩
   subst hu
   clear hdd hdn hch hg6 ht2 kE6 kR6 hb6 hb7 kE7 kR7 hr6 hr7
   go_wp2_with fail
   refine HD.out.mono ?_
   clear HD d1 g1
   rintro e w7 ⟨rfl, rfl⟩
   generalize w6.setCell ⟨w.heap.size + 1 + 1, 1, none⟩ (.slice Au nu cu) = w7 at *
   have fR0 := HX7.out.2.2.1.frozen 0
   have fR1 := HX7.out.2.2.1.frozen 1
   have cR0 : w7.cell? ⟨w.heap.size, 0, none⟩ = some (.string ⟨#[]⟩) := HX7.out.2.2.1.cell 0
   have cR1 : w7.cell? ⟨w.heap.size, 1, none⟩ = some (.slice none 0 0) := HX7.out.2.2.1.cell 1
   have hkS := (HX7.out.2.2.1.set_ 0 (.string ⟨#[]⟩)).set_ 1 (.slice none 0 0)
   have t0 := hkS.cell 0
   have t1 := hkS.cell 1
   have hbF := (HX7.out.1.setCell (p := ⟨w.heap.size, 0, none⟩) (Nat.le_refl _) (.string ⟨#[]⟩)).setCell (p := ⟨w.heap.size, 1, none⟩) (Nat.le_refl _) (.slice none 0 0)
   have HE2 := Lib.hid hbF
   clear hkS hbF
   go_wp2_with fail
   generalize (w7.setCell ⟨w.heap.size, 0, none⟩ (.string ⟨#[]⟩)).setCell ⟨w.heap.size, 1, none⟩ (.slice none 0 0) = w8 at t0 t1 HE2 ⊢
   refine bodyPost_ret (v := .tuple #[.agg #[.string ⟨#[]⟩, .slice none 0 0], .bool false]) ?_ rfl (.inr ⟨HNO.out, rfl, HE2.out⟩)
   simp at t0 t1
   simp [results, Tryz.f95, go_sem, t0, t1]
end Go.Proofs.YtcjiofhjognklaaGreat.Tlv
