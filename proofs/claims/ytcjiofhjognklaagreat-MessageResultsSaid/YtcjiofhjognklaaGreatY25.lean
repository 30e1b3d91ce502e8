/- The entry of bytes. -/
import Derived.Test.YtcjiofhjognklaaGreatY24
import Derived.Test.YtcjiofhjognklaaGreatY17
namespace Go.Proofs.YtcjiofhjognklaaGreat.Tlv
open Go.RowKit
set_option maxRecDepth 100000
set_option linter.unusedVariables false
set_option linter.unusedSimpArgs false
theorem of_put {name : List UInt8} {l : List At} (hn : name.length ≤ 4194304) (hl : (atsB l).length ≤ 4194304) :
   tk false (entB name l) 1 = (some (bytesOf (sx name)), (false, valB 2 (atsB l))) ∧ tk false (valB 2 (atsB l)) 2 = (some (atsB l), (false, [])) := by
 refine ⟨tk_put (by decide) (by rw [bytes_sx]; exact hn), ?_⟩
 have := tk_put (tag := 2) (xs := atsB l) (r := []) (by decide) hl
 rwa [List.append_nil] at this
theorem may_lens {name : List UInt8} {l : List At} (h : mayE name l = true) : name.length ≤ 4194304 ∧ (atsB l).length ≤ 4194304 := by
 obtain ⟨h1, h2⟩ := Bool.and_eq_true_iff.1 h
 have h3 := mayN_len h1
 have h4 := few_may h2
 rw [atsB_len]
 have h5 := h4.many
 have h6 := h4.sum
 exact ⟨by omega, by omega⟩
theorem of_inv {l : List Int} {acc : List At} (hb : Byt l) (h : tk (tk false l 1).2.1 (tk false l 1).2.2 2 = (some (atsB acc), (false, []))) : l = entB (u8s ((tk false l 1).1.getD [])) acc := by
 cases h1 : tk false l 1 with
 | mk o q =>
   obtain ⟨f1, r1⟩ := q
   rw [h1] at h
   simp only at h
   cases o with
   | none =>
     obtain ⟨x1, x2⟩ := tk_none h1
     subst x1
     simp [tk] at h
   | some v1 =>
     obtain ⟨_, y2, _, y4, y5⟩ := tk_some hb h1
     subst y2
     have hb1 : Byt v1 := fun x hx => hb x (by rw [y4]; simp [valB, hx])
     have hbr : Byt r1 := fun x hx => hb x (by rw [y4]; simp [hx])
     obtain ⟨_, _, _, z4, _⟩ := tk_some hbr h
     unfold entB
     show l = valB 1 (bytesOf (sx (u8s v1))) ++ valB 2 (atsB acc)
     rw [bytes_u8s hb1, y4, z4, List.append_nil]
theorem rowA_low {w : World} {base base' : Nat} {v : Value} {l : List At} (h : YtcjiofhjognklaaGreat.RowK kA w base v l) (hb : base' ≤ base) : YtcjiofhjognklaaGreat.RowK kA w base' v l := ⟨h.1, by
 rcases h.2 with h0 | ⟨g, cap, cur, e, hg, r⟩
 · exact .inl h0
 · exact .inr ⟨g, cap, cur, e, Nat.le_trans hb hg, r⟩⟩
def OfOut (w : World) (l : List Int) (e : Ending) (w' : World) : Prop :=
 (∃ (name : List UInt8) (at' : List At) (va : Value), mayE name at' = true ∧ l = entB name at' ∧ e = .returned (.tuple #[.agg #[.string (sx name), va], .int .i64 0]) ∧ YtcjiofhjognklaaGreat.RowK kA w' w.heap.size va at' ∧ Below w.heap.size w w') ∨
 ((∀ name at', mayE name at' = true → l ≠ entB name at') ∧ e = .returned (.tuple #[.agg #[.string ⟨#[]⟩, .slice none 0 0], .int .i64 4]) ∧ Below w.heap.size w w')
theorem below_grown {n0 g : Nat} {w w' : World} (h : w.grownBy w' (some g)) (hg : n0 ≤ g) (hn : n0 ≤ w.heap.size) : Below n0 w w' := ⟨h.os, h.tape, h.output, h.size, fun k hk => h.block k (by omega) (fun e => by injection e with e; omega)⟩
set_option maxHeartbeats 8000000 in
theorem of_any (A : Option Addr) (c : Nat) (l : List Int) (w : World) (hr : Rd w w.heap.size A l) (hby : Byt l) (hn : l.length ≤ 100000000) :
   Calls Tryz.prog 93 #[.slice A l.length c] w (OfOut w l) := by
 have hb1 : Below w.heap.size w (w.alloc (.cells #[.string ⟨#[]⟩, .slice none 0 0] 126)) := (Below.refl _ _).alloc (Nat.le_refl _) _
 have k1 := Blk.new w 126 #[.string ⟨#[]⟩, .slice none 0 0]
 have HRD := Lib.hid (read_any A c l _ ((hr.below hb1).more hb1.size) hby hn)
 have HB1 := Lib.hid (And.intro hb1 k1)
 have HBY := Lib.hid hby
 have hz1 : w.heap.size < (w.alloc (.cells #[.string ⟨#[]⟩, .slice none 0 0] 126)).heap.size := by rw [World.size_alloc]; omega
 have HZ1 := Lib.hid hz1
 obtain ⟨n, hnn⟩ : ∃ n, n = l.length := ⟨_, rfl⟩
 rw [← hnn] at HRD ⊢
 clear hr hby hb1 k1 hn hnn hz1
 go_enter Tryz.func93, Tryz.ntmps93
 go_wp2_with fail
 refine HRD.out.mono ?_
 clear HRD
 rintro e w2 ⟨gq, rfl, hrs2, hgq, hb2⟩
 have HT1 : Hid (Calls Tryz.prog 54 #[.pointer (some ⟨gq, 0, none⟩), .int .u8 1] w2 fun e w' => e = .returned (.string (sx (u8s ((tk false l 1).1.getD [])))) ∧ RS w' gq gq (tk false l 1).2.1 (tk false l 1).2.2 ∧ w2.grownBy w' (some gq)) := Lib.hid (by
   have h := text_r gq gq false l 1 w2 hrs2
   rw [← sx_u8s] at h
   exact h)
 have k2 := HB1.out.2.on hb2
 have hne : w.heap.size ≠ gq := by have := HZ1.out; omega
 have HG := Lib.hid (And.intro hgq (And.intro hb2 k2))
 clear hrs2 hgq hb2 k2
 generalize hnm : u8s ((tk false l 1).1.getD []) = name at HT1
 have HNM := Lib.hid hnm
 clear hnm
 go_wp2_with (go_at_call 54; (with_reducible refine HT1.out.mono ?_); clear HT1; rintro e w3 ⟨rfl, hrs3, hg3⟩; have HTE := Lib.hid (takeE_any gq gq _ _ 2 w3 hrs3); have HG3 := Lib.hid hg3; clear hrs3 hg3)
 refine HTE.out.mono ?_
 clear HTE
 rintro e w4 ⟨f', r', acc, va, rfl, hrow, hrs4, hg4, hS, hC⟩
 have HBAD : Hid (∀ nm at', mayE nm at' = true → l = entB nm at' → nm = name ∧ acc = at' ∧ f' = false ∧ r' = []) := Lib.hid fun nm at' hm hl => by
   obtain ⟨h1, h2⟩ := may_lens hm
   obtain ⟨h3, h4⟩ := of_put (name := nm) (l := at') h1 h2
   obtain ⟨_, h5⟩ := Bool.and_eq_true_iff.1 hm
   have h6 := HNM.out
   rw [hl, h3] at hC h6
   obtain ⟨h7, h8, h9⟩ := hC at' [] (sm_of_may h5) h5 h4
   refine ⟨?_, h7, h8, h9⟩
   rw [← h6]
   exact (u8s_bytes nm).symm
 have HSS := Lib.hid hS
 obtain ⟨Aa, ca, ea, _, _⟩ := YtcjiofhjognklaaGreat.RowK.rd0 hrow
 subst ea
 have hb5 : Below w4.heap.size w4 (w4.alloc (.cells #[.string (sx name), .slice Aa acc.length ca] 126)) := (Below.refl _ _).alloc (Nat.le_refl _) _
 have kE := Blk.new w4 126 #[.string (sx name), .slice Aa acc.length ca]
 have kR := ((HG.out.2.2.grown HG3.out (fun e => by injection e with e; exact hne e)).grown hg4 (fun e => by injection e with e; exact hne e)).alloc (.cells #[.string (sx name), .slice Aa acc.length ca] 126)
 have hrow5 := YtcjiofhjognklaaGreat.RowK.on hrow hb5
 have hz3 : w.heap.size < w3.heap.size := by have h1 := HZ1.out; have h2 := HG.out.2.1.size; have h3 := HG3.out.size; omega
 have hz4 : w3.heap.size ≤ w4.heap.size := hg4.size
 have hBel4 : Below w.heap.size w w4 := (HB1.out.1.trans (HG.out.2.1.mono (Nat.le_of_lt HZ1.out))).trans ((below_grown HG3.out (by have := HZ1.out; have := HG.out.1; omega) (by have h1 := HZ1.out; have h2 := HG.out.2.1.size; omega)).trans (below_grown hg4 (by have := HZ1.out; have := HG.out.1; omega) (by omega)))
 have HB5 := Lib.hid (hBel4.trans (hb5.mono (by omega)))
 have HE := Lib.hid (rend_any gq gq f' r' _ (hrs4.on hb5))
 have HNL : Hid (name.length ≤ 9223372036854775807) := Lib.hid (by
   rw [← HNM.out]
   cases h1 : tk false l 1 with
   | mk o q =>
     obtain ⟨f1, r1⟩ := q
     cases o with
     | none =>
       show (u8s []).length ≤ _
       decide
     | some v1 =>
       have h2 := (tk_some HBY.out h1).2.2.2.2
       have h3 : (u8s v1).length = v1.length := by unfold u8s; rw [Array.length_toList]; exact mkS_size v1
       show (u8s v1).length ≤ _
       omega)
 have HX := Lib.hid (And.intro kE (And.intro kR (And.intro hrow5 (And.intro hz3 hz4))))
 clear hrow hrs4 hg4 hS hC hb5 kE kR hrow5 hz3 hz4 hBel4
 dsimp only
 obtain ⟨na, hna⟩ : ∃ na, na = acc.length := ⟨_, rfl⟩
 have HNA := Lib.hid hna
 rw [← hna] at HX HB5 HE ⊢
 clear hna
 generalize hW5 : w4.alloc (.cells #[.string (sx name), .slice Aa na ca] 126) = W5 at HX HB5 HE
 have d0 : W5.cell? ⟨w4.heap.size, 0, none⟩ = some (.string (sx name)) := HX.out.1.cell 0
 have d1 : W5.cell? ⟨w4.heap.size, 1, none⟩ = some (.slice Aa na ca) := HX.out.1.cell 1
 have fR0 := HX.out.2.1.frozen 0
 have fR1 := HX.out.2.1.frozen 1
 have cR0 : W5.cell? ⟨w.heap.size, 0, none⟩ = some (.string ⟨#[]⟩) := HX.out.2.1.cell 0
 have cR1 : W5.cell? ⟨w.heap.size, 1, none⟩ = some (.slice none 0 0) := HX.out.2.1.cell 1
 subst hW5
 by_cases hgood : f' = false ∧ r' = []
 · obtain ⟨rfl, rfl⟩ := hgood
   obtain ⟨htk, hml⟩ := HSS.out rfl
   have hinv := of_inv HBY.out htk
   rw [HNM.out] at hinv
   have HINV := Lib.hid hinv
   have hsm := sm_of_may hml
   have hle : acc.length ≤ 1000000 := by have := (mayL_iff.1 hml).1; omega
   have hrv := YtcjiofhjognklaaGreat.RowK.rdv HX.out.2.2.1
   have HME := Lib.hid (mayEntry_any name acc _ _ hrv HNL.out (fun x hx => by have := hsm x hx; unfold SmA at this; omega) hle)
   clear htk hinv hsm hle hrv
   have HML := Lib.hid hml
   clear hml
   cases hm : mayE name acc with
   | true =>
     rw [hm] at HME
     have HM := Lib.hid hm
     clear hm
     go_wp2_with (first
       | (go_at_call 59; (with_reducible refine HE.out.mono ?_); clear HE; rintro e wE ⟨⟨n9, rfl, h9⟩, rfl⟩; obtain rfl : n9 = 0 := h9.2 (by simp); clear h9)
       | (go_at_call 130; (with_reducible refine HME.out.mono ?_); clear HME d0 d1 fR0 fR1 cR0 cR1; rintro e w6 ⟨rfl, hb6⟩; have HB6 := Lib.hid hb6; have kR6 := HX.out.2.1.on hb6; have d0 : w6.cell? ⟨w4.heap.size, 0, none⟩ = some (.string (sx name)) := (HX.out.1.on hb6).cell 0; have d1 : w6.cell? ⟨w4.heap.size, 1, none⟩ = some (.slice Aa na ca) := (HX.out.1.on hb6).cell 1; have fR0 := kR6.frozen 0; have fR1 := kR6.frozen 1; have cR0 : w6.cell? ⟨w.heap.size, 0, none⟩ = some (.string ⟨#[]⟩) := kR6.cell 0; have cR1 : w6.cell? ⟨w.heap.size, 1, none⟩ = some (.slice none 0 0) := kR6.cell 1; clear hb6))
     have hrowF : YtcjiofhjognklaaGreat.RowK kA ((w6.setCell ⟨w.heap.size, 0, none⟩ (.string (sx name))).setCell ⟨w.heap.size, 1, none⟩ (.slice Aa na ca)) w3.heap.size (.slice Aa na ca) acc := row_far (row_far (YtcjiofhjognklaaGreat.RowK.on HX.out.2.2.1 HB6.out) HX.out.2.2.2.1 _) HX.out.2.2.2.1 _
     have hkS := (kR6.set_ 0 (.string (sx name))).set_ 1 (.slice Aa na ca)
     have t0 := hkS.cell 0
     have t1 := hkS.cell 1
     have hbF := ((HB5.out.trans (HB6.out.mono (Nat.le_trans (Nat.le_of_lt HX.out.2.2.2.1) (Nat.le_trans HX.out.2.2.2.2 (by simp))))).setCell (p := ⟨w.heap.size, 0, none⟩) (Nat.le_refl _) (.string (sx name))).setCell (p := ⟨w.heap.size, 1, none⟩) (Nat.le_refl _) (.slice Aa na ca)
     have HE2 := Lib.hid (And.intro hrowF hbF)
     clear hrowF hkS hbF
     generalize (w6.setCell ⟨w.heap.size, 0, none⟩ (.string (sx name))).setCell ⟨w.heap.size, 1, none⟩ (.slice Aa na ca) = w7 at t0 t1 HE2 ⊢
     go_wp2
     refine bodyPost_ret (v := .tuple #[.agg #[.string (sx name), .slice Aa na ca], .int .i64 0]) ?_ rfl (.inl ⟨name, acc, _, HM.out, HINV.out, rfl, rowA_low HE2.out.1 (Nat.le_of_lt HX.out.2.2.2.1), HE2.out.2⟩)
     simp at t0 t1
     simp [results, Tryz.f93, go_sem, t0, t1]
   | false =>
     rw [hm] at HME
     have HNO : Hid (∀ nm at', mayE nm at' = true → l ≠ entB nm at') := Lib.hid fun nm at' h1 h2 => by
       obtain ⟨h3, h4, _, _⟩ := HBAD.out nm at' h1 h2
       rw [h3, ← h4, hm] at h1
       cases h1
     clear hm
     go_wp2_with (first
       | (go_at_call 59; (with_reducible refine HE.out.mono ?_); clear HE; rintro e wE ⟨⟨n9, rfl, h9⟩, rfl⟩; obtain rfl : n9 = 0 := h9.2 (by simp); clear h9)
       | (go_at_call 130; (with_reducible refine HME.out.mono ?_); clear HME d0 d1 fR0 fR1 cR0 cR1; rintro e w6 ⟨rfl, hb6⟩; have HB6 := Lib.hid hb6; have kR6 := HX.out.2.1.on hb6; have d0 : w6.cell? ⟨w4.heap.size, 0, none⟩ = some (.string (sx name)) := (HX.out.1.on hb6).cell 0; have d1 : w6.cell? ⟨w4.heap.size, 1, none⟩ = some (.slice Aa na ca) := (HX.out.1.on hb6).cell 1; have fR0 := kR6.frozen 0; have fR1 := kR6.frozen 1; have cR0 : w6.cell? ⟨w.heap.size, 0, none⟩ = some (.string ⟨#[]⟩) := kR6.cell 0; have cR1 : w6.cell? ⟨w.heap.size, 1, none⟩ = some (.slice none 0 0) := kR6.cell 1; clear hb6))
     have hkS := (kR6.set_ 0 (.string ⟨#[]⟩)).set_ 1 (.slice none 0 0)
     have t0 := hkS.cell 0
     have t1 := hkS.cell 1
     have hbF := ((HB5.out.trans (HB6.out.mono (Nat.le_trans (Nat.le_of_lt HX.out.2.2.2.1) (Nat.le_trans HX.out.2.2.2.2 (by simp))))).setCell (p := ⟨w.heap.size, 0, none⟩) (Nat.le_refl _) (.string ⟨#[]⟩)).setCell (p := ⟨w.heap.size, 1, none⟩) (Nat.le_refl _) (.slice none 0 0)
     have HE2 := Lib.hid hbF
     clear hkS hbF
     generalize (w6.setCell ⟨w.heap.size, 0, none⟩ (.string ⟨#[]⟩)).setCell ⟨w.heap.size, 1, none⟩ (.slice none 0 0) = w7 at t0 t1 HE2 ⊢
     go_wp2
     refine bodyPost_ret (v := .tuple #[.agg #[.string ⟨#[]⟩, .slice none 0 0], .int .i64 4]) ?_ rfl (.inr ⟨HNO.out, rfl, HE2.out⟩)
     simp at t0 t1
     simp [results, Tryz.f93, go_sem, t0, t1]
 · have HNO : Hid (∀ nm at', mayE nm at' = true → l ≠ entB nm at') := Lib.hid fun nm at' h1 h2 => by
     obtain ⟨_, _, h5, h6⟩ := HBAD.out nm at' h1 h2
     exact hgood ⟨h5, h6⟩
   have HNG := Lib.hid hgood
   clear hgood
   go_wp2_with (go_at_call 59; (with_reducible refine HE.out.mono ?_); clear HE; rintro e wE ⟨⟨n9, rfl, h9⟩, rfl⟩; have hnz : (n9 == 0) = false := (by
       have : n9 ≠ 0 := fun e => HNG.out (h9.1 e)
       simpa using this); have hnz2 : (n9 != 0) = true := (by simpa using hnz); clear h9)
   have hkS := (HX.out.2.1.set_ 0 (.string ⟨#[]⟩)).set_ 1 (.slice none 0 0)
   have t0 := hkS.cell 0
   have t1 := hkS.cell 1
   have hbF := (HB5.out.setCell (p := ⟨w.heap.size, 0, none⟩) (Nat.le_refl _) (.string ⟨#[]⟩)).setCell (p := ⟨w.heap.size, 1, none⟩) (Nat.le_refl _) (.slice none 0 0)
   have HE2 := Lib.hid hbF
   clear hkS hbF
   generalize ((w4.alloc (.cells #[.string (sx name), .slice Aa na ca] 126)).setCell ⟨w.heap.size, 0, none⟩ (.string ⟨#[]⟩)).setCell ⟨w.heap.size, 1, none⟩ (.slice none 0 0) = w7 at t0 t1 HE2 ⊢
   go_wp2
   refine bodyPost_ret (v := .tuple #[.agg #[.string ⟨#[]⟩, .slice none 0 0], .int .i64 4]) ?_ rfl (.inr ⟨HNO.out, rfl, HE2.out⟩)
   simp at t0 t1
   simp [results, Tryz.f93, go_sem, t0, t1]
end Go.Proofs.YtcjiofhjognklaaGreat.Tlv
