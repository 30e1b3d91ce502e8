/- Attributes in whatever order, taken off a reader. -/
import Derived.Test.YtcjiofhjognklaaGreatV29
namespace Go.Proofs.YtcjiofhjognklaaGreat.Tlv
open Go.RowKit
set_option maxRecDepth 100000
set_option linter.unusedVariables false
set_option linter.unusedSimpArgs false
set_option maxHeartbeats 8000000 in
theorem takeM_any (D gi Bl n0 n1 : Nat) (r : List Int) (v : Value) (acc : List At) (w : World) (hs : RS w D gi false r) (hb : Blk w Bl 23 #[v]) (hr : YtcjiofhjognklaaGreat.RowK kA w n1 v acc) (hD : D ≤ n0) (hDB : D ≤ Bl) (h01 : n0 ≤ n1) (hn : n1 ≤ w.heap.size) (hne : gi ≠ Bl) (hacc : acc.length ≤ 200000000) :
   Calls Tryz.prog 117 #[.pointer (some ⟨gi, 0, none⟩), .pointer (some ⟨Bl, 0, none⟩)] w fun e w' => e = .returned (.bool (okAt ((tk false r 3).1.getD []))) ∧ RS w' D gi (tk false r 3).2.1 (tk false r 3).2.2 ∧
     (∃ v', Blk w' Bl 23 #[v'] ∧ YtcjiofhjognklaaGreat.RowK kA w' n1 v' (acc ++ [mkAt ((tk false r 3).1.getD [])])) ∧ CE n0 gi Bl w w' := by
 have HT := Lib.hid (bytes_r D gi false r 3 w hs)
 have hbyt := hs.byt
 have HBY : Hid (Byt ((tk false r 3).1.getD []) ∧ ((tk false r 3).1.getD []).length ≤ 4194304) := Lib.hid (by
   cases htk : tk false r 3 with
   | mk o q =>
     obtain ⟨f1, r1⟩ := q
     cases o with
     | none => exact ⟨fun x hx => by simp at hx, by simp⟩
     | some bs =>
       obtain ⟨_, _, _, h4, h5⟩ := tk_some hbyt htk
       exact ⟨fun x hx => hbyt x (by rw [h4]; simp only [Option.getD_some] at hx; simp [valB, hx]), h5⟩)
 have H := Lib.hid (And.intro hb (And.intro hr (And.intro hs.lt hb.lt)))
 have HSB := Lib.hid (fun (cs : Array Value) (hc : Blk w gi 67 cs) => (by obtain ⟨_, A0, c0, hg0, _⟩ := hs; exact blk_ne hc hg0 (by decide) rfl : False))
 generalize tk false r 3 = t at HT HBY ⊢
 obtain ⟨o, f1, r1⟩ := t
 dsimp only at HT HBY ⊢
 generalize o.getD [] = bs at HT HBY ⊢
 clear hs hb hr hbyt
 go_enter Tryz.func117, Tryz.ntmps117
 go_wp2_with (first
   | (go_at_call 58; (with_reducible refine HT.out.mono ?_); clear HT; rintro e w1 ⟨vb, rfl, hrow, hrs1, hg1⟩; obtain ⟨Ab, cb, rfl, hb1, hb2, hb3⟩ := hrow.rdc; have HRD := Lib.hid (read_any Ab cb bs w1 hb3 HBY.out.1 (by have := HBY.out.2; omega)); have H1 := Lib.hid (And.intro hrs1 hg1); clear hrs1 hg1 hb1 hb2 hb3 hrow)
   | (go_at_call 52; (with_reducible refine HRD.out.mono ?_); clear HRD; rintro e w2 ⟨gn, rfl, hin, hgn, hb2⟩))
 have hbl : Bl < w.heap.size := H.out.2.2.2
 have hgl : gi < w.heap.size := H.out.2.2.1
 have hz1 := H1.out.2.size
 have hgne : Bl ≠ gn := by omega
 have hkB1 := Blk.grown H.out.1 H1.out.2 (fun e => by injection e with e; exact hne e.symm)
 have hkB2 := hkB1.on hb2
 have hrow1 : YtcjiofhjognklaaGreat.RowK kA w1 n1 v acc := RowK.fit H.out.2.1 fun g e => H1.out.2.block g (own_at H.out.2.1 e).2.1 (fun e2 => by
   injection e2 with e2
   subst e2
   obtain ⟨_, _, cs, hc⟩ := own_at H.out.2.1 e
   exact HSB.out cs hc)
 have hrow2 := YtcjiofhjognklaaGreat.RowK.on hrow1 hb2
 have hz2 := hb2.size
 have hd0 : Below w2.heap.size w2 w2.drew := below_drew (Below.refl _ _)
 have HT1 : Hid (Calls Tryz.prog 54 #[.pointer (some ⟨gn, 0, none⟩), .int .u8 1] w2.drew fun e w' => e = .returned (.string (sx (mkAt bs).t)) ∧ RS w' gn gn (inA bs).2.1 (inA bs).2.2 ∧ w2.drew.grownBy w' (some gn)) := Lib.hid (by
   have h := text_r gn gn false bs 1 w2.drew (hin.on hd0)
   rw [← sx_u8s] at h
   exact h)
 have HT2 : Hid (∀ w3, RS w3 gn gn (inA bs).2.1 (inA bs).2.2 → Calls Tryz.prog 54 #[.pointer (some ⟨gn, 0, none⟩), .int .u8 2] w3 fun e w' => e = .returned (.string (sx (mkAt bs).v)) ∧ RS w' gn gn (inB bs).2.1 (inB bs).2.2 ∧ w3.grownBy w' (some gn)) := Lib.hid (fun w3 h3 => by
   have h := text_r gn gn (inA bs).2.1 (inA bs).2.2 2 w3 h3
   rw [← sx_u8s] at h
   exact h)
 have hkD := hkB2.on hd0
 have hrowD := YtcjiofhjognklaaGreat.RowK.on hrow2 hd0
 have hgB : ∃ A9 c9, Blk w2.drew gn 160 #[.slice A9 bs.length c9, .bool true, .bool false] := by
   obtain ⟨_, A9, c9, h9, _⟩ := hin
   exact ⟨A9, c9, h9.on hd0⟩
 have HX := Lib.hid (And.intro hkD (And.intro hrowD hgB))
 have hgn2 : gn < w2.heap.size := hin.lt
 have HK : Hid (∀ W, w2.drew.grownBy W (some gn) → Blk W Bl 23 #[v] ∧ YtcjiofhjognklaaGreat.RowK kA W n1 v acc) := Lib.hid fun W hg => ⟨HX.out.1.grown hg (fun e => by injection e with e; exact hgne e), RowK.fit HX.out.2.1 fun g e => hg.block g (own_at HX.out.2.1 e).2.1 (fun e2 => by
   injection e2 with e2
   subst e2
   obtain ⟨_, _, cs, hc⟩ := own_at HX.out.2.1 e
   obtain ⟨A9, c9, h9⟩ := HX.out.2.2
   exact blk_ne hc h9 (by decide) rfl)⟩
 have HN := Lib.hid (And.intro (show n1 ≤ w2.heap.size by omega) (And.intro hacc (And.intro (show w.heap.size ≤ w2.heap.size by omega) hz2)))
 have HC0 : Hid (CE n0 gi Bl w w2) := Lib.hid ((CE.of H1.out.2 (by omega)).trans (CE.bel hb2 (by omega)))
 have q2 := hkD.cell 0
 have hb2x := Lib.hid hb2
 have HN2 := Lib.hid (show n0 ≤ w1.heap.size by omega)
 generalize hat : mkAt bs = a at HT1 HT2 ⊢
 clear hrow1 hrow2 hkB1 hkB2 hkD hrowD hgB hin hb2
 have HAT := Lib.hid hat
 clear hat
 go_wp2_with fail
 go_region_law (first
   | (go_simp; (with_reducible refine HT1.out.mono ?_); clear HT1; rintro e w3 ⟨rfl, hrs3, hg3⟩; dsimp only; have q3 := (HK.out _ hg3).1.cell 0; have HT3 := Lib.hid (HT2.out _ hrs3); clear HT2)
   | (go_simp; (with_reducible refine HT3.out.mono ?_); clear HT3; rintro e w4 ⟨rfl, hrs4, hg4⟩; dsimp only; have hg24 := grownBy_trans hg3 hg4; have q4 := (HK.out _ hg24).1.cell 0; have q5 := ((HK.out _ hg24).1.alloc (.cells #[.string (sx a.t), .string (sx a.v)] 67)).cell 0; have hrow5 := (HK.out _ hg24).2.alloc (.cells #[.string (sx a.t), .string (sx a.v)] 67); have hle5 : n1 ≤ (w4.alloc (.cells #[.string (sx a.t), .string (sx a.v)] 67)).heap.size := (by have h1 := HN.out.1; have h2 := hg24.size; have h3 : w2.drew.heap.size = w2.heap.size := rfl; simp; omega); have hln5 : acc.length + [a].length ≤ 1000000000 := (by have := HN.out.2.1; simp; omega); have hkl5 := (HK.out _ hg24).1.alloc (.cells #[.string (sx a.t), .string (sx a.v)] 67))
   | (refine YtcjiofhjognklaaGreat.step_app kA (w := w4.alloc _) (by rfl) _ _ (by rfl) [a] (by rfl) hrow5 (by rfl) (rd_one w4 a) (fun h => by cases h) hln5 hle5 ?_; intro v6 w6 hrow6 hgr6; have hk6 := hkl5.grown hgr6 (fun e => by
       obtain ⟨_, _, cs, hc⟩ := own_at hrow5 e.symm
       exact blk_ne hkl5 hc (by decide) rfl); have q6 : w6.cell? ⟨Bl, 0, none⟩ = some v := hk6.cell 0; have f6 := hk6.frozen 0; obtain ⟨A6, c6, e6, _, _⟩ := YtcjiofhjognklaaGreat.RowK.rd0 hrow6; subst e6))
 all_goals
   replace hrow6 : YtcjiofhjognklaaGreat.RowK kA w6 n1 (.slice A6 (acc.length + 1) c6) (acc ++ [a]) := (by
     have h := hrow6
     rw [List.length_append] at h
     exact h)
   have hk7 := hk6.set_ 0 (.slice A6 (acc.length + 1) c6)
   have hrow7 : YtcjiofhjognklaaGreat.RowK kA (w6.setCell ⟨Bl, 0, none⟩ (.slice A6 (acc.length + 1) c6)) n1 (.slice A6 (acc.length + 1) c6) (acc ++ [a]) := RowK.fit hrow6 fun g e => Below.heap_setCell w6 ⟨Bl, 0, none⟩ _ g (fun e2 => by
     obtain ⟨_, _, cs, hc⟩ := own_at hrow6 e
     exact blk_ne hc hk6 (by decide) e2)
   obtain ⟨_, A8, c8, hb8, _⟩ := hrs4
   have hb8' := ((hb8.alloc (.cells #[.string (sx a.t), .string (sx a.v)] 67)).grown hgr6 (fun e => by
     obtain ⟨_, _, cs, hc⟩ := own_at hrow5 e.symm
     exact blk_ne hc (hb8.alloc _) (by decide) rfl)).far (p := ⟨Bl, 0, none⟩) (fun e => hgne e.symm) (.slice A6 (acc.length + 1) c6)
   have HE := Lib.hid (rendB_any gn A8 c8 (inB bs).2.1 (inB bs).2.2 _ hb8')
   have hn0w : n0 ≤ w2.heap.size := by have := HN.out.1; omega
   have hce1 : CE n0 gn Bl w1 w2.drew := CE.bel (hb2x.out.trans (hd0.mono HN.out.2.2.2)) (by have := HN2.out; omega)
   have hce2 : CE n0 gn Bl w2.drew w4 := CE.of hg24 hn0w
   have hz4 : n0 ≤ w4.heap.size := Nat.le_trans hn0w hg24.size
   have hce3 : CE n0 gn Bl w4 (w4.alloc (.cells #[.string (sx a.t), .string (sx a.v)] 67)) := CE.bel ((Below.refl _ _).alloc (Nat.le_refl _) _) hz4
   have hce4 : CE n0 gn Bl (w4.alloc (.cells #[.string (sx a.t), .string (sx a.v)] 67)) w6 := CE.row hgr6 hrow5 h01 (Nat.le_trans h01 hle5)
   have hce := (((hce1.trans hce2).trans hce3).trans hce4).trans (CE.setB w6 0 (.slice A6 (acc.length + 1) c6))
   have hrsF := hce.rs H1.out.1 (show gi ≠ gn by omega) hne (by omega) hDB hD
   have hceF : CE n0 gi Bl w (w6.setCell ⟨Bl, 0, none⟩ (.slice A6 (acc.length + 1) c6)) := (CE.of H1.out.2 (by omega)).trans (hce.under hgn (by omega))
   have HF := Lib.hid (And.intro hrsF (And.intro hk7 (And.intro hrow7 hceF)))
   generalize w6.setCell ⟨Bl, 0, none⟩ (.slice A6 (acc.length + 1) c6) = w7 at HE HF ⊢
   clear hk7 hrow7 hb8 hb8' hce1 hce2 hce3 hce4 hce hrsF hceF q2 q3 q4 q5 q6 f6 hk6 hrow6 hgr6 hkl5 hrow5 hg3 hg4 hg24
   cases hok : okAt bs with
   | true =>
     have hq : (inB bs).2 = (false, []) := of_decide_eq_true hok
     rw [hq] at HE
     have HO := Lib.hid hok
     clear hok hq
     go_wp2_with (go_at_call 59; (with_reducible refine HE.out.mono ?_); rintro e w8 ⟨⟨n, rfl, hn⟩, rfl⟩; obtain rfl : n = 0 := hn.2 ⟨rfl, rfl⟩)
     go_ret
     exact ⟨by rw [HO.out]; rfl, HF.out.1, ⟨_, HF.out.2.1, by rw [HAT.out]; exact HF.out.2.2.1⟩, HF.out.2.2.2⟩
   | false =>
     have hq : ¬ ((inB bs).2 = (false, [])) := of_decide_eq_false hok
     have HQ := Lib.hid hq
     have HO := Lib.hid hok
     clear hok hq
     go_wp2_with (go_at_call 59; (with_reducible refine HE.out.mono ?_); rintro e w8 ⟨⟨n, rfl, hn⟩, rfl⟩; have hnz : (n == 0) = false := (by
       have : n ≠ 0 := fun e => HQ.out (by obtain ⟨h1, h2⟩ := hn.1 e; exact Prod.ext h1 h2)
       simpa using this); clear hn)
     go_ret
     exact ⟨by rw [HO.out]; rfl, HF.out.1, ⟨_, HF.out.2.1, by rw [HAT.out]; exact HF.out.2.2.1⟩, HF.out.2.2.2⟩
def EncA : Enc At where
 b := atB
 g := SmA
 can := fun a a' x y h h' e => atB_cancel h h' e
 st := fun a x h => by
   unfold SmA at h
   unfold atB
   exact (stands_put (tag := 3) (r := x) (by decide) (by rw [List.length_append, valB_length, valB_length, bytes_sx, bytes_sx]; omega)).2.1
def IA (n1 Bl : Nat) (W : World) (acc : List At) : Prop := ∃ v, Blk W Bl 23 #[v] ∧ YtcjiofhjognklaaGreat.RowK kA W n1 v acc
theorem RS.blk {W : World} {D g : Nat} {f : Bool} {r : List Int} (h : RS W D g f r) : ∃ cs, Blk W g 160 cs := by
 obtain ⟨_, A, c, h1, _⟩ := h
 exact ⟨_, h1⟩
theorem IA.keep {n1 Bl : Nat} (D g : Nat) (f : Bool) (r : List Int) (acc : List At) (W W' : World) (hs : RS W D g f r) (h : IA n1 Bl W acc) (hg : W.grownBy W' (some g)) : IA n1 Bl W' acc := by
 obtain ⟨v, hb, hr⟩ := h
 obtain ⟨cs, hk⟩ := hs.blk
 refine ⟨v, hb.grown hg (fun e => by injection e with e; exact blk_ne hb hk (by decide) e), RowK.fit hr fun g' e => hg.block g' (own_at hr e).2.1 (fun e2 => by
   injection e2 with e2
   subst e2
   obtain ⟨_, _, cs', hc⟩ := own_at hr e
   exact blk_ne hc hk (by decide) rfl)⟩
theorem stepA {D gi Bl n0 n1 : Nat} {r : List Int} {acc : List At} {W : World} (hst : stands r = true) (hs : RS W D gi false r) (h : IA n1 Bl W acc) (hD : D ≤ n0) (hDB : D ≤ Bl) (h01 : n0 ≤ n1) (hn : n1 ≤ W.heap.size) (hne : gi ≠ Bl) (hacc : acc.length ≤ 100000000) :
   Calls Tryz.prog 117 #[.pointer (some ⟨gi, 0, none⟩), .pointer (some ⟨Bl, 0, none⟩)] W (StepG EncA (IA n1 Bl) D gi (CQ 67 n0 gi Bl) r acc W) := by
 obtain ⟨v, hb, hr⟩ := h
 refine (takeM_any D gi Bl n0 n1 r v acc W hs hb hr hD hDB h01 hn hne (by omega)).mono ?_
 rintro e w' ⟨rfl, h1, ⟨v', h2, h3⟩, h4⟩
 refine ⟨_, _, _, _, rfl, h1, ⟨v', h2, h3⟩, CQ.ofCE h4, tk_len, ?_⟩
 rcases step_at hs.byt hst with ⟨a, b, c, d, e⟩ | ⟨a, b⟩
 · exact .inl ⟨a, b, c, d, e⟩
 · exact .inr ⟨a.imp id .inl, b⟩
theorem cq_grown {t0 : TypeId} {n0 g : Nat} {w w1 w' : World} (h1 : Below w.heap.size w w1) (h : CQ t0 n0 g n0 w1 w') (hn : n0 = w.heap.size) : w.grownBy w' (some g) :=
 ⟨h.os.trans h1.os, h.tape.trans h1.tape, h.output.trans h1.output, Nat.le_trans h1.size h.size, fun k hk hne => (h.low k (by omega) (fun e => hne (by rw [e])) (by omega)).trans (h1.block k hk)⟩
def TakeA (D g : Nat) (f : Bool) (r : List Int) (w : World) (e : Ending) (w' : World) : Prop :=
 ∃ (f' : Bool) (r' : List Int) (acc : List At) (v : Value), e = .returned v ∧ YtcjiofhjognklaaGreat.RowK kA w' w.heap.size v acc ∧ RS w' D g f' r' ∧ w.grownBy w' (some g) ∧ Took (fun l => valB 4 (atsB l)) SmL f r acc f' r'
set_option maxHeartbeats 8000000 in
theorem takeAttrs_any (D g : Nat) (f : Bool) (r : List Int) (w : World) (hs : RS w D g f r) : Calls Tryz.prog 55 #[.pointer (some ⟨g, 0, none⟩)] w (TakeA D g f r w) := by
 have hmf : ∀ (fn : Fn) (first cap : Array Value) (w : World), (Instr.makeFunc fn first cap).run Tryz.prog w = .ok (.func fn first cap) w := fun _ _ _ _ => rfl
 have hgl := hs.lt
 have hDg := hs.1
 have hb1 : Below w.heap.size w (w.alloc (.cells #[.slice none 0 0] 23)) := (Below.refl _ _).alloc (Nat.le_refl _) _
 have HL := Lib.hid (listG_any EncA (IA (w.heap.size + 1) w.heap.size) 117 67 D g w.heap.size w.heap.size f r 4 (w.alloc (.cells #[.slice none 0 0] 23)) (by decide) (hs.on hb1) ⟨_, Blk.new w 23 #[.slice none 0 0], YtcjiofhjognklaaGreat.nil_row kA _ _⟩ (by omega) (by omega) hDg (by omega) (by simp) (by simp) (by decide) (by decide) (fun _ _ => rfl)
   (fun gi r acc W h1 h2 h3 h4 h5 h6 => stepA h4 h5 h6 (by omega) (by omega) (by omega) (by rw [World.size_alloc] at h2; omega) (by rw [World.size_alloc] at h1; omega) h3) (IA.keep D))
 have HB1 := Lib.hid hb1
 clear hs hb1
 go_enter Tryz.func55, Tryz.ntmps55
 go_wp2_with fail
 refine HL.out.mono ?_
 clear HL
 rintro e w2 ⟨f', r', acc, rfl, ⟨v, hk, hrow⟩, hrs, hch, htook⟩
 have hgr := cq_grown HB1.out hch rfl
 have c5 : w2.cell? ⟨w.heap.size, 0, none⟩ = some v := hk.cell 0
 have HF := Lib.hid (And.intro hrow (And.intro hrs (And.intro hgr htook)))
 clear hk hrow hrs hch hgr htook
 go_wp2_with fail
 go_ret
 exact ⟨f', r', acc, v, rfl, YtcjiofhjognklaaGreat.RowK.low HF.out.1 (Nat.le_succ _), HF.out.2.1, HF.out.2.2.1, HF.out.2.2.2⟩
theorem RS.gro {W W' : World} {D g : Nat} {f : Bool} {r : List Int} {row : Option Nat} (h : RS W D g f r) (hg : W.grownBy W' row) (h1 : some g ≠ row) (h2 : ∀ k, row = some k → D ≤ k) : RS W' D g f r := by
 have hl := h.lt
 obtain ⟨h0, A, c, x1, x2, x3⟩ := h
 refine ⟨h0, A, c, x1.grown hg h1, fun hp => ?_, x3⟩
 obtain ⟨bb, off, e, hl2, hc⟩ := x2 hp
 exact ⟨bb, off, e, hl2, fun j hj => (World.cell?_of_block (w := W) (a := ⟨bb, off + j, none⟩) (hg.block bb (by omega) (fun e2 => by have := h2 bb e2.symm; omega))).trans (hc j hj)⟩
theorem RS.setT {W : World} {D g b i : Nat} {f : Bool} {r : List Int} {u : Value} (h : RS W D g f r) (h1 : g ≠ b) (h2 : D ≤ b) : RS (W.setCell ⟨b, i, none⟩ u) D g f r := by
 obtain ⟨h0, A, c, x1, x2, x3⟩ := h
 refine ⟨h0, A, c, x1.far (p := ⟨b, i, none⟩) h1 u, fun hp => ?_, x3⟩
 obtain ⟨bb, off, e, hl2, hc⟩ := x2 hp
 exact ⟨bb, off, e, hl2, fun j hj => (World.cell?_of_block (w := W) (a := ⟨bb, off + j, none⟩) (Below.heap_setCell W ⟨b, i, none⟩ u bb (show bb ≠ b by omega))).trans (hc j hj)⟩
abbrev ocs (c0 c1 c2 c3 v c5 c6 : Value) : Array Value := #[c0, c1, c2, c3, v, c5, c6]
set_option maxHeartbeats 8000000 in
theorem part57_any (D gi Bl n0 n1 : Nat) (r : List Int) (c0 c1 c2 c3 c5 c6 v : Value) (acc : List (List UInt8)) (w : World) (hs : RS w D gi false r) (hb : Blk w Bl 27 (ocs c0 c1 c2 c3 v c5 c6)) (hr : RowK kStr w n1 v acc) (hD : D ≤ n0) (hDB : D ≤ Bl) (h01 : n0 ≤ n1) (hn : n1 ≤ w.heap.size) (hne : gi ≠ Bl) (hacc : acc.length ≤ 200000000) :
   Calls Tryz.prog 57 #[.pointer (some ⟨gi, 0, none⟩), .pointer (some ⟨Bl, 0, none⟩)] w fun e w' => e = .returned (.bool true) ∧ RS w' D gi (tk false r 1).2.1 (tk false r 1).2.2 ∧
     (∃ v', Blk w' Bl 27 (ocs c0 c1 c2 c3 v' c5 c6) ∧ RowK kStr w' n1 v' (acc ++ [u8s ((tk false r 1).1.getD [])])) ∧ CQ 9 n0 gi Bl w w' := by
 have hd0 : Below w.heap.size w w.drew := below_drew (Below.refl _ _)
 obtain ⟨gcs, hgk⟩ := hs.blk
 have HT1 : Hid (Calls Tryz.prog 54 #[.pointer (some ⟨gi, 0, none⟩), .int .u8 1] w.drew fun e w' => e = .returned (.string (sx (u8s ((tk false r 1).1.getD [])))) ∧ RS w' D gi (tk false r 1).2.1 (tk false r 1).2.2 ∧ w.drew.grownBy w' (some gi)) := Lib.hid (by
   have h := text_r D gi false r 1 w.drew (hs.on hd0)
   rw [← sx_u8s] at h
   exact h)
 generalize tk false r 1 = t at HT1 ⊢
 obtain ⟨o, f1, r1⟩ := t
 dsimp only at HT1 ⊢
 generalize u8s (o.getD []) = s at HT1 ⊢
 have hkD := hb.on hd0
 have hrowD := hr.onT hd0
 have HK : Hid (∀ W, w.drew.grownBy W (some gi) → Blk W Bl 27 (ocs c0 c1 c2 c3 v c5 c6) ∧ RowK kStr W n1 v acc) := Lib.hid fun W hg => ⟨hkD.grown hg (fun e => by injection e with e; exact hne e.symm), RowK.byT hrowD hg (hgk.on hd0) (by decide)⟩
 have HN := Lib.hid (And.intro h01 (And.intro hn hacc))
 have q2 : w.drew.cell? ⟨Bl, 4, none⟩ = some v := hkD.cell 4
 clear hs hb hr hkD hrowD hgk
 go_enter Tryz.func57, Tryz.ntmps57
 go_wp2_with fail
 go_region_law (first
   | (go_simp; (with_reducible refine HT1.out.mono ?_); clear HT1; rintro e w4 ⟨rfl, hrs4, hg4⟩; dsimp only; have q4 : w4.cell? ⟨Bl, 4, none⟩ = some v := (HK.out _ hg4).1.cell 4; have q5 : (w4.alloc (.cells #[.string (sx s)] 9)).cell? ⟨Bl, 4, none⟩ = some v := ((HK.out _ hg4).1.alloc (.cells #[.string (sx s)] 9)).cell 4; have hrow5 := (HK.out _ hg4).2.alloc (.cells #[.string (sx s)] 9); have hle5 : n1 ≤ (w4.alloc (.cells #[.string (sx s)] 9)).heap.size := (by have h1 := HN.out.2.1; have h2 := hg4.size; have h3 : w.drew.heap.size = w.heap.size := rfl; simp; omega); have hln5 : acc.length + [s].length ≤ 1000000000 := (by have := HN.out.2.2; simp; omega); have hkl5 := (HK.out _ hg4).1.alloc (.cells #[.string (sx s)] 9))
   | (refine step_app (K := kStr) (w := w4.alloc _) (by rfl) _ _ (by rfl) [s] (by rfl) hrow5 (by rfl) (rd_block (K := kStr) (l := [s]) (Blk.new _ _ _) rfl) (fun h => by cases h) hln5 hle5 ?_; intro v6 w6 hrow6 hgr6; have hk6 := hkl5.grown hgr6 (fun e => by
       obtain ⟨_, _, cs, hc⟩ := own_atT hrow5 e.symm
       exact blk_ne hkl5 hc (by decide) rfl); have q6 : w6.cell? ⟨Bl, 4, none⟩ = some v := hk6.cell 4; have f6 : w6.frozen? ⟨Bl, 4, none⟩ = false := hk6.frozen 4; obtain ⟨A6, c66, e6, _, _⟩ := RowK.rd0 hrow6; subst e6))
 all_goals
   replace hrow6 : RowK kStr w6 n1 (.slice A6 (acc.length + 1) c66) (acc ++ [s]) := (by
     have h := hrow6
     rw [List.length_append] at h
     exact h)
   have hk7 := hk6.set_ 4 (.slice A6 (acc.length + 1) c66)
   have hrow7 : RowK kStr (w6.setCell ⟨Bl, 4, none⟩ (.slice A6 (acc.length + 1) c66)) n1 (.slice A6 (acc.length + 1) c66) (acc ++ [s]) := RowK.setT hrow6 hk6 (by decide)
   have hn0w : n0 ≤ w.heap.size := Nat.le_trans HN.out.1 HN.out.2.1
   have hz4 : n0 ≤ w4.heap.size := Nat.le_trans hn0w hg4.size
   have hce0 : CQ 9 n0 gi Bl w w.drew := CQ.bel hd0 hn0w
   have hce2 : CQ 9 n0 gi Bl w.drew w4 := CQ.of hg4 hn0w
   have hce3 : CQ 9 n0 gi Bl w4 (w4.alloc (.cells #[.string (sx s)] 9)) := CQ.bel ((Below.refl _ _).alloc (Nat.le_refl _) _) hz4
   have hce4 : CQ 9 n0 gi Bl (w4.alloc (.cells #[.string (sx s)] 9)) w6 := CQ.row (K := kStr) hgr6 hrow5 HN.out.1 (Nat.le_trans HN.out.1 hle5)
   have hce := (((hce0.trans hce2).trans hce3).trans hce4).trans (CQ.setB w6 4 (.slice A6 (acc.length + 1) c66))
   have hb4 : Below w4.heap.size w4 (w4.alloc (.cells #[.string (sx s)] 9)) := (Below.refl _ _).alloc (Nat.le_refl _) _
   have hrsF : RS (w6.setCell ⟨Bl, 4, none⟩ (.slice A6 (acc.length + 1) c66)) D gi f1 r1 := by
     have h5 := hrs4.on hb4
     obtain ⟨cs8, hb8⟩ := h5.blk
     exact (h5.gro hgr6 (fun e => by
       obtain ⟨_, _, cs, hc⟩ := own_atT hrow5 e.symm
       exact blk_ne hc hb8 (by decide) rfl) (fun k e => by
       have := (own_atT hrow5 e).1
       have := HN.out.1
       omega)).setT hne hDB
   have HF := Lib.hid (And.intro hrsF (And.intro hk7 (And.intro hrow7 hce)))
   clear hk7 hrow7 hce0 hce2 hce3 hce4 hce hrsF hk6 hrow6 hgr6 hkl5 hrow5 hg4 hrs4 hb4 q2 q4 q5 q6 f6
   generalize w6.setCell ⟨Bl, 4, none⟩ (.slice A6 (acc.length + 1) c66) = w7 at HF ⊢
   go_wp2_with fail
   go_ret
   exact ⟨rfl, HF.out.1, ⟨_, HF.out.2.1, HF.out.2.2.1⟩, HF.out.2.2.2⟩
def EncT : Enc (List UInt8) where
 b := fun s => valB 1 (bytesOf (sx s))
 g := fun s => s.length ≤ 4194304
 can := fun a a' x y h h' e => by
   obtain ⟨h1, h2⟩ := valB_cancel (by decide) (by rw [bytes_sx]; exact h) (by rw [bytes_sx]; exact h') e
   have := congrArg u8s h1
   rw [u8s_bytes, u8s_bytes] at this
   exact ⟨this, h2⟩
 st := fun a x h => (stands_put (tag := 1) (r := x) (by decide) (by rw [bytes_sx]; exact h)).2.1
def IP (n1 Bl : Nat) (c0 c1 c2 c3 c5 c6 : Value) (W : World) (acc : List (List UInt8)) : Prop := ∃ v, Blk W Bl 27 (ocs c0 c1 c2 c3 v c5 c6) ∧ RowK kStr W n1 v acc
theorem IP.keep {n1 Bl : Nat} {c0 c1 c2 c3 c5 c6 : Value} (D g : Nat) (f : Bool) (r : List Int) (acc : List (List UInt8)) (W W' : World) (hs : RS W D g f r) (h : IP n1 Bl c0 c1 c2 c3 c5 c6 W acc) (hg : W.grownBy W' (some g)) : IP n1 Bl c0 c1 c2 c3 c5 c6 W' acc := by
 obtain ⟨v, hb, hr⟩ := h
 obtain ⟨cs, hk⟩ := hs.blk
 exact ⟨v, hb.grown hg (fun e => by injection e with e; exact blk_ne hb hk (by decide) e), RowK.byT hr hg hk (by decide)⟩
theorem stepP {D gi Bl n0 n1 : Nat} {c0 c1 c2 c3 c5 c6 : Value} {r : List Int} {acc : List (List UInt8)} {W : World} (hst : stands r = true) (hs : RS W D gi false r) (h : IP n1 Bl c0 c1 c2 c3 c5 c6 W acc) (hD : D ≤ n0) (hDB : D ≤ Bl) (h01 : n0 ≤ n1) (hn : n1 ≤ W.heap.size) (hne : gi ≠ Bl) (hacc : acc.length ≤ 100000000) :
   Calls Tryz.prog 57 #[.pointer (some ⟨gi, 0, none⟩), .pointer (some ⟨Bl, 0, none⟩)] W (StepG EncT (IP n1 Bl c0 c1 c2 c3 c5 c6) D gi (CQ 9 n0 gi Bl) r acc W) := by
 obtain ⟨v, hb, hr⟩ := h
 refine (part57_any D gi Bl n0 n1 r c0 c1 c2 c3 c5 c6 v acc W hs hb hr hD hDB h01 hn hne (by omega)).mono ?_
 rintro e w' ⟨rfl, h1, ⟨v', h2, h3⟩, h4⟩
 have hby := (tk_byt (f := false) (tag := 1) hs.byt).1
 refine ⟨_, _, _, _, rfl, h1, ⟨v', h2, h3⟩, h4, tk_len, ?_⟩
 rcases step_vals (t := 1) (by decide) hs.byt hst with ⟨a, b, c, d⟩ | ⟨a, b, c⟩
 · exact .inl ⟨rfl, a, by show r = valB 1 (bytesOf (sx (u8s _))) ++ _; rw [bytes_u8s hby]; exact b, c, by show (u8s _).length ≤ _; rw [u8s_len]; exact d⟩
 · exact .inr ⟨.inr (.inr a), fun l hl e => c (mapB l) (mapB_len hl) (by rw [← parts_vals]; exact e)⟩
theorem listP57 {c0 c1 c2 c3 c5 c6 : Value} (D g Bl : Nat) (f : Bool) (r : List Int) (tag : Int) (w : World) (htag : tag ≠ 0) (hs : RS w D g f r) (hb : Blk w Bl 27 (ocs c0 c1 c2 c3 (.slice none 0 0) c5 c6)) (hDB : D ≤ Bl) :
   Calls Tryz.prog 56 #[.pointer (some ⟨g, 0, none⟩), .int .u8 tag, .func (.func 57) #[] #[.pointer (some ⟨Bl, 0, none⟩)]] w (ListG EncT (IP w.heap.size Bl c0 c1 c2 c3 c5 c6) 9 D g Bl w.heap.size f r tag w) := by
 obtain ⟨cs, hk⟩ := hs.blk
 have hbl := hb.lt
 have hgl := hs.lt
 have hDg := hs.1
 exact listG_any EncT (IP w.heap.size Bl c0 c1 c2 c3 c5 c6) 57 9 D g Bl w.heap.size f r tag w htag hs ⟨_, hb, nil_row kStr _ _⟩ (by omega) hDB hDg (fun e => blk_ne hk hb (by decide) e) hbl (Nat.le_refl _) (by decide) (by decide) (fun _ _ => rfl)
   (fun gi r acc W h1 h2 h3 h4 h5 h6 => stepP h4 h5 h6 (by omega) hDB (Nat.le_refl _) h2 (by omega) h3) (IP.keep D)
end Go.Proofs.YtcjiofhjognklaaGreat.Tlv
