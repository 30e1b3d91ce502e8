/- What takes an attribute off a reader, onto a row. -/
import Derived.Test.YtcjiofhjognklaaGreatY21
import Derived.Defers
import Derived.Recover
import Derived.Deep.RegionHeld3
import Derived.Deep.RegionLaw
namespace Go.Proofs.YtcjiofhjognklaaGreat.Tlv
open Go.RowKit
set_option maxRecDepth 100000
set_option linter.unusedVariables false
set_option linter.unusedSimpArgs false
theorem Row.rdc {w : World} {base : Nat} {v : Value} {l : List Int} (h : Row w base v l) : ∃ A cap, v = .slice A l.length cap ∧ l.length ≤ cap ∧ cap ≤ 9223372036854775807 ∧ Rd w w.heap.size A l := by
 obtain ⟨A, cap, rfl, h1, h2⟩ := h.rd
 refine ⟨A, cap, rfl, h1, ?_, h2⟩
 rcases h.2 with ⟨e, _⟩ | ⟨g, cap', cur, e, _, _, _, h5, _⟩
 · injection e with _ _ e3
   omega
 · injection e with _ _ e3
   subst e3
   exact h5
set_option maxHeartbeats 1000000 in
theorem read_any (A : Option Addr) (c : Nat) (l : List Int) (w : World) (hr : Rd w w.heap.size A l) (hby : Byt l) (hn : l.length ≤ 100000000) :
   Calls Tryz.prog 52 #[.slice A l.length c] w fun e w' => ∃ g, e = .returned (.pointer (some ⟨g, 0, none⟩)) ∧ RS w' g g false l ∧ w.heap.size ≤ g ∧ Below w.heap.size w w' := by
 have HC := Lib.hid (clone_any A c l w hr (by omega))
 have HY := Lib.hid hby
 clear hr hby
 go_enter Tryz.func52, Tryz.ntmps52
 go_wp2_with fail
 refine HC.out.mono ?_
 rintro e w1 ⟨v, rfl, hrow, hb⟩
 obtain ⟨A', c', rfl, h1, h2, h3⟩ := hrow.rdc
 have hB := Blk.new w1 160 #[.slice A' l.length c', .bool true, .bool false]
 have hb1 : Below w1.heap.size w1 (w1.alloc (.cells #[.slice A' l.length c', .bool true, .bool false] 160)) := (Below.refl _ _).alloc (Nat.le_refl _) _
 have hr1 := h3.below hb1
 have hb2 : Below w.heap.size w (w1.alloc (.cells #[.slice A' l.length c', .bool true, .bool false] 160)) := hb.trans (hb1.mono hb.size)
 clear hrow h3 hb1
 have H := Lib.hid (And.intro hB (And.intro hr1 hb2))
 have hs := hb.size
 clear hB hr1 hb2 hb
 go_wp2
 go_ret
 exact ⟨_, rfl, ⟨Nat.le_refl _, _, _, H.out.1, H.out.2.1, HY.out, h1, h2, hn⟩, hs, H.out.2.2⟩
set_option maxHeartbeats 1000000 in
theorem rendB_any (g : Nat) (A : Option Addr) (c : Nat) (f : Bool) (r : List Int) (w : World) (hblk : Blk w g 160 #[.slice A r.length c, .bool true, .bool f]) :
   Calls Tryz.prog 59 #[.pointer (some ⟨g, 0, none⟩)] w fun e w' => (∃ n, e = .returned (.int .i64 n) ∧ (n = 0 ↔ (f = false ∧ r = []))) ∧ w' = w := by
 have c0 := hblk.cell 0
 have c1 := hblk.cell 1
 have c2 := hblk.cell 2
 clear hblk
 cases f with
 | true =>
   go_enter Tryz.func59, Tryz.ntmps59
   go_wp2
   go_ret
   exact ⟨⟨4, rfl, by simp⟩, rfl⟩
 | false =>
   cases r with
   | nil =>
     go_enter Tryz.func59, Tryz.ntmps59
     go_wp2
     go_ret
     exact ⟨⟨0, rfl, by simp⟩, rfl⟩
   | cons x t =>
     have hd : decide ((0 : Int) < ((x :: t).length : Int)) = true := by simp
     generalize hl : (x :: t).length = n at *
     have hn : 0 < n := by rw [← hl]; simp
     go_enter Tryz.func59, Tryz.ntmps59
     go_wp2
     go_ret
     exact ⟨⟨4, rfl, by simp⟩, rfl⟩
structure CE (n0 a b : Nat) (w w' : World) : Prop where
 os : w'.os = w.os
 tape : w'.tape = w.tape
 output : w'.output = w.output
 size : w.heap.size ≤ w'.heap.size
 low : ∀ k, k < n0 → k ≠ a → k ≠ b → w'.heap[k]? = w.heap[k]?
 kp : ∀ g t cs, t ≠ 67 → g ≠ a → g ≠ b → Blk w g t cs → Blk w' g t cs
section
variable {n0 a b : Nat} {w w1 w2 : World}
theorem CE.refl (n0 a b : Nat) (w : World) : CE n0 a b w w := ⟨rfl, rfl, rfl, Nat.le_refl _, fun _ _ _ _ => rfl, fun _ _ _ _ _ _ h => h⟩
theorem CE.trans (h : CE n0 a b w w1) (k : CE n0 a b w1 w2) : CE n0 a b w w2 := ⟨k.os.trans h.os, k.tape.trans h.tape, k.output.trans h.output, Nat.le_trans h.size k.size, fun i hi h1 h2 => (k.low i hi h1 h2).trans (h.low i hi h1 h2), fun g t cs h1 h2 h3 hb => k.kp g t cs h1 h2 h3 (h.kp g t cs h1 h2 h3 hb)⟩
theorem CE.of (h : w.grownBy w1 (some a)) (hn : n0 ≤ w.heap.size) : CE n0 a b w w1 := ⟨h.os, h.tape, h.output, h.size, fun k hk h1 _ => h.block k (by omega) (fun e => by injection e with e; exact h1 e), fun g t cs _ h2 _ hb => hb.grown h (fun e => by injection e with e; exact h2 e)⟩
theorem CE.bel (h : Below w.heap.size w w1) (hn : n0 ≤ w.heap.size) : CE n0 a b w w1 := ⟨h.os, h.tape, h.output, h.size, fun k hk _ _ => h.block k (by omega), fun g t cs _ _ _ hb => hb.on h⟩
theorem CE.setB (w : World) (i : Nat) (v : Value) : CE n0 a b w (w.setCell ⟨b, i, none⟩ v) := ⟨rfl, rfl, rfl, by simp, fun k _ _ h2 => Below.heap_setCell w ⟨b, i, none⟩ v k h2, fun g t cs _ _ h3 hb => hb.far (p := ⟨b, i, none⟩) h3 v⟩
theorem CE.cell (h : CE n0 a b w w1) {p : Addr} (hp : p.block < n0) (h1 : p.block ≠ a) (h2 : p.block ≠ b) : w1.cell? p = w.cell? p := by
 have := h.low p.block hp h1 h2
 unfold World.cell?
 rw [this]
theorem CE.rs (h : CE n0 a b w w1) {D g : Nat} {f : Bool} {r : List Int} (hs : RS w D g f r) (h1 : g ≠ a) (h2 : g ≠ b) (h3 : D ≤ a) (h4 : D ≤ b) (h5 : D ≤ n0) : RS w1 D g f r := by
 obtain ⟨h0, A, c, x1, x2, x3⟩ := hs
 refine ⟨h0, A, c, h.kp g 160 _ (by decide) h1 h2 x1, fun hp => ?_, x3⟩
 obtain ⟨bb, off, e, hl, hc⟩ := x2 hp
 exact ⟨bb, off, e, hl, fun j hj => (h.cell (p := ⟨bb, off + j, none⟩) (show bb < n0 by omega) (show bb ≠ a by omega) (show bb ≠ b by omega)).trans (hc j hj)⟩
end
theorem CE.under {n0 a b g : Nat} {w w1 : World} (h : CE n0 g b w w1) (hg : w.heap.size ≤ g) (hn : n0 ≤ w.heap.size) : CE n0 a b w w1 :=
 ⟨h.os, h.tape, h.output, h.size, fun k hk _ h2 => h.low k hk (by omega) h2, fun k t cs h1 _ h3 hb => h.kp k t cs h1 (by have := hb.lt; omega) h3 hb⟩
theorem CE.row {n0 a b n1 : Nat} {w w1 : World} {v : Value} {l : List At} (h : w.grownBy w1 v.ownBlock) (hr : YtcjiofhjognklaaGreat.RowK kA w n1 v l) (hn : n0 ≤ n1) (hn2 : n0 ≤ w.heap.size) : CE n0 a b w w1 := by
 refine ⟨h.os, h.tape, h.output, h.size, fun k hk _ _ => h.block k (by omega) (fun e => ?_), fun g t cs h1 _ _ hb => hb.grown h (fun e => ?_)⟩
 · have := (World.ownsRow.lt hr k e.symm).1
   omega
 · rcases hr.2 with ⟨e2, _⟩ | ⟨g', cap, cur, e2, _, hh, _⟩
   · rw [e2] at e; simp [Value.ownBlock] at e
   · rw [e2] at e
     have e3 : g' = g := by simpa [Value.ownBlock] using e.symm
     subst e3
     unfold Blk at hb
     rw [hh] at hb
     injection hb with hb
     injection hb with _ ht
     exact h1 ht.symm
theorem RowK.fit {w w' : World} {base : Nat} {v : Value} {l : List At} (h : YtcjiofhjognklaaGreat.RowK kA w base v l) (hk : ∀ g, v.ownBlock = some g → w'.heap[g]? = w.heap[g]?) : YtcjiofhjognklaaGreat.RowK kA w' base v l := by
 refine ⟨h.1, ?_⟩
 rcases h.2 with h0 | ⟨g, cap, cur, hv, hg, hh, rest⟩
 · exact .inl h0
 · exact .inr ⟨g, cap, cur, hv, hg, (hk g (by rw [hv]; rfl)).trans hh, rest⟩
theorem own_at {w : World} {base : Nat} {v : Value} {l : List At} (h : YtcjiofhjognklaaGreat.RowK kA w base v l) {g : Nat} (e : v.ownBlock = some g) : base ≤ g ∧ g < w.heap.size ∧ ∃ cs, Blk w g 67 cs := by
 rcases h.2 with ⟨e2, _⟩ | ⟨g', cap, cur, e2, hg, hh, _⟩
 · rw [e2] at e; simp [Value.ownBlock] at e
 · rw [e2] at e
   have e3 : g' = g := by simpa [Value.ownBlock] using e
   subst e3
   exact ⟨hg, (Array.getElem?_eq_some_iff.1 hh).1, cur, hh⟩
theorem blk_ne {w : World} {g g' : Nat} {t t' : TypeId} {cs cs' : Array Value} (h : Blk w g t cs) (h' : Blk w g' t' cs') (hne : t ≠ t') : g ≠ g' := fun e => by
 subst e
 unfold Blk at h h'
 rw [h] at h'
 injection h' with h'
 injection h' with _ ht
 exact hne ht
set_option maxHeartbeats 8000000 in
theorem take1_any (D gi Bl n0 n1 : Nat) (r : List Int) (v : Value) (acc : List At) (w : World) (hs : RS w D gi false r) (hb : Blk w Bl 23 #[v]) (hr : YtcjiofhjognklaaGreat.RowK kA w n1 v acc) (hD : D ≤ n0) (hDB : D ≤ Bl) (h01 : n0 ≤ n1) (hn : n1 ≤ w.heap.size) (hne : gi ≠ Bl) (hacc : acc.length ≤ 200000000) :
   Calls Tryz.prog 151 #[.pointer (some ⟨gi, 0, none⟩), .pointer (some ⟨Bl, 0, none⟩)] w fun e w' => e = .returned (.bool (okAt ((tk false r 3).1.getD []))) ∧ RS w' D gi (tk false r 3).2.1 (tk false r 3).2.2 ∧
     (∃ v', Blk w' Bl 23 #[v'] ∧ YtcjiofhjognklaaGreat.RowK kA w' n1 v' (acc ++ [mkAt ((tk false r 3).1.getD [])])) ∧ CE n0 gi Bl w w' := by
 have HT := Lib.hid (bytes_r D gi false r 3 w hs)
 have hbyt := hs.byt
 have HBY : Hid (Byt ((tk false r 3).1.getD []) ∧ ((tk false r 3).1.getD []).length ≤ 4194304) := Lib.hid (by
   cases htk : tk false r 3 with
   | mk o q =>
     obtain ⟨f1, r1⟩ := q
     cases o with
     | none => exact ⟨fun x hx => by simp at hx, by simp⟩
     | some bs =>
       obtain ⟨_, _, _, h4, h5⟩ := tk_some hbyt htk
       exact ⟨fun x hx => hbyt x (by rw [h4]; simp only [Option.getD_some] at hx; simp [valB, hx]), h5⟩)
 have H := Lib.hid (And.intro hb (And.intro hr (And.intro hs.lt hb.lt)))
 have HSB := Lib.hid (fun (cs : Array Value) (hc : Blk w gi 67 cs) => (by obtain ⟨_, A0, c0, hg0, _⟩ := hs; exact blk_ne hc hg0 (by decide) rfl : False))
 generalize tk false r 3 = t at HT HBY ⊢
 obtain ⟨o, f1, r1⟩ := t
 dsimp only at HT HBY ⊢
 generalize o.getD [] = bs at HT HBY ⊢
 clear hs hb hr hbyt
 go_enter Tryz.func151, Tryz.ntmps151
 go_wp2_with (first
   | (go_at_call 58; (with_reducible refine HT.out.mono ?_); clear HT; rintro e w1 ⟨vb, rfl, hrow, hrs1, hg1⟩; obtain ⟨Ab, cb, rfl, hb1, hb2, hb3⟩ := hrow.rdc; have HRD := Lib.hid (read_any Ab cb bs w1 hb3 HBY.out.1 (by have := HBY.out.2; omega)); have H1 := Lib.hid (And.intro hrs1 hg1); clear hrs1 hg1 hb1 hb2 hb3 hrow)
   | (go_at_call 52; (with_reducible refine HRD.out.mono ?_); clear HRD; rintro e w2 ⟨gn, rfl, hin, hgn, hb2⟩))
 have hbl : Bl < w.heap.size := H.out.2.2.2
 have hgl : gi < w.heap.size := H.out.2.2.1
 have hz1 := H1.out.2.size
 have hgne : Bl ≠ gn := by omega
 have hkB1 := Blk.grown H.out.1 H1.out.2 (fun e => by injection e with e; exact hne e.symm)
 have hkB2 := hkB1.on hb2
 have hrow1 : YtcjiofhjognklaaGreat.RowK kA w1 n1 v acc := RowK.fit H.out.2.1 fun g e => H1.out.2.block g (own_at H.out.2.1 e).2.1 (fun e2 => by
   injection e2 with e2
   subst e2
   obtain ⟨_, _, cs, hc⟩ := own_at H.out.2.1 e
   exact HSB.out cs hc)
 have hrow2 := YtcjiofhjognklaaGreat.RowK.on hrow1 hb2
 have hz2 := hb2.size
 have hd0 : Below w2.heap.size w2 w2.drew := below_drew (Below.refl _ _)
 have HT1 : Hid (Calls Tryz.prog 54 #[.pointer (some ⟨gn, 0, none⟩), .int .u8 1] w2.drew fun e w' => e = .returned (.string (sx (mkAt bs).t)) ∧ RS w' gn gn (inA bs).2.1 (inA bs).2.2 ∧ w2.drew.grownBy w' (some gn)) := Lib.hid (by
   have h := text_r gn gn false bs 1 w2.drew (hin.on hd0)
   rw [← sx_u8s] at h
   exact h)
 have HT2 : Hid (∀ w3, RS w3 gn gn (inA bs).2.1 (inA bs).2.2 → Calls Tryz.prog 54 #[.pointer (some ⟨gn, 0, none⟩), .int .u8 2] w3 fun e w' => e = .returned (.string (sx (mkAt bs).v)) ∧ RS w' gn gn (inB bs).2.1 (inB bs).2.2 ∧ w3.grownBy w' (some gn)) := Lib.hid (fun w3 h3 => by
   have h := text_r gn gn (inA bs).2.1 (inA bs).2.2 2 w3 h3
   rw [← sx_u8s] at h
   exact h)
 have hkD := hkB2.on hd0
 have hrowD := YtcjiofhjognklaaGreat.RowK.on hrow2 hd0
 have hgB : ∃ A9 c9, Blk w2.drew gn 160 #[.slice A9 bs.length c9, .bool true, .bool false] := by
   obtain ⟨_, A9, c9, h9, _⟩ := hin
   exact ⟨A9, c9, h9.on hd0⟩
 have HX := Lib.hid (And.intro hkD (And.intro hrowD hgB))
 have hgn2 : gn < w2.heap.size := hin.lt
 have HK : Hid (∀ W, w2.drew.grownBy W (some gn) → Blk W Bl 23 #[v] ∧ YtcjiofhjognklaaGreat.RowK kA W n1 v acc) := Lib.hid fun W hg => ⟨HX.out.1.grown hg (fun e => by injection e with e; exact hgne e), RowK.fit HX.out.2.1 fun g e => hg.block g (own_at HX.out.2.1 e).2.1 (fun e2 => by
   injection e2 with e2
   subst e2
   obtain ⟨_, _, cs, hc⟩ := own_at HX.out.2.1 e
   obtain ⟨A9, c9, h9⟩ := HX.out.2.2
   exact blk_ne hc h9 (by decide) rfl)⟩
 have HN := Lib.hid (And.intro (show n1 ≤ w2.heap.size by omega) (And.intro hacc (And.intro (show w.heap.size ≤ w2.heap.size by omega) hz2)))
 have HC0 : Hid (CE n0 gi Bl w w2) := Lib.hid ((CE.of H1.out.2 (by omega)).trans (CE.bel hb2 (by omega)))
 have q2 := hkD.cell 0
 have hb2x := Lib.hid hb2
 have HN2 := Lib.hid (show n0 ≤ w1.heap.size by omega)
 generalize hat : mkAt bs = a at HT1 HT2 ⊢
 clear hrow1 hrow2 hkB1 hkB2 hkD hrowD hgB hin hb2
 have HAT := Lib.hid hat
 clear hat
 go_wp2_with fail
 go_region_law (first
   | (go_simp; (with_reducible refine HT1.out.mono ?_); clear HT1; rintro e w3 ⟨rfl, hrs3, hg3⟩; dsimp only; have q3 := (HK.out _ hg3).1.cell 0; have HT3 := Lib.hid (HT2.out _ hrs3); clear HT2)
   | (go_simp; (with_reducible refine HT3.out.mono ?_); clear HT3; rintro e w4 ⟨rfl, hrs4, hg4⟩; dsimp only; have hg24 := grownBy_trans hg3 hg4; have q4 := (HK.out _ hg24).1.cell 0; have q5 := ((HK.out _ hg24).1.alloc (.cells #[.string (sx a.t), .string (sx a.v)] 67)).cell 0; have hrow5 := (HK.out _ hg24).2.alloc (.cells #[.string (sx a.t), .string (sx a.v)] 67); have hle5 : n1 ≤ (w4.alloc (.cells #[.string (sx a.t), .string (sx a.v)] 67)).heap.size := (by have h1 := HN.out.1; have h2 := hg24.size; have h3 : w2.drew.heap.size = w2.heap.size := rfl; simp; omega); have hln5 : acc.length + [a].length ≤ 1000000000 := (by have := HN.out.2.1; simp; omega); have hkl5 := (HK.out _ hg24).1.alloc (.cells #[.string (sx a.t), .string (sx a.v)] 67))
   | (refine YtcjiofhjognklaaGreat.step_app kA (w := w4.alloc _) (by rfl) _ _ (by rfl) [a] (by rfl) hrow5 (by rfl) (rd_one w4 a) (fun h => by cases h) hln5 hle5 ?_; intro v6 w6 hrow6 hgr6; have hk6 := hkl5.grown hgr6 (fun e => by
       obtain ⟨_, _, cs, hc⟩ := own_at hrow5 e.symm
       exact blk_ne hkl5 hc (by decide) rfl); have q6 : w6.cell? ⟨Bl, 0, none⟩ = some v := hk6.cell 0; have f6 := hk6.frozen 0; obtain ⟨A6, c6, e6, _, _⟩ := YtcjiofhjognklaaGreat.RowK.rd0 hrow6; subst e6))
 all_goals
   replace hrow6 : YtcjiofhjognklaaGreat.RowK kA w6 n1 (.slice A6 (acc.length + 1) c6) (acc ++ [a]) := (by
     have h := hrow6
     rw [List.length_append] at h
     exact h)
   have hk7 := hk6.set_ 0 (.slice A6 (acc.length + 1) c6)
   have hrow7 : YtcjiofhjognklaaGreat.RowK kA (w6.setCell ⟨Bl, 0, none⟩ (.slice A6 (acc.length + 1) c6)) n1 (.slice A6 (acc.length + 1) c6) (acc ++ [a]) := RowK.fit hrow6 fun g e => Below.heap_setCell w6 ⟨Bl, 0, none⟩ _ g (fun e2 => by
     obtain ⟨_, _, cs, hc⟩ := own_at hrow6 e
     exact blk_ne hc hk6 (by decide) e2)
   obtain ⟨_, A8, c8, hb8, _⟩ := hrs4
   have hb8' := ((hb8.alloc (.cells #[.string (sx a.t), .string (sx a.v)] 67)).grown hgr6 (fun e => by
     obtain ⟨_, _, cs, hc⟩ := own_at hrow5 e.symm
     exact blk_ne hc (hb8.alloc _) (by decide) rfl)).far (p := ⟨Bl, 0, none⟩) (fun e => hgne e.symm) (.slice A6 (acc.length + 1) c6)
   have HE := Lib.hid (rendB_any gn A8 c8 (inB bs).2.1 (inB bs).2.2 _ hb8')
   have hn0w : n0 ≤ w2.heap.size := by have := HN.out.1; omega
   have hce1 : CE n0 gn Bl w1 w2.drew := CE.bel (hb2x.out.trans (hd0.mono HN.out.2.2.2)) (by have := HN2.out; omega)
   have hce2 : CE n0 gn Bl w2.drew w4 := CE.of hg24 hn0w
   have hz4 : n0 ≤ w4.heap.size := Nat.le_trans hn0w hg24.size
   have hce3 : CE n0 gn Bl w4 (w4.alloc (.cells #[.string (sx a.t), .string (sx a.v)] 67)) := CE.bel ((Below.refl _ _).alloc (Nat.le_refl _) _) hz4
   have hce4 : CE n0 gn Bl (w4.alloc (.cells #[.string (sx a.t), .string (sx a.v)] 67)) w6 := CE.row hgr6 hrow5 h01 (Nat.le_trans h01 hle5)
   have hce := (((hce1.trans hce2).trans hce3).trans hce4).trans (CE.setB w6 0 (.slice A6 (acc.length + 1) c6))
   have hrsF := hce.rs H1.out.1 (show gi ≠ gn by omega) hne (by omega) hDB hD
   have hceF : CE n0 gi Bl w (w6.setCell ⟨Bl, 0, none⟩ (.slice A6 (acc.length + 1) c6)) := (CE.of H1.out.2 (by omega)).trans (hce.under hgn (by omega))
   have HF := Lib.hid (And.intro hrsF (And.intro hk7 (And.intro hrow7 hceF)))
   generalize w6.setCell ⟨Bl, 0, none⟩ (.slice A6 (acc.length + 1) c6) = w7 at HE HF ⊢
   clear hk7 hrow7 hb8 hb8' hce1 hce2 hce3 hce4 hce hrsF hceF q2 q3 q4 q5 q6 f6 hk6 hrow6 hgr6 hkl5 hrow5 hg3 hg4 hg24
   cases hok : okAt bs with
   | true =>
     have hq : (inB bs).2 = (false, []) := of_decide_eq_true hok
     rw [hq] at HE
     have HO := Lib.hid hok
     clear hok hq
     go_wp2_with (go_at_call 59; (with_reducible refine HE.out.mono ?_); rintro e w8 ⟨⟨n, rfl, hn⟩, rfl⟩; obtain rfl : n = 0 := hn.2 ⟨rfl, rfl⟩)
     go_ret
     exact ⟨by rw [HO.out]; rfl, HF.out.1, ⟨_, HF.out.2.1, by rw [HAT.out]; exact HF.out.2.2.1⟩, HF.out.2.2.2⟩
   | false =>
     have hq : ¬ ((inB bs).2 = (false, [])) := of_decide_eq_false hok
     have HQ := Lib.hid hq
     have HO := Lib.hid hok
     clear hok hq
     go_wp2_with (go_at_call 59; (with_reducible refine HE.out.mono ?_); rintro e w8 ⟨⟨n, rfl, hn⟩, rfl⟩; have hnz : (n == 0) = false := (by
       have : n ≠ 0 := fun e => HQ.out (by obtain ⟨h1, h2⟩ := hn.1 e; exact Prod.ext h1 h2)
       simpa using this); clear hn)
     go_ret
     exact ⟨by rw [HO.out]; rfl, HF.out.1, ⟨_, HF.out.2.1, by rw [HAT.out]; exact HF.out.2.2.1⟩, HF.out.2.2.2⟩
end Go.Proofs.YtcjiofhjognklaaGreat.Tlv
