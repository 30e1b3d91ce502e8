/- The law on results: what is too wide; all its ways. -/
import Derived.Test.YtcjiofhjognklaaGreatY53
import Derived.Test.YtcjiofhjognklaaGreatY48
import Derived.Test.YtcjiofhjognklaaGreatY37
import Derived.Test.YtcjiofhjognklaaGreatRows
import Derived.WalkKit
import Derived.ProofKit
import Derived.OpenShut
import Derived.ShutString
import Derived.ChangeOld
import Derived.Below
namespace Go.Proofs.YtcjiofhjognklaaGreat.Tlv
open Go.RowKit Go.Lib Go.Sort
set_option maxRecDepth 100000
set_option linter.unusedVariables false
set_option linter.unusedSimpArgs false
set_option maxHeartbeats 16000000 in
theorem lawRs_out (r s : Res) (va vc xa xc : Value) (A : Option Addr) (c n : Nat) (w : World) (ho : ResAt w r va vc) (hp : ResAt w s xa xc) (hlo : LimR0 r) (hlp : LimR0 s) (hn : n ≤ 9223372036854775807) (h : ¬ (wideR r = false ∧ wideR s = false ∧ n ≤ 20000)) :
   Calls Tryz.prog 4 #[rsVal r.k r.y va vc, rsVal s.k s.y xa xc, .slice A n c] w (KnownOut w) := by
 have HA := Lib.hid fun (W : World) (hb : Below w.heap.size w W) => And.intro (ho.on hb) (hp.on hb)
 have HLO := Lib.hid hlo
 have HLP := Lib.hid hlp
 obtain ⟨Aa, ca0, na, rfl, _⟩ := ho.e.len
 obtain ⟨Ac, cc0, nc, rfl, _⟩ := ho.c.len
 obtain ⟨Ba, da0, ma, rfl, _⟩ := hp.e.len
 obtain ⟨Bc, dc0, mc, rfl, _⟩ := hp.c.len
 have hb0 : Below w.heap.size w ((w.alloc (.cells (rsCs r.k r.y (.slice Aa na ca0) (.slice Ac nc cc0)) 43)).alloc (.cells (rsCs s.k s.y (.slice Ba ma da0) (.slice Bc mc dc0)) 43)) := ((Below.refl _ _).alloc (Nat.le_refl _) _).alloc (by simp) _
 have kx := (Blk.new w 43 (rsCs r.k r.y (.slice Aa na ca0) (.slice Ac nc cc0))).alloc (.cells (rsCs s.k s.y (.slice Ba ma da0) (.slice Bc mc dc0)) 43)
 have ky := Blk.new (w.alloc (.cells (rsCs r.k r.y (.slice Aa na ca0) (.slice Ac nc cc0)) 43)) 43 (rsCs s.k s.y (.slice Ba ma da0) (.slice Bc mc dc0))
 rw [World.size_alloc] at ky
 obtain ⟨Bx, hBx⟩ : ∃ b, b = w.heap.size := ⟨_, rfl⟩
 obtain ⟨By, hBy⟩ : ∃ b, b = w.heap.size + 1 := ⟨_, rfl⟩
 have H0 : Hid (LP w Bx By (rsCs r.k r.y (.slice Aa na ca0) (.slice Ac nc cc0)) (rsCs s.k s.y (.slice Ba ma da0) (.slice Bc mc dc0)) ((w.alloc (.cells (rsCs r.k r.y (.slice Aa na ca0) (.slice Ac nc cc0)) 43)).alloc (.cells (rsCs s.k s.y (.slice Ba ma da0) (.slice Bc mc dc0)) 43))) := Lib.hid ⟨hb0, hBx ▸ kx, hBy ▸ ky⟩
 clear hb0 kx ky ho hp hlo hlp
 have hcases : wideR r = true ∨ (wideR r = false ∧ wideR s = true) ∨ (wideR r = false ∧ wideR s = false ∧ 20000 < n) := by
   cases h1 : wideR r with
   | true => exact .inl rfl
   | false =>
     cases h2 : wideR s with
     | true => exact .inr (.inl ⟨rfl, rfl⟩)
     | false => exact .inr (.inr ⟨rfl, rfl, by
         rcases Nat.lt_or_ge 20000 n with h3 | h3
         · exact h3
         · exact absurd ⟨h1, h2, h3⟩ h⟩)
 clear h
 rcases hcases with hc | ⟨hc, hc2⟩ | ⟨hc, hc2, hc3⟩
 · have HBO := Lib.hid hc
   clear hc
   go_enter Tryz.func4, Tryz.ntmps4
   go_upto_region 1 with fail
   rw [← hBy, ← hBx]
   generalize (w.alloc (.cells (rsCs r.k r.y (.slice Aa na ca0) (.slice Ac nc cc0)) 43)).alloc (.cells (rsCs s.k s.y (.slice Ba ma da0) (.slice Bc mc dc0)) 43) = W0 at H0 ⊢
   clear hBx hBy
   obtain ⟨x0, x1, x2, x3⟩ := rs_cells H0.out.x
   obtain ⟨y0, y1, y2, y3⟩ := rs_cells H0.out.y
   have HB1 := wide_any r _ _ W0 (HA.out _ H0.out.bel).1 HLO.out
   rw [HBO.out] at HB1
   have HB1 := Lib.hid HB1
   go_wp2_with (first
     | (go_at_call 18; (with_reducible refine HB1.out.mono ?_); clear HB1 x0 x1 x2 x3 y0 y1 y2 y3; rintro e w1 ⟨rfl, hb1⟩; dsimp only; have H1 := Lib.hid (H0.out.on hb1); clear hb1; have HKN := Lib.hid (known_any w1))
     | (go_at_call 8; (with_reducible refine HKN.out.mono ?_); rintro e w11 ⟨rfl, hb11⟩; dsimp only; have H11 := Lib.hid (H1.out.on hb11); clear hb11))
   go_ret
   exact ⟨rfl, H11.out.bel⟩
 · have HBO := Lib.hid hc
   clear hc
   have HBP := Lib.hid hc2
   clear hc2
   go_enter Tryz.func4, Tryz.ntmps4
   go_upto_region 1 with fail
   rw [← hBy, ← hBx]
   generalize (w.alloc (.cells (rsCs r.k r.y (.slice Aa na ca0) (.slice Ac nc cc0)) 43)).alloc (.cells (rsCs s.k s.y (.slice Ba ma da0) (.slice Bc mc dc0)) 43) = W0 at H0 ⊢
   clear hBx hBy
   obtain ⟨x0, x1, x2, x3⟩ := rs_cells H0.out.x
   obtain ⟨y0, y1, y2, y3⟩ := rs_cells H0.out.y
   have HB1 := wide_any r _ _ W0 (HA.out _ H0.out.bel).1 HLO.out
   rw [HBO.out] at HB1
   have HB1 := Lib.hid HB1
   go_wp2_with (first
     | (go_at_call 18; (with_reducible refine HB1.out.mono ?_); clear HB1 x0 x1 x2 x3 y0 y1 y2 y3; rintro e w1 ⟨rfl, hb1⟩; dsimp only; have H1 := Lib.hid (H0.out.on hb1); clear hb1; obtain ⟨y0, y1, y2, y3⟩ := rs_cells H1.out.y; have HB2 : Hid (Calls Tryz.prog 18 #[rsVal s.k s.y (.slice Ba ma da0) (.slice Bc mc dc0)] w1 fun e w' => e = .returned (.bool true) ∧ Below w1.heap.size w1 w') := Lib.hid (by have h := wide_any s _ _ w1 (HA.out _ H1.out.bel).2 HLP.out; rw [HBP.out] at h; exact h))
     | (go_at_call 18; (with_reducible refine HB2.out.mono ?_); clear HB2 y0 y1 y2 y3; rintro e w2 ⟨rfl, hb2⟩; dsimp only; have H2 := Lib.hid (H1.out.on hb2); clear hb2; have HKN := Lib.hid (known_any w2))
     | (go_at_call 8; (with_reducible refine HKN.out.mono ?_); rintro e w11 ⟨rfl, hb11⟩; dsimp only; have H11 := Lib.hid (H2.out.on hb11); clear hb11))
   go_ret
   exact ⟨rfl, H11.out.bel⟩
 · have HBO := Lib.hid hc
   clear hc
   have HBP := Lib.hid hc2
   clear hc2
   have hn1 : (20000 : Int) < (n : Int) := by omega
   clear hc3
   go_enter Tryz.func4, Tryz.ntmps4
   go_upto_region 1 with fail
   rw [← hBy, ← hBx]
   generalize (w.alloc (.cells (rsCs r.k r.y (.slice Aa na ca0) (.slice Ac nc cc0)) 43)).alloc (.cells (rsCs s.k s.y (.slice Ba ma da0) (.slice Bc mc dc0)) 43) = W0 at H0 ⊢
   clear hBx hBy
   obtain ⟨x0, x1, x2, x3⟩ := rs_cells H0.out.x
   obtain ⟨y0, y1, y2, y3⟩ := rs_cells H0.out.y
   have HB1 := wide_any r _ _ W0 (HA.out _ H0.out.bel).1 HLO.out
   rw [HBO.out] at HB1
   have HB1 := Lib.hid HB1
   go_wp2_with (first
     | (go_at_call 18; (with_reducible refine HB1.out.mono ?_); clear HB1 x0 x1 x2 x3 y0 y1 y2 y3; rintro e w1 ⟨rfl, hb1⟩; dsimp only; have H1 := Lib.hid (H0.out.on hb1); clear hb1; obtain ⟨y0, y1, y2, y3⟩ := rs_cells H1.out.y; have HB2 : Hid (Calls Tryz.prog 18 #[rsVal s.k s.y (.slice Ba ma da0) (.slice Bc mc dc0)] w1 fun e w' => e = .returned (.bool false) ∧ Below w1.heap.size w1 w') := Lib.hid (by have h := wide_any s _ _ w1 (HA.out _ H1.out.bel).2 HLP.out; rw [HBP.out] at h; exact h))
     | (go_at_call 18; (with_reducible refine HB2.out.mono ?_); clear HB2 y0 y1 y2 y3; rintro e w2 ⟨rfl, hb2⟩; dsimp only; have H2 := Lib.hid (H1.out.on hb2); clear hb2; have HKN := Lib.hid (known_any w2))
     | (go_at_call 8; (with_reducible refine HKN.out.mono ?_); rintro e w11 ⟨rfl, hb11⟩; dsimp only; have H11 := Lib.hid (H2.out.on hb11); clear hb11))
   go_ret
   exact ⟨rfl, H11.out.bel⟩
theorem lawRs_any (r s : Res) (va vc xa xc : Value) (A : Option Addr) (c : Nat) (l : List Int) (w : World) (ho : ResAt w r va vc) (hp : ResAt w s xa xc) (hlo : LimR0 r) (hlp : LimR0 s)
   (hr : Rd w w.heap.size A l) (hby : Byt l) (hn : l.length ≤ 9223372036854775807) (hc : l.length ≤ c) (hcm : c ≤ 9223372036854775807) :
   Calls Tryz.prog 4 #[rsVal r.k r.y va vc, rsVal s.k s.y xa xc, .slice A l.length c] w fun e w' => e = .returned (.bool true) ∧ Below w.heap.size w w' := by
 by_cases h : wideR r = false ∧ wideR s = false ∧ l.length ≤ 20000
 · obtain ⟨h1, h2, h3⟩ := h
   by_cases hy : ∃ rb, mayR rb = true ∧ l = resB rb
   · obtain ⟨rb, h4, h5⟩ := hy
     exact lawRs_m r s rb _ 0 true va vc xa xc A c l.length w ho hp (hlo.lim h1) (hlp.lim h2) hlo hlp h1 h2 h3 rfl (fun W hb => resultOf_yes A c l rb W ((hr.below hb).more hb.size) hby h3 h4 h5) (fun W hb => refResultOf_yes A c l rb W ((hr.below hb).more hb.size) hby h3 hc hcm h4 h5) (.inl ⟨rfl, rfl⟩)
   · have hno : ∀ q, mayR q = true → l ≠ resB q := fun q h4 h5 => hy ⟨q, h4, h5⟩
     exact lawRs_m r s (res0 0) _ 4 false va vc xa xc A c l.length w ho hp (hlo.lim h1) (hlp.lim h2) hlo hlp h1 h2 h3 rfl (fun W hb => resultOf_no A c l W ((hr.below hb).more hb.size) hby h3 hno) (fun W hb => refResultOf_no A c l W ((hr.below hb).more hb.size) hby h3 hc hcm hno) (.inr ⟨rfl, rfl⟩)
 · exact lawRs_out r s va vc xa xc A c l.length w ho hp hlo hlp hn h
end Go.Proofs.YtcjiofhjognklaaGreat.Tlv
namespace Go.Proofs.YtcjiofhjognklaaGreat.Tlv
open Go.RowKit Go.ChangeShapes Go.WideShapes Go.Deep Go.Joins
set_option maxRecDepth 100000
set_option linter.unusedVariables false
set_option linter.unusedSimpArgs false
section
variable {H : Type} {enc : TypeId × Value → H} {w : World} {base : Nat} {spare : Nat → Bool} {held : Bool}
structure EnOk (w : World) (x : En) (y : Eny) : Prop where
 nm : x.nm = y.nm
 at' : YtcjiofhjognklaaGreat.RdV w x.v y.ats
 ln : y.nm.length ≤ 9223372036854775807
 la : y.ats.length ≤ 9223372036854775807
 sa : YtcjiofhjognklaaGreat.Sm y.ats
theorem open_en {fuel : Nat} {cs : List Value} {x : DataW H × List MemPlace} (h : DataW.trod enc Tryz.prog w base spare held fuel 126 cs = some x) : ∃ (r : En) (y : Eny), cs = [.string (sx r.nm), r.v] ∧ EnOk w r y := by
 obtain ⟨y0, y1, n, _, hl, h0, h1⟩ := trod_struct2 Tryz.underlying126 h
 have e0 : Tryz.prog.cellsOf 9 = 1 := by kernel_rfl
 have e1 : Tryz.prog.cellsOf 23 = 1 := by kernel_rfl
 have e2 : Tryz.prog.cellsOf 126 = 2 := by kernel_rfl
 simp only [e0, e1] at h0 h1
 rw [e2] at hl
 match cs, hl with
 | [a, b], _ =>
   obtain ⟨s0, z0, _, g0⟩ := DataW.trod_string Tryz.underlying9 h0
   obtain ⟨v, l, z1, g1, g2, g3⟩ := YtcjiofhjognklaaGreat.open_atsC h1
   simp at z0 z1
   subst z0; subst z1
   obtain ⟨A, c, nn, rfl, _, _⟩ := rdv_len g1
   refine ⟨⟨s0.data.toList, A, nn, c⟩, ⟨s0.data.toList, l⟩, by rw [data_sx], rfl, g1, ?_, g2, g3⟩
   show s0.data.toList.length ≤ _
   rw [Array.length_toList]
   exact g0
theorem open_ensC {fuel : Nat} {cs : List Value} {x : DataW H × List MemPlace} (hf : DataW.trod enc Tryz.prog w base spare held fuel 41 cs = some x) :
   ∃ (v : Value) (l : List Eny), cs = [v] ∧ RdE w v l ∧ l.length ≤ 9223372036854775807 ∧ ∀ y ∈ l, y.nm.length ≤ 9223372036854775807 ∧ y.ats.length ≤ 9223372036854775807 ∧ YtcjiofhjognklaaGreat.Sm y.ats := by
 have e2 : Tryz.prog.cellsOf 126 = 2 := by kernel_rfl
 rcases open_slice Tryz.underlying41 hf with ⟨hcs, _⟩ | ⟨a, n, c, m, k, D, Pl, hcs, hb, hl, hm, hmm, hxe, hi⟩
 · exact ⟨_, [], hcs, RdE.nil _, by simp, fun x hx => by simp at hx⟩
 · rw [e2] at hi
   have hl0 := hl
   have hm0 := hm
   have hle : n ≤ m := by rw [hmm]; split <;> omega
   have hel : ∀ i, i < n → ∃ (r : En) (y : Eny), EnOk w r y ∧ ∀ (j : Nat) (u : Value), [Value.string (sx r.nm), r.v][j]? = some u → w.cell? (a.add (i * 2 + j)) = some u := fun i hin => by
     obtain ⟨cs', hc, ht⟩ := hi i (by omega)
     obtain ⟨r, y, rfl, hr⟩ := open_en ht
     obtain ⟨_, _, hat⟩ := World.cells?_some hc
     refine ⟨r, y, hr, fun j u hu => ?_⟩
     have hj : j < 2 := (List.getElem?_eq_some_iff.1 hu).1
     rw [← Go.Deep.add_add, hat j hj, hu]
   have hch : ∃ (es : List En) (l : List Eny), es.length = n ∧ l.length = n ∧ ∀ i, i < n → EnOk w (es.getD i default) (l.getD i default) ∧ ∀ (j : Nat) (u : Value), [Value.string (sx (es.getD i default).nm), (es.getD i default).v][j]? = some u → w.cell? (a.add (i * 2 + j)) = some u := by
     clear hi hle hl hm hmm hf hcs hxe hl0
     induction n with
     | zero => exact ⟨[], [], rfl, rfl, fun i hi => by omega⟩
     | succ n ih =>
       obtain ⟨es, l, hl1, hl2, h1⟩ := ih (fun i hi => hel i (by omega))
       obtain ⟨r, y, hr, h2⟩ := hel n (by omega)
       refine ⟨es ++ [r], l ++ [y], by simp [hl1], by simp [hl2], fun i hi => ?_⟩
       rcases Nat.lt_or_ge i n with hin | hin
       · have e : (es ++ [r]).getD i default = es.getD i default := by rw [List.getD_eq_getElem?_getD, List.getD_eq_getElem?_getD, List.getElem?_append_left (by omega)]
         have e' : (l ++ [y]).getD i default = l.getD i default := by rw [List.getD_eq_getElem?_getD, List.getD_eq_getElem?_getD, List.getElem?_append_left (by omega)]
         rw [e, e']; exact h1 i hin
       · have e : (es ++ [r]).getD i default = r := by rw [List.getD_eq_getElem?_getD, List.getElem?_append_right (by omega), show i - es.length = 0 from by omega]; rfl
         have e' : (l ++ [y]).getD i default = y := by rw [List.getD_eq_getElem?_getD, List.getElem?_append_right (by omega), show i - l.length = 0 from by omega]; rfl
         rw [e, e']
         have : i = n := by omega
         subst this
         exact ⟨hr, h2⟩
   obtain ⟨es, l, hll, hll2, hle2⟩ := hch
   refine ⟨.slice (some a) n c, l, hcs, ⟨es, some a, c, by rw [hll], ⟨fun h => (by cases h), by rw [hll]; exact hl0, hm0⟩, fun hp => ?_, hll.trans hll2.symm, fun i hi => ⟨(hle2 i (by omega)).1.nm, (hle2 i (by omega)).1.at'⟩⟩, by rw [hll2]; exact Nat.le_trans hl hm, fun y hy => ?_⟩
   · obtain ⟨b, off, spot⟩ := a
     have hc := (hle2 0 (by omega)).2 0 _ rfl
     have hspot : spot = none := by simpa [Addr.add] using World.cell?_spot hc
     subst hspot
     have hb : b < w.heap.size := World.block_lt_of_cell? w _ hc
     refine ⟨b, off, rfl, hb, fun j hj i u hu => ?_⟩
     have := (hle2 j (by omega)).2 i u hu
     rw [Addr.add_mid, ← Nat.add_assoc] at this
     exact this
   · obtain ⟨i, hi, rfl⟩ := List.getElem_of_mem hy
     have h := (hle2 i (by omega)).1
     have e : l.getD i default = l[i] := by rw [List.getD_eq_getElem?_getD, List.getElem?_eq_getElem hi]; rfl
     rw [e] at h
     exact ⟨h.ln, h.la, h.sa⟩
end
end Go.Proofs.YtcjiofhjognklaaGreat.Tlv
namespace Go.Proofs.YtcjiofhjognklaaGreat.Tlv
open Go.RowKit Go.ChangeShapes Go.WideShapes Go.Deep Go.Joins
set_option maxRecDepth 100000
set_option linter.unusedVariables false
set_option linter.unusedSimpArgs false
section
variable {H : Type} {enc : TypeId × Value → H} {w : World} {base : Nat} {spare : Nat → Bool} {held : Bool}
theorem open_res {r : Reach} {b0 : Nat} {v : Value} {d : DataW H} {p : List MemPlace} (hv : Value.okWide Tryz.prog w r b0 43 v) (h : DataW.Trod enc Tryz.prog w base spare held 43 v d p) :
   ∃ (r : Res) (ve vc : Value), v = rsVal r.k r.y ve vc ∧ (-9223372036854775808 ≤ r.k ∧ r.k ≤ 9223372036854775807) ∧ ResAt w r ve vc ∧ LimR0 r := by
 obtain ⟨cs, rfl, hsz⟩ := okWide_struct Tryz.underlying43 hv
 obtain ⟨fuel, hf⟩ := h
 obtain ⟨y0, y1, y2, y3, n, _, hl, h0, h1, h2, h3⟩ := trod_struct4 Tryz.underlying43 hf
 have e30 : Tryz.prog.cellsOf 30 = 1 := by kernel_rfl
 have e4 : Tryz.prog.cellsOf 4 = 1 := by kernel_rfl
 have e41 : Tryz.prog.cellsOf 41 = 1 := by kernel_rfl
 have e25 : Tryz.prog.cellsOf 25 = 1 := by kernel_rfl
 have e43 : Tryz.prog.cellsOf 43 = 4 := by kernel_rfl
 simp only [e30, e4, e41, e25] at h0 h1 h2 h3
 rw [e43] at hl
 obtain ⟨cs⟩ := cs
 simp only [Value.cells] at hl h0 h1 h2 h3
 match cs, hl with
 | [a0, a1, a2, a3], _ =>
   obtain ⟨k, z0, _, g0⟩ := DataW.trod_int Tryz.underlying30 h0
   obtain ⟨y, z1, _⟩ := DataW.trod_bool Tryz.underlying4 h1
   obtain ⟨ve, le, z2, ga, gb, gc⟩ := open_ensC h2
   obtain ⟨A, c, lc, z3, gg, gh, gi, gj, gk⟩ := open_bytesN h3
   simp at z0 z1 z2 z3
   subst z0 z1 z2 z3
   have hk : -9223372036854775808 ≤ k ∧ k ≤ 9223372036854775807 := by
     have e1 : IntKind.i64.min = -9223372036854775808 := by decide
     have e2 : IntKind.i64.max = 9223372036854775807 := by decide
     simp only [Lit.wf, e1, e2, Bool.and_eq_true, decide_eq_true_eq] at g0
     exact g0
   refine ⟨⟨k, y, le, lc⟩, _, _, rfl, hk, ⟨ga, ⟨A, c, rfl, ⟨gk, gi, gj⟩, gg⟩⟩, ⟨gb, fun e he => (gc e he).1, fun e he => (gc e he).2.1, fun e he => (gc e he).2.2, ?_, gh⟩⟩
   unfold maxLen at gj
   show lc.length ≤ _
   omega
end
end Go.Proofs.YtcjiofhjognklaaGreat.Tlv
namespace Go.Proofs.YtcjiofhjognklaaGreat.messageResults
open Go.ChangeShapes Go.WideShapes Go.ChangeAt Go.RowKit
open Go.ChangeMaps (open_string shut_string)
set_option linter.unusedVariables false
theorem own : ownKnob Tryz.prog.godebug = none := by kernel_rfl
theorem laidOut : laidOutB Tryz.prog = true := by kernel_rfl
set_option maxRecDepth 100000 in
theorem lifted (os : Os) (started : os.Started) (H : Type) (enc : TypeId × Value → H) :
   ReturnsInHanded {} Tryz.checked os 4 .any (Rows.messageResultsSpec.pre6 enc Tryz.prog Tryz.f4 Rows.messageResultsRow.domain false) (Rows.messageResultsSpec.post enc Tryz.prog Tryz.f4 false true false false) := by
 refine returnsInHanded_of_change (C := Tryz.checked) own started (by kernel_rfl) Tryz.func4
   (ChangeSpec.witness6 (enc := enc) (C := Tryz.checked) false ⟨#[], #[.agg #[.int .i64 0, .bool false, .slice none 0 0, .slice none 0 0], .agg #[.int .i64 0, .bool false, .slice none 0 0, .slice none 0 0], .slice none 0 0], []⟩ 8 (by kernel_rfl) (by kernel_rfl) (by kernel_rfl) (by kernel_rfl)) ?_
 intro W base args ds gs before hval0 hW hcnd _
 have hval : ∀ (j : Nat) t v, Tryz.f4.params[j]? = some t → args[j]? = some v → Value.okWide Tryz.prog W .any base t v := hval0
 have hW' := hW
 obtain ⟨p, q, hA0, hV, rfl, hfz, hnd⟩ := hW
 have hA : DataW.TrodAll enc Tryz.prog W 0 (fun _ => true) true Tryz.f4.params.toList args.toList ds p := hA0
 rw [Tryz.params4] at hA hval
 obtain ⟨v0, vs0, d0, ds0, p0, q0, hargs, rfl, rfl, h0, r0⟩ := trodAll_cons hA
 obtain ⟨v1, vs1, d1, ds1, p1, q1, rfl, rfl, rfl, h1, r1⟩ := trodAll_cons r0
 obtain ⟨v2, vs2, d2, ds2, p2, q2, rfl, rfl, rfl, h2, r2⟩ := trodAll_cons r1
 obtain ⟨rfl, rfl, rfl⟩ := trodAll_nil r2
 obtain rfl : args = #[v0, v1, v2] := by cases args; simp_all
 obtain ⟨rfl, rfl⟩ := trodVars_none hV
 have k0 := h0
 have lt0 : ∀ x ∈ p0, x.block < W.heap.size := by obtain ⟨m, hm⟩ := k0; exact DataW.trod_lt m _ _ _ hm
 have k1 := h1
 have lt1 : ∀ x ∈ p1, x.block < W.heap.size := by obtain ⟨m, hm⟩ := k1; exact DataW.trod_lt m _ _ _ hm
 have k2 := h2
 have lt2 : ∀ x ∈ p2, x.block < W.heap.size := by obtain ⟨m, hm⟩ := k2; exact DataW.trod_lt m _ _ _ hm
 obtain ⟨r0', va0, vc0, rfl, _, ho0, hl0⟩ := Tlv.open_res (hval 0 43 v0 rfl rfl) h0
 obtain ⟨r1', va1, vc1, rfl, _, ho1, hl1⟩ := Tlv.open_res (hval 1 43 v1 rfl rfl) h1
 obtain ⟨A2, c2, b2, rfl, hr2, hy2, hlc2, hcm2⟩ := Tlv.open_bytes2 (okWide_slice Tryz.underlying25 (hval 2 25 v2 rfl rfl)) h2
 clear hA0 hval0
 refine (show Calls Tryz.prog 4 _ W fun e w' => e = .returned (.bool true) ∧ Below W.heap.size W w' from by exact Tlv.lawRs_any r0' r1' _ _ _ _ A2 c2 b2 W ho0 ho1 hl0 hl1 hr2 hy2 (Nat.le_trans hlc2 hcm2) hlc2 hcm2).mono fun e W' ⟨he, bel⟩ => ?_
 subst he
 exact ⟨_, rfl, _, _, _, [], _, [], hW', trodAll_mk1 (shut_bool Tryz.underlying4 _), (trodAll_cons_mk (Below.trod laidOut (by kernel_rfl) (of_decide_eq_true (by kernel_rfl)) k0 bel lt0) (trodAll_cons_mk (Below.trod laidOut (by kernel_rfl) (of_decide_eq_true (by kernel_rfl)) k1 bel lt1) (trodAll_cons_mk (Below.trod laidOut (by kernel_rfl) (of_decide_eq_true (by kernel_rfl)) k2 bel lt2) trodAll_mk0))), rfl, bel.frame _, fun h => by cases h⟩
theorem over : Rows.messageResultsRow.holds Tryz.pinned (OpenSpec.ofChange Rows.messageResultsSpec) :=
 OpenClaim.holds_of_wide 4 Tryz.f4 rfl rfl rfl rfl rfl rfl rfl ⟨rfl, rfl, rfl, rfl, rfl⟩ rfl rfl rfl rfl rfl (by kernel_rfl) Tryz.func4 (by kernel_rfl)
   (of_decide_eq_true (by kernel_rfl)) (by unfold Func.isWrapper; first | (rw [if_pos (by decide +kernel)]; kernel_rfl) | (rw [if_neg (by decide +kernel)]; exact ⟨rfl, rfl⟩))
   (fun os started H enc _ => lifted os started H enc)
theorem proved : Rows.MessageResultsSaid := over
#print axioms proved
end Go.Proofs.YtcjiofhjognklaaGreat.messageResults
