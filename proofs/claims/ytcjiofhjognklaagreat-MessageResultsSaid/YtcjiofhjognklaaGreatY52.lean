/- The law on results: what its walks need. -/
import Derived.Test.YtcjiofhjognklaaGreatY51
import Derived.Test.YtcjiofhjognklaaGreatY48
import Derived.Test.YtcjiofhjognklaaGreatY45
namespace Go.Proofs.YtcjiofhjognklaaGreat.Tlv
open Go.RowKit Go.Lib Go.Sort
set_option maxRecDepth 100000
set_option linter.unusedVariables false
set_option linter.unusedSimpArgs false
theorem sameR_refl (r : Res) : sameR r r = true := by simp [sameR]
theorem rs_row {W : World} {B : Nat} {k : Int} {y : Bool} {ve vc : Value} (h : Blk W B 43 (rsCs k y ve vc)) : ∀ W', (∃ p : Regrown, W' = grow (redrawn W p.d) p.os) → (loadVar 43 ⟨B, 0, none⟩).run Tryz.prog W' = .ok (rsVal k y ve vc) W' := by
 rintro _ ⟨p, rfl⟩
 have h : Blk (grow (redrawn W p.d) p.os) B 43 (rsCs k y ve vc) := h.on (below_regrown W p.d p.os)
 exact run_loadVar_mid _ _ 0 43 _ _ (h.range 0 (rsCs k y ve vc).toList rfl) rfl rfl (by kernel_rfl)
structure LP (w : World) (Bx By : Nat) (co cp : Array Value) (W : World) : Prop where
 bel : Below w.heap.size w W
 x : Blk W Bx 43 co
 y : Blk W By 43 cp
theorem LP.on {w W W' : World} {Bx By : Nat} {co cp : Array Value} (h : LP w Bx By co cp W) (hb : Below W.heap.size W W') : LP w Bx By co cp W' := ⟨h.bel.trans (hb.mono h.bel.size), h.x.on hb, h.y.on hb⟩
structure LS (B14 : Nat) (c14 : Array Value) (Wn W : World) : Prop where
 bel : Below Wn.heap.size Wn W
 k14 : Blk W B14 43 c14
 lo : Wn.heap.size ≤ B14
theorem LS.on {B14 : Nat} {c14 : Array Value} {Wn W W' : World} (h : LS B14 c14 Wn W) (hb : Below W.heap.size W W') : LS B14 c14 Wn W' := ⟨h.bel.trans (hb.mono h.bel.size), h.k14.on hb, h.lo⟩
theorem LS.st {B14 : Nat} {c14 : Array Value} {Wn W : World} (h : LS B14 c14 Wn W) (i : Nat) (u : Value) : LS B14 (c14.setIfInBounds i u) Wn (W.setCell ⟨B14, i, none⟩ u) := ⟨h.bel.setCell (p := ⟨B14, i, none⟩) h.lo u, h.k14.set_ i u, h.lo⟩
structure LJ (nb b15 B14 : Nat) (Wn W15 : World) (cs14 : Array Value) (v5 : Value) (n5 : Nat) (W : World) : Prop where
 bel : Below nb Wn W
 k14 : Blk W B14 43 cs14
 up : ∀ k, b15 ≤ k → W.heap[k]? = W15.heap[k]?
 sz : W.heap.size = W15.heap.size
 r5 : ∃ xs, W.ownsRow nb 5 1 v5 n5 xs ∧ ∀ j, j < n5 → ∃ y, xs[j]? = some (.int .u8 y)
 o5 : ∀ g, v5.ownBlock = some g → g < b15
theorem LJ.drew {nb b15 B14 : Nat} {Wn W15 W : World} {cs14 : Array Value} {v5 : Value} {n5 : Nat} (h : LJ nb b15 B14 Wn W15 cs14 v5 n5 W) : LJ nb b15 B14 Wn W15 cs14 v5 n5 W.drew := ⟨below_drew h.bel, h.k14, h.up, h.sz, h.r5, h.o5⟩
theorem LJ.b5 {nb b15 B14 : Nat} {Wn W15 W : World} {cs14 : Array Value} {n5 : Nat} {A : Option Addr} {c : Nat} (h : LJ nb b15 B14 Wn W15 cs14 (.slice A n5 c) n5 W) (i : Nat) (hi : i < n5) : ∃ g, A = some ⟨g, 0, none⟩ ∧ (∃ y, W.cell? ⟨g, i, none⟩ = some (.int .u8 y)) ∧ W.frozen? ⟨g, i, none⟩ = false ∧ ∀ y, LJ nb b15 B14 Wn W15 cs14 (.slice A n5 c) n5 (W.setCell ⟨g, i, none⟩ (.int .u8 y)) := by
 obtain ⟨xs, hr, hx⟩ := h.r5
 obtain ⟨g, rfl, hg, cs, hk⟩ := own_form hr (by omega)
 have hlt := h.o5 g rfl
 refine ⟨g, rfl, ?_, hr.frozenAt i, fun y => ⟨h.bel.setCell (p := ⟨g, i, none⟩) hg _, h.k14.far (p := ⟨g, i, none⟩) (fun e2 => blk_ne h.k14 hk (by decide) e2) _, fun k hk2 => (Below.heap_setCell W ⟨g, i, none⟩ _ k (show k ≠ g by omega)).trans (h.up k hk2), (World.size_setCell W ⟨g, i, none⟩ _).trans h.sz, ⟨_, (hr.stored i (.int .u8 y)).1, fun j hj => ?_⟩, h.o5⟩⟩
 · obtain ⟨y, hy⟩ := hx i hi
   exact ⟨y, (hr.cellAt i (by omega)).trans hy⟩
 · have hl : xs.length = n5 := by have := hr.1; omega
   by_cases e : i = j
   · subst e
     exact ⟨y, by rw [List.getElem?_set_self (by omega)]⟩
   · obtain ⟨z, hz⟩ := hx j hj
     exact ⟨z, by rw [List.getElem?_set_ne e]; exact hz⟩
theorem ResOwn.up {W15 W : World} {b15 : Nat} {r : Res} {ve vc : Value} (h : ResOwn W15 b15 r ve vc) (hu : ∀ k, b15 ≤ k → W.heap[k]? = W15.heap[k]?) : ResOwn W b15 r ve vc := h.keep fun k h1 _ => hu k h1
theorem wide_parts {r : Res} (h : wideR r = false) : r.es.length ≤ 8 ∧ r.cur.length ≤ 9000 ∧ ∀ e ∈ r.es, wideE e = false := by
 unfold wideR at h
 simp only [Bool.or_eq_false_iff, decide_eq_false_iff_not] at h
 obtain ⟨h1, h2, h3⟩ := h
 have h4 : r.es.length ≤ 8 := by omega
 refine ⟨h4, by omega, fun e he => ?_⟩
 rw [List.take_of_length_le (by omega)] at h1
 cases hw : wideE e with
 | false => rfl
 | true =>
   have : r.es.any wideE = true := List.any_eq_true.2 ⟨e, he, hw⟩
   rw [h1] at this
   cases this
theorem much_lenQ {l : List At} (h : YtcjiofhjognklaaGreat.muchV l = false) : l.length ≤ 120 := by
 unfold YtcjiofhjognklaaGreat.muchV at h
 rw [Bool.or_eq_false_iff] at h
 have := of_decide_eq_false h.1
 omega
theorem LimR0.lim {r : Res} (h : LimR0 r) (hw : wideR r = false) : LimR r := by
 obtain ⟨h1, h2, h3⟩ := wide_parts hw
 refine ⟨⟨by omega, h.nm, fun e he => ?_, h.sa⟩, h.lc, h.byt⟩
 have h4 := h3 e he
 unfold wideE at h4
 simp only [Bool.or_eq_false_iff] at h4
 have := much_lenQ h4.2
 omega
theorem wide_fit {r : Res} (hw : wideR r = false) : Fit r := fit_few (by have := (wide_parts hw).1; omega)
theorem resBytes_one (r : Res) (ve vc : Value) (w : World) (ha : ResAt w r ve vc) (hl : LimR r) (hf : Fit r) (mb : Bool) (hmb : mayR r = mb) : Calls Tryz.prog 19 #[rsVal r.k r.y ve vc] w fun e w' => ∃ A m k q, e = .returned (.tuple #[.slice A m k, .int .i64 q]) ∧ ((mb = true ∧ q = 0 ∧ m = (resB r).length ∧ Rd w' w'.heap.size A (resB r)) ∨ (mb = false ∧ q = 2 ∧ m = 0)) ∧ Below w.heap.size w w' :=
 (resBytes_any r ve vc w ha hl hf).mono fun e w' h => by
   rcases h with ⟨h1, A, m, k, rfl, h3, h4, h5⟩ | ⟨h1, rfl, h3⟩
   · obtain ⟨A', c', e2, _, h6⟩ := h4.rd
     injection e2 with e3 e4 e5
     subst e3
     exact ⟨A, m, k, 0, rfl, .inl ⟨hmb.symm.trans h1, rfl, h3, h6⟩, h5⟩
   · exact ⟨none, 0, 0, 2, rfl, .inr ⟨hmb.symm.trans h1, rfl, rfl⟩, h3⟩
theorem refResBytes_one (r : Res) (ve vc : Value) (w : World) (ha : ResAt w r ve vc) (hl : LimR r) (hf : Fit r) (mb : Bool) (hmb : mayR r = mb) : Calls Tryz.prog 20 #[rsVal r.k r.y ve vc] w fun e w' => ∃ A m k, e = .returned (.tuple #[.slice A m k, .bool mb]) ∧ (mb = true → m = (resB r).length ∧ Rd w' w'.heap.size A (resB r)) ∧ Below w.heap.size w w' :=
 (refResBytes_any r ve vc w ha hl hf).mono fun e w' h => by
   rcases h with ⟨h1, A, m, k, rfl, h3, h4, h5⟩ | ⟨h1, rfl, h3⟩
   · obtain ⟨A', c', e2, _, h6⟩ := h4.rd
     injection e2 with e3 e4 e5
     subst e3
     rw [hmb] at h1
     subst h1
     exact ⟨A, m, k, rfl, fun _ => ⟨h3, h6⟩, h5⟩
   · rw [hmb] at h1
     subst h1
     exact ⟨none, 0, 0, rfl, (fun h => by cases h), h3⟩
set_option maxHeartbeats 4000000 in
theorem mayRes_any (r : Res) (ve vc : Value) (w : World) (ha : ResAt w r ve vc) (hl : LimR r) (hf : Fit r) (mb : Bool) (hmb : mayR r = mb) : Calls Tryz.prog 23 #[rsVal r.k r.y ve vc] w fun e w' => e = .returned (.bool mb) ∧ Below w.heap.size w w' := by
 have HA := Lib.hid fun (W : World) (hb : Below w.heap.size w W) => ha.on hb
 obtain ⟨es, Aa, ca, na, rfl, HNa, HRa⟩ := ha.e.full
 obtain ⟨Ac, cc, nc, rfl, HNc, HRc⟩ := ha.c.full
 have hb : Below w.heap.size w (w.alloc (.cells (rsCs r.k r.y (.slice Aa na ca) (.slice Ac nc cc)) 43)) := (Below.refl _ _).alloc (Nat.le_refl _) _
 obtain ⟨a0, a1, a2, a3⟩ := rs_cells (Blk.new w 43 (rsCs r.k r.y (.slice Aa na ca) (.slice Ac nc cc)))
 have HM := Lib.hid (resBytes_one r _ _ _ (HA.out _ hb) hl hf mb hmb)
 have HB := Lib.hid hb
 clear hb ha hl hf hmb
 go_enter Tryz.func23, Tryz.ntmps23
 go_upto_region 2 with (go_at_call 19; (with_reducible refine HM.out.mono ?_); rintro e wx ⟨A1, m1, k1, q, rfl, hq, hbx⟩; dsimp only; have HQ := Lib.hid hq; have HX := Lib.hid (HB.out.trans (hbx.mono HB.out.size)); clear hq hbx)
 rcases HQ.out with ⟨rfl, rfl, _⟩ | ⟨rfl, rfl, _⟩
 · go_wp2
   go_ret
   exact ⟨rfl, HX.out⟩
 · go_wp2
   go_ret
   exact ⟨rfl, HX.out⟩
theorem resB_inj {l : List Int} (hb : Byt l) (hl : l.length ≤ 1000000) {r s : Res} (hr : mayR r = true) (hs : mayR s = true) (h1 : l = resB r) (h2 : l = resB s) : r = s := by
 have n1 : Byt (numV (tk false l 1)).2.2 := by rw [numV_rest]; exact (tk_byt hb).2.1
 have T1 := took_smallV (f := false) (tag := 1) (m := 14) hb (by decide) (by decide)
 have b1 : Byt (smallV 14 (tk false l 1)).2.2 := by
   have e : (smallV 14 (tk false l 1)).2.2 = (tk false l 1).2.2 := by
     unfold smallV
     split
     · show (numV _).2.2 = _; rw [numV_rest]
     · rw [numV_rest]
   rw [e]; exact (tk_byt hb).2.1
 have T2 := took_flgV (f := (smallV 14 (tk false l 1)).2.1) (tag := 2) b1 (by decide)
 have b2 : Byt (flgV (tk (smallV 14 (tk false l 1)).2.1 (smallV 14 (tk false l 1)).2.2 2)).2.2 := by rw [flgV_rest]; exact (tk_byt b1).2.1
 have T1' := took_numV (f := false) (tag := 1) hb (by decide)
 have T2' := took_flgV (f := (numV (tk false l 1)).2.1) (tag := 2) n1 (by decide)
 have b2' : Byt (flgV (tk (numV (tk false l 1)).2.1 (numV (tk false l 1)).2.2 2)).2.2 := by rw [flgV_rest]; exact (tk_byt n1).2.1
 have T3 := took_vals (f := (flgV (tk (numV (tk false l 1)).2.1 (numV (tk false l 1)).2.2 2)).2.1) (tag := 3) b2' (by decide)
 have b3 : Byt (tk (flgV (tk (numV (tk false l 1)).2.1 (numV (tk false l 1)).2.2 2)).2.1 (flgV (tk (numV (tk false l 1)).2.1 (numV (tk false l 1)).2.2 2)).2.2 3).2.2 := (tk_byt b2').2.1
 have T4 := took_bytes (f := if (tk (flgV (tk (numV (tk false l 1)).2.1 (numV (tk false l 1)).2.2 2)).2.1 (flgV (tk (numV (tk false l 1)).2.1 (numV (tk false l 1)).2.2 2)).2.2 3).2.1 = false ∧ allT 1 ((tk (flgV (tk (numV (tk false l 1)).2.1 (numV (tk false l 1)).2.2 2)).2.1 (flgV (tk (numV (tk false l 1)).2.1 (numV (tk false l 1)).2.2 2)).2.2 3).1.getD []) = true then false else true) (tag := 4) b3 (by decide)
 have F := (fin_ref hb hl T1' T2' T3 T4).2
 obtain ⟨a1, a2, a3, a4, _⟩ := F r hr h1
 obtain ⟨c1, c2, c3, c4, _⟩ := F s hs h2
 have e := entF_inj r.es s.es (mayR_parts hr).2 (mayR_parts hs).2 (a3.symm.trans c3)
 cases r; cases s
 simp only [Res.mk.injEq]
 exact ⟨a1.symm.trans c1, a2.symm.trans c2, e, a4.symm.trans c4⟩
theorem resultOf_yes (A : Option Addr) (c : Nat) (l : List Int) (rb : Res) (w : World) (hr : Rd w w.heap.size A l) (hby : Byt l) (hn : l.length ≤ 20000) (hm : mayR rb = true) (hl : l = resB rb) :
   Calls Tryz.prog 21 #[.slice A l.length c] w fun e w' => ∃ Aa na ca Ac nc cc, e = .returned (.tuple #[rsVal rb.k rb.y (.slice Aa na ca) (.slice Ac nc cc), .int .i64 0]) ∧ ResAt w' rb (.slice Aa na ca) (.slice Ac nc cc) ∧ LimR rb ∧ Below w.heap.size w w' :=
 (resultOf_any A c l w hr hby (by omega)).mono fun e w' h => by
   rcases h with ⟨r, ve, vc, h1, h2, rfl, h4, h5, h6⟩ | ⟨h1, _⟩
   · obtain rfl := resB_inj hby (by omega) h1 hm h2 hl
     obtain ⟨A1, c1, n1, rfl, _⟩ := h4.e.len
     obtain ⟨A3, c3, n3, rfl, _⟩ := h4.c.len
     exact ⟨A1, n1, c1, A3, n3, c3, rfl, h4, h5, h6⟩
   · exact absurd hl (h1 rb hm)
theorem resultOf_no (A : Option Addr) (c : Nat) (l : List Int) (w : World) (hr : Rd w w.heap.size A l) (hby : Byt l) (hn : l.length ≤ 20000) (hno : ∀ r, mayR r = true → l ≠ resB r) :
   Calls Tryz.prog 21 #[.slice A l.length c] w fun e w' => ∃ Aa na ca Ac nc cc, e = .returned (.tuple #[rsVal (res0 0).k (res0 0).y (.slice Aa na ca) (.slice Ac nc cc), .int .i64 4]) ∧ ResAt w' (res0 0) (.slice Aa na ca) (.slice Ac nc cc) ∧ LimR (res0 0) ∧ Below w.heap.size w w' :=
 (resultOf_any A c l w hr hby (by omega)).mono fun e w' h => by
   rcases h with ⟨r, ve, vc, h1, h2, _⟩ | ⟨_, rfl, h3⟩
   · exact absurd h2 (hno r h1)
   · exact ⟨none, 0, 0, none, 0, 0, rfl, res0_at 0 w', res0_lim 0, h3⟩
theorem refResultOf_yes (A : Option Addr) (c : Nat) (l : List Int) (rb : Res) (w : World) (hr : Rd w w.heap.size A l) (hby : Byt l) (hn : l.length ≤ 20000) (hc : l.length ≤ c) (hcm : c ≤ 9223372036854775807) (hm : mayR rb = true) (hl : l = resB rb) :
   Calls Tryz.prog 22 #[.slice A l.length c] w fun e w' => ∃ Aa na ca Ac nc cc, e = .returned (.tuple #[rsVal rb.k rb.y (.slice Aa na ca) (.slice Ac nc cc), .bool true]) ∧ ResAt w' rb (.slice Aa na ca) (.slice Ac nc cc) ∧ LimR rb ∧ Below w.heap.size w w' :=
 (refResultOf_any A c l w hr hby (by omega) hc hcm).mono fun e w' h => by
   rcases h with ⟨r, ve, vc, h1, h2, rfl, h4, h5, h6⟩ | ⟨h1, _⟩
   · obtain rfl := resB_inj hby (by omega) h1 hm h2 hl
     obtain ⟨A1, c1, n1, rfl, _⟩ := h4.e.len
     obtain ⟨A3, c3, n3, rfl, _⟩ := h4.c.len
     exact ⟨A1, n1, c1, A3, n3, c3, rfl, h4, h5, h6⟩
   · exact absurd hl (h1 rb hm)
theorem refResultOf_no (A : Option Addr) (c : Nat) (l : List Int) (w : World) (hr : Rd w w.heap.size A l) (hby : Byt l) (hn : l.length ≤ 20000) (hc : l.length ≤ c) (hcm : c ≤ 9223372036854775807) (hno : ∀ r, mayR r = true → l ≠ resB r) :
   Calls Tryz.prog 22 #[.slice A l.length c] w fun e w' => ∃ Aa na ca Ac nc cc, e = .returned (.tuple #[rsVal (res0 0).k (res0 0).y (.slice Aa na ca) (.slice Ac nc cc), .bool false]) ∧ ResAt w' (res0 0) (.slice Aa na ca) (.slice Ac nc cc) ∧ LimR (res0 0) ∧ Below w.heap.size w w' :=
 (refResultOf_any A c l w hr hby (by omega) hc hcm).mono fun e w' h => by
   rcases h with ⟨r, ve, vc, h1, h2, _⟩ | ⟨_, rfl, h3⟩
   · exact absurd h2 (hno r h1)
   · exact ⟨none, 0, 0, none, 0, 0, rfl, res0_at 0 w', res0_lim 0, h3⟩
end Go.Proofs.YtcjiofhjognklaaGreat.Tlv
