/- A result's bytes, by the program. -/
import Derived.Test.YtidkpdoiblomjaaZ26
import Derived.Test.YtidkpdoiblomjaaZ31
import Derived.Test.YtidkpdoiblomjaaZ30
import Derived.Test.YtidkpdoiblomjaaZ33
import Derived.Deep.RegionLaw
import Derived.Laws.OwnMore
namespace Go.Proofs.Ytidkpdoiblomjaa.Tlv
open Go.RowKit
set_option maxRecDepth 100000
set_option linter.unusedVariables false
set_option linter.unusedSimpArgs false
theorem info25S : (Try.prog.info? 37).map (fun i => (i.zero, i.size, i.bytes)) = some (some (.slice none 0 0), 1, 24) := by kernel_rfl
theorem flatS (hs : List Hand) : flatK kS hs = hs.map fun h => Value.slice h.A h.bs.length h.c := by
 induction hs with
 | nil => rfl
 | cons x t ih => unfold flatK at ih ⊢; rw [List.flatMap_cons, ih]; rfl
theorem madeS (W : World) (n : Nat) (hn : n ≤ 1000) : ∃ W', (Instr.makeSlice 79 (.int .i64 (n : Int)) (.int .i64 (n : Int))).run Try.prog W = .ok (.slice (some ⟨W.heap.size, 0, none⟩) n n) W' ∧ RowK kS W' W.heap.size (.slice (some ⟨W.heap.size, 0, none⟩) n n) (List.replicate n default) ∧ W.grownBy W' none := by
 obtain ⟨i, hi, h0, h1, h2⟩ := info_parts info25S
 obtain ⟨W', r1, r2, r3⟩ := run_makeSlice_full (P := Try.prog) W W.heap.size 79 37 i _ 1 kS.sl hi h0 h1 .i64 .i64 n (by omega) (by rw [h2]; omega) (by unfold maxLen; omega) (Nat.le_refl _)
 refine ⟨W', r1, ?_, r3⟩
 have e : (madeCells (Value.slice none 0 0).cells (n * 1)).toList = flatK kS (List.replicate n default) := by
   rw [flatS, List.map_replicate, Nat.mul_one]
   exact toList_madeCells_one _ n
 rw [e] at r2
 unfold RowK
 rw [List.length_replicate]
 exact r2
theorem rowS_set {W : World} {base g n c k : Nat} {hs : List Hand} (h : RowK kS W base (.slice (some ⟨g, 0, none⟩) n c) hs) (hn : n = hs.length) (x : Hand) : RowK kS (W.setCell ⟨g, k, none⟩ (.slice x.A x.bs.length x.c)) base (.slice (some ⟨g, 0, none⟩) n c) (hs.set k x) := by
 subst hn
 have h1 := (World.ownsRow.stored h k (.slice x.A x.bs.length x.c)).1
 unfold RowK
 rw [List.length_set, flatS, List.map_set, ← flatS]
 exact h1
theorem rd_lowQ {w : World} {base : Nat} {v : Value} {l : List Int} (h : Row w base v l) : ∃ A cap, v = .slice A l.length cap ∧ l.length ≤ cap ∧ Rd w w.heap.size A l ∧ (A = none → cap = 0) := by
 obtain ⟨A, c, e, h1, h2⟩ := h.rd
 refine ⟨A, c, e, h1, h2, fun hA => ?_⟩
 subst e hA
 rcases h.2 with ⟨e0, _⟩ | ⟨g, cap, cur, e0, _⟩
 · injection e0
 · injection e0 with e0
   cases e0
theorem rowS_at {W : World} {base g n c k : Nat} {hs : List Hand} (h : RowK kS W base (.slice (some ⟨g, 0, none⟩) n c) hs) (hn : n = hs.length) (hk : k < hs.length) : W.frozen? ⟨g, k, none⟩ = false ∧ ∃ u, W.cell? ⟨g, k, none⟩ = some u := by
 subst hn
 refine ⟨World.ownsRow.frozenAt h k, ?_⟩
 have h9 := World.ownsRow.cellAt h k (by show k < hs.length * 1; omega)
 have hl9 : k < (flatK kS hs).length := by rw [flat_length]; show k < hs.length * 1; omega
 exact ⟨_, h9.trans (List.getElem?_eq_getElem hl9)⟩
def HOk (W : World) (base : Nat) (hs : List Hand) (l : List Eny) (k : Nat) : Prop := hs.length = l.length ∧ ∀ j, j < k → RowK kB W base (.slice (hs.getD j default).A (hs.getD j default).bs.length (hs.getD j default).c) (hs.getD j default).bs ∧ (hs.getD j default).bs = entB (l.getD j default).nm (l.getD j default).ats ∧ mayEn (l.getD j default) = true
theorem HOk.on {W W' : World} {base k : Nat} {hs : List Hand} {l : List Eny} (h : HOk W base hs l k) (hb : Below W.heap.size W W') : HOk W' base hs l k := ⟨h.1, fun j hj => ⟨RowK.onT (h.2 j hj).1 hb, (h.2 j hj).2⟩⟩
theorem HOk.set {W : World} {base k g : Nat} {hs : List Hand} {l : List Eny} {cs : Array Value} (h : HOk W base hs l k) (hk : k < hs.length) (hb : Blk W g 37 cs) (x : Hand) (hx : RowK kB W base (.slice x.A x.bs.length x.c) x.bs) (he : x.bs = entB (l.getD k default).nm (l.getD k default).ats) (hm : mayEn (l.getD k default) = true) (u : Value) : HOk (W.setCell ⟨g, k, none⟩ u) base (hs.set k x) l (k + 1) := by
 refine ⟨by rw [List.length_set]; exact h.1, fun j hj => ?_⟩
 by_cases e : j = k
 · subst e
   have e1 : (hs.set j x).getD j default = x := by rw [List.getD_eq_getElem?_getD, List.getElem?_set_self hk]; rfl
   rw [e1]
   exact ⟨RowK.setT hx hb (by decide), he, hm⟩
 · have e1 : (hs.set k x).getD j default = hs.getD j default := by rw [List.getD_eq_getElem?_getD, List.getElem?_set_ne (fun e2 => e e2.symm), ← List.getD_eq_getElem?_getD]
   rw [e1]
   obtain ⟨h1, h2⟩ := h.2 j (by omega)
   exact ⟨RowK.setT h1 hb (by decide), h2⟩
theorem hands_ents {W : World} {base : Nat} {hs : List Hand} {l : List Eny} (h : HOk W base hs l l.length) : handsB hs = entsB l := by
 have e : hs.map (fun x => x.bs) = l.map (fun e => entB e.nm e.ats) := by
   apply List.ext_getElem (by rw [List.length_map, List.length_map]; exact h.1)
   intro j h1 h2
   rw [List.length_map] at h1 h2
   have h3 := (h.2 j h2).2.1
   rw [List.getD_eq_getElem?_getD, List.getElem?_eq_getElem h1, List.getD_eq_getElem?_getD, List.getElem?_eq_getElem h2] at h3
   rw [List.getElem_map, List.getElem_map]
   exact h3
 have e1 : handsB hs = (hs.map fun x => x.bs).flatMap (valB 1) := by unfold handsB; rw [List.flatMap_map]
 have e2 : entsB l = (l.map fun e => entB e.nm e.ats).flatMap (valB 1) := by unfold entsB; rw [List.flatMap_map]
 rw [e1, e2, e]
theorem handsB_take (hs : List Hand) (k : Nat) : (handsB (hs.take k)).length ≤ (handsB hs).length := by
 have h : handsB hs = handsB (hs.take k) ++ handsB (hs.drop k) := by
   unfold handsB
   rw [← List.flatMap_append, List.take_append_drop]
 have := congrArg List.length h
 rw [List.length_append] at this
 omega
theorem HOk.hand {W : World} {base B : Nat} {hs : List Hand} {l : List Eny} (h : HOk W base hs l l.length) (hB : W.heap.size ≤ B) : ∀ x ∈ hs, Rd W B x.A x.bs ∧ (x.A = none → x.c = 0) ∧ x.bs.length ≤ 4194304 := fun x hx => by
 obtain ⟨j, hj, e⟩ := List.mem_iff_getElem.1 hx
 have h1 := h.2 j (by rw [← h.1]; exact hj)
 have e1 : hs.getD j default = x := by rw [List.getD_eq_getElem?_getD, List.getElem?_eq_getElem hj]; exact e
 rw [e1] at h1
 obtain ⟨h2, h3, h4⟩ := h1
 obtain ⟨A, c, e2, _, h5, h6⟩ := rd_lowQ (row_k.1 h2)
 injection e2 with e2 e3 e4
 subst e2 e4
 refine ⟨h5.more hB, h6, ?_⟩
 rw [h3]
 exact Nat.le_trans (entB_few h4) (by decide)
def RsOut (r : Res) (w : World) (e : Ending) (w' : World) : Prop :=
 (mayR r = true ∧ ∃ A m k, e = .returned (.tuple #[.slice A m k, .int .i64 0]) ∧ m = (resB r).length ∧ Row w' w.heap.size (.slice A m k) (resB r) ∧ Below w.heap.size w w') ∨
 (mayR r = false ∧ e = .returned (.tuple #[.slice none 0 0, .int .i64 2]) ∧ Below w.heap.size w w')
set_option maxHeartbeats 4000000 in
theorem resBytes_no (r : Res) (ve vc : Value) (w : World) (ha : ResAt w r ve vc) (hm : mayF r.k r.y r.es.length r.cur.length = false) : Calls Try.prog 40 #[rsVal r.k r.y ve vc] w fun e w' => e = .returned (.tuple #[.slice none 0 0, .int .i64 2]) ∧ Below w.heap.size w w' := by
 obtain ⟨es, Aa, ca, na, rfl, HNa, HRa⟩ := ha.e.full
 obtain ⟨Ac, cc, nc, rfl, HNc, HRc⟩ := ha.c.full
 have hb : Below w.heap.size w (w.alloc (.cells (rsCs r.k r.y (.slice Aa na ca) (.slice Ac nc cc)) 39)) := (Below.refl _ _).alloc (Nat.le_refl _) _
 obtain ⟨a0, a1, a2, a3⟩ := rs_cells (Blk.new w 39 (rsCs r.k r.y (.slice Aa na ca) (.slice Ac nc cc)))
 have hM := mayF_any r.k r.y Aa Ac na ca nc cc (w.alloc (.cells (rsCs r.k r.y (.slice Aa na ca) (.slice Ac nc cc)) 39))
 rw [show mayF r.k r.y na nc = false from by rw [HNa.out.2, HNc.out]; exact hm] at hM
 have HM := Lib.hid hM
 have HB := Lib.hid hb
 clear hb hM ha
 go_enter Try.func40, Try.ntmps40
 go_wp2_with (go_at_call 52; (with_reducible refine HM.out.mono ?_); rintro e wx ⟨rfl, hbx⟩)
 go_ret2
 exact ⟨rfl, HB.out.trans (hbx.mono HB.out.size)⟩
set_option maxHeartbeats 16000000 in
theorem resBytes_any (r : Res) (ve vc : Value) (w : World) (ha : ResAt w r ve vc) (hl : LimR r) (hf : Fit r) : Calls Try.prog 40 #[rsVal r.k r.y ve vc] w (RsOut r w) := by
 cases hm : mayF r.k r.y r.es.length r.cur.length with
 | false =>
   exact (resBytes_no r ve vc w ha hm).mono fun e w' ⟨h1, h2⟩ => .inr ⟨by unfold mayR; rw [hm]; rfl, h1, h2⟩
 | true =>
 obtain ⟨_, hk0, hk14, hne, hnc⟩ := mayF_iff.1 hm
 have HA := Lib.hid fun (W : World) (h : Below w.heap.size w W) => ha.on h
 have HL := Lib.hid (And.intro hl (And.intro hf hm))
 obtain ⟨es, Aa, ca, na, rfl, HNa, HRa⟩ := ha.e.full
 obtain ⟨Ac, cc, nc, rfl, HNc, HRc⟩ := ha.c.full
 have hb1 := (Below.refl w.heap.size w).alloc (Nat.le_refl _) (.cells (rsCs r.k r.y (.slice Aa na ca) (.slice Ac nc cc)) 39)
 have k0 := Blk.new w 39 (rsCs r.k r.y (.slice Aa na ca) (.slice Ac nc cc))
 obtain ⟨B1, hB1⟩ : ∃ b, b = w.heap.size := ⟨_, rfl⟩
 have H0 := Lib.hid (And.intro hb1 (show Blk _ B1 39 _ from hB1 ▸ k0))
 have hn : na ≤ 1000 := by have := HNa.out.2; omega
 have HK := Lib.hid (And.intro hk0 (And.intro hk14 hnc))
 clear hb1 k0 ha hl hf hm hk0 hk14 hne hnc
 go_enter Try.func40, Try.ntmps40
 go_upto_region 1 with fail
 rw [← hB1]
 generalize w.alloc (.cells (rsCs r.k r.y (.slice Aa na ca) (.slice Ac nc cc)) 39) = W0 at H0 ⊢
 clear hB1
 have HM : Hid (Calls Try.prog 52 #[rsVal r.k r.y (.slice Aa na ca) (.slice Ac nc cc)] W0 fun e w' => e = .returned (.bool true) ∧ Below W0.heap.size W0 w') := Lib.hid (by
   have h := mayF_any r.k r.y Aa Ac na ca nc cc W0
   rw [show mayF r.k r.y na nc = true from by rw [HNa.out.2, HNc.out]; exact HL.out.2.2] at h
   exact h)
 obtain ⟨a0, a1, a2, a3⟩ := rs_cells H0.out.2
 go_upto_region 3 with (go_at_call 52; (with_reducible refine HM.out.mono ?_); clear HM a0 a1 a2 a3; rintro e w1 ⟨rfl, hb1⟩; dsimp only; have H1 := Lib.hid (And.intro (H0.out.1.trans (hb1.mono H0.out.1.size)) (H0.out.2.on hb1)); clear hb1)
 clear H0
 obtain ⟨w2, hmk, hrow, hgr⟩ := madeS w1 na hn
 have H2 := Lib.hid (And.intro hrow hgr)
 clear hrow hgr
 have a2 : w1.cell? ⟨B1, 2, none⟩ = some (.slice Aa na ca) := H1.out.2.cell 2
 go_upto_region 4 with fail
 have hb2 : Below w1.heap.size w1 w2 := grown_none H2.out.2 (Nat.le_refl _)
 have hb3 : Below w1.heap.size w1 (w2.alloc (.cells #[.slice (some ⟨w1.heap.size, 0, none⟩) na na] 79)) := hb2.alloc hb2.size _
 have kC : Blk (w2.alloc (.cells #[.slice (some ⟨w1.heap.size, 0, none⟩) na na] 79)) w2.heap.size 79 #[.slice (some ⟨w1.heap.size, 0, none⟩) na na] := Blk.new w2 79 _
 have hr3 : RowK kS (w2.alloc (.cells #[.slice (some ⟨w1.heap.size, 0, none⟩) na na] 79)) w1.heap.size (.slice (some ⟨w1.heap.size, 0, none⟩) na na) (List.replicate na default) := H2.out.1.alloc _
 have h3 := And.intro (H1.out.1.trans (hb3.mono H1.out.1.size)) (And.intro (H1.out.2.on hb3) (And.intro kC (And.intro hr3 (And.intro H1.out.1.size hb3.size))))
 obtain ⟨g, hg⟩ : ∃ g, g = w1.heap.size := ⟨_, rfl⟩
 obtain ⟨Bc, hBc⟩ : ∃ b, b = w2.heap.size := ⟨_, rfl⟩
 rw [← hg, ← hBc] at h3 ⊢
 clear hg hBc hb2 hb3 kC hr3 hmk H1 H2 a2
 generalize w2.alloc (.cells #[.slice (some ⟨g, 0, none⟩) na na] 79) = W3 at h3 ⊢
 have H3 := Lib.hid h3
 clear h3
 obtain ⟨a0, a1, a2, a3⟩ := rs_cells H3.out.2.1
 go_wp2
 clear a0 a1 a2 a3
 go_loopw [20] (fun s20 wr => ∃ k : Nat, s20 = .int .i64 k ∧ k ≤ na ∧ Hid (∃ hs, RowK kS wr g (.slice (some ⟨g, 0, none⟩) na na) hs ∧ HOk wr g hs r.es k ∧ Below g W3 wr ∧ Blk wr B1 39 (rsCs r.k r.y (.slice Aa na ca) (.slice Ac nc cc)) ∧ Blk wr Bc 79 #[.slice (some ⟨g, 0, none⟩) na na])) (fun s20 _ => na - (intOf s20).toNat)
 case atStart => exact ⟨0, rfl, Nat.zero_le _, Lib.hid ⟨_, H3.out.2.2.2.1, ⟨by rw [List.length_replicate]; exact HNa.out.2, fun j hj => absurd hj (Nat.not_lt_zero _)⟩, Below.refl _ _, H3.out.2.1, H3.out.2.2.1⟩⟩
 case round =>
   obtain ⟨k, rfl, hk, HH⟩ := hrel
   obtain ⟨hs, HF1, HF2, HF3, HF4, HF5⟩ := HH.out
   have HF := Lib.hid (And.intro HF1 (And.intro HF2 (And.intro HF3 (And.intro HF4 HF5))))
   clear HF1 HF2 HF3 HF4 HF5 HH
   have HWW : Hid (Below w.heap.size w wr) := Lib.hid (H3.out.1.trans (HF.out.2.2.1.mono H3.out.2.2.2.2.1))
   by_cases hlt : k < na
   · have hka : k < r.es.length := by have := HNa.out.2; omega
     have hke : k < es.length := by have := HNa.out.1; omega
     obtain ⟨c1, o1, rfl, hl1, c0, c0'⟩ := en_cells HRa.out.1 HWW.out hke
     obtain ⟨m1, m2⟩ := HRa.out.2.2 k hke
     have HLE := Lib.hid (And.intro (HL.out.1.e.nm _ (mem_getE hka)) (And.intro (HL.out.1.e.la _ (mem_getE hka)) (HL.out.1.e.sa _ (mem_getE hka))))
     have HMEM := Lib.hid (mem_getE hka)
     have HKH : Hid (k < hs.length) := Lib.hid (by rw [HF.out.2.1.1]; exact hka)
     have HYE : Hid (r.es.getD k default = r.es.getD k default) := Lib.hid rfl
     generalize es.getD k default = x at c0 c0' m1 m2
     generalize hyy : r.es.getD k default = y at m1 m2 HLE HMEM
     have HY := Lib.hid hyy
     obtain ⟨xn, xA, xm, xc⟩ := x
     obtain ⟨yn, ya⟩ := y
     dsimp only [En.v] at c0 c0' m1 m2
     subst m1
     have HC : Hid (∀ V, Below w.heap.size w V → Calls Try.prog 53 #[.agg #[.string (sx xn), .slice xA xm xc]] V (BytesOut V xn ya)) := Lib.hid fun V hV => bytesE_any xn ya _ V (Ytidkpdoiblomjaa.RdV.on m2 hV) HLE.out.1 HLE.out.2.2 HLE.out.2.1
     clear m2 hka hke hyy HYE
     go_upto_region 7 with (refine wpList_store_rowTo rfl 47 _ _ rfl rfl wr.heap.size #[.string (sx xn), .slice xA xm xc] rfl rfl 47 zE (Blk.new wr 47 zE) (by kernel_rfl) rfl (by kernel_rfl) ?_)
     have hb1 : Below wr.heap.size wr ((wr.alloc (.cells zE 47)).setRow wr.heap.size #[.string (sx xn), .slice xA xm xc]) := below_setRow ((Below.refl _ _).alloc (Nat.le_refl _) (.cells zE 47)) (Nat.le_refl _) _
     have k5 : Blk ((wr.alloc (.cells zE 47)).setRow wr.heap.size #[.string (sx xn), .slice xA xm xc]) wr.heap.size 47 #[.string (sx xn), .slice xA xm xc] := (Blk.new wr 47 zE).row _
     obtain ⟨B5, hB5⟩ : ∃ B, B = wr.heap.size := ⟨_, rfl⟩
     have hbz : Below wr.heap.size wr ((wr.alloc (.cells zE 47)).setRow B5 #[.string (sx xn), .slice xA xm xc]) := by rw [hB5]; exact hb1
     rw [← hB5] at k5 ⊢
     clear hb1 hB5 c0 c0'
     generalize (wr.alloc (.cells zE 47)).setRow B5 #[.string (sx xn), .slice xA xm xc] = W1 at k5 hbz ⊢
     have hz3 : g ≤ wr.heap.size := Nat.le_trans H3.out.2.2.2.2.2 HF.out.2.2.1.size
     have H1 := Lib.hid (And.intro k5 (And.intro hbz (And.intro (HWW.out.trans (hbz.mono HWW.out.size)) hz3)))
     have HC' := Lib.hid (HC.out W1 (HWW.out.trans (hbz.mono HWW.out.size)))
     clear hbz k5 HC hz3
     have HBO : Hid (Calls Try.prog 53 #[.agg #[.string (sx xn), .slice xA xm xc]] W1 fun e w' => ∃ A n c q, e = .returned (.tuple #[.slice A n c, .int .i64 q]) ∧ Below W1.heap.size W1 w' ∧ ((q = 0 ∧ mayE xn ya = true ∧ n = (entB xn ya).length ∧ RowK kB w' W1.heap.size (.slice A n c) (entB xn ya)) ∨ (q = 2 ∧ mayE xn ya = false))) := Lib.hid (HC'.out.mono fun e w' h => by
       rcases h with ⟨h1, v, rfl, h3, h4⟩ | ⟨h1, rfl, h3⟩
       · obtain ⟨A, c, rfl, _, _⟩ := h3.rd
         exact ⟨A, _, c, 0, rfl, h4, .inl ⟨rfl, h1, rfl, row_k.2 h3⟩⟩
       · exact ⟨none, 0, 0, 2, rfl, h3, .inr ⟨rfl, h1⟩⟩)
     clear HC'
     go_upto_region 8 with (first
       | (refine wpList_load_row rfl 47 _ rfl B5 rfl 47 #[.string (sx xn), .slice xA xm xc] (0, 0) _ H1.out.1 rfl rfl (by kernel_rfl) ?_)
       | (go_at_call 53; (with_reducible refine HBO.out.mono ?_); clear HBO; rintro e w5 ⟨A2, n2, c2, q2, rfl, hb2, hc2⟩; dsimp only; have H2 := Lib.hid (And.intro hb2 hc2); clear hb2 hc2))
     have hbz := H2.out.1
     have hbw : Below wr.heap.size wr w5 := H1.out.2.1.trans (hbz.mono H1.out.2.1.size)
     rcases H2.out.2 with ⟨rfl, h1, h2, h3⟩ | ⟨rfl, h1⟩
     · have hrow5 := RowK.onT HF.out.1 hbw
       obtain ⟨_, _, cs5, hk5⟩ := own_atT hrow5 (g := g) rfl
       have hnn : na = hs.length := by rw [HF.out.2.1.1]; exact HNa.out.2
       have hset := rowS_set (k := k) hrow5 hnn ⟨0, A2, c2, entB xn ya⟩
       have hx : RowK kB w5 g (.slice A2 (entB xn ya).length c2) (entB xn ya) := by rw [← h2]; exact RowK.lowR h3 (Nat.le_trans H1.out.2.2.2 H1.out.2.1.size)
       have hok := HOk.set (HF.out.2.1.on hbw) HKH.out hk5 ⟨0, A2, c2, entB xn ya⟩ hx (by rw [HY.out]) (by rw [HY.out]; exact h1) (.slice A2 (entB xn ya).length c2)
       have hbe : Below g W3 (w5.setCell ⟨g, k, none⟩ (.slice A2 (entB xn ya).length c2)) := (HF.out.2.2.1.trans (hbw.mono H1.out.2.2.2)).setCell (p := ⟨g, k, none⟩) (Nat.le_refl _) _
       have hq1 := (HF.out.2.2.2.1.on hbw).far (p := ⟨g, k, none⟩) (fun e => blk_ne (HF.out.2.2.2.1.on hbw) hk5 (by decide) e) (.slice A2 (entB xn ya).length c2)
       have hq2 := (HF.out.2.2.2.2.on hbw).far (p := ⟨g, k, none⟩) (fun e => blk_ne (HF.out.2.2.2.2.on hbw) hk5 (by decide) e) (.slice A2 (entB xn ya).length c2)
       dsimp only at hset hok
       rw [← h2] at hset hok hbe hq1 hq2
       have HE := Lib.hid (And.intro hset (And.intro hok (And.intro hbe (And.intro hq1 hq2))))
       have d0 : w5.cell? ⟨Bc, 0, none⟩ = some (.slice (some ⟨g, 0, none⟩) na na) := (HF.out.2.2.2.2.on hbw).cell 0
       obtain ⟨fz, u9, hu9⟩ := rowS_at hrow5 hnn HKH.out
       clear hset hok hbe hq1 hq2 hx hk5 hrow5 hnn h1 h2 h3 hbz hbw
       go_wp2
       go_roundw
       case rel => exact ⟨k + 1, by go_num, by omega, Lib.hid ⟨_, HE.out⟩⟩
       case measure => simp [intOf]; omega
     · have HNO : Hid (mayR r = false) := Lib.hid (by
         cases h : mayR r with
         | false => rfl
         | true =>
           have := (mayR_parts h).2 _ HMEM.out
           unfold mayEn at this
           rw [h1] at this
           cases this)
       have HB := Lib.hid (H1.out.2.2.1.trans (hbz.mono H1.out.2.2.1.size))
       clear hbz hbw h1
       go_wp2
       go_ret2
       exact .inr ⟨HNO.out, rfl, HB.out⟩
   · have hkn : na = k := by omega
     subst hkn
     have hlen : r.es.length = na := HNa.out.2.symm
     have hok : HOk wr g hs r.es r.es.length := by rw [hlen]; exact HF.out.2.1
     have hall : ∀ e ∈ r.es, mayEn e = true := fun e he => by
       obtain ⟨j, hj, e1⟩ := List.mem_iff_getElem.1 he
       have h := (hok.2 j hj).2.2
       rw [List.getD_eq_getElem?_getD, List.getElem?_eq_getElem hj] at h
       rw [← e1]
       exact h
     have HMR := Lib.hid (mayR_is HL.out.2.2 hall)
     have HEB := Lib.hid (hands_ents hok)
     have HFT := Lib.hid (HL.out.2.1 hall)
     have HHD := Lib.hid (hok.hand (Nat.le_refl _))
     have hnh : na = hs.length := by rw [hok.1]; exact hlen.symm
     have HNH := Lib.hid hnh
     have HRD : Hid (RdK kS wr wr.heap.size (some ⟨g, 0, none⟩) hs) := Lib.hid (by
       obtain ⟨A, c, n, _, e, _, h⟩ := HF.out.1.rdn
       injection e with e1 e2 e3
       subst e1
       exact h)
     have hws : WS ((wr.alloc (.cells #[.slice none 0 0, .int .i64 0, .int .i64 0] 108)).drew) wr.heap.size wr.heap.size (some []) 0 := ws_new wr
     have hb3 : Below wr.heap.size wr ((wr.alloc (.cells #[.slice none 0 0, .int .i64 0, .int .i64 0] 108)).drew) := Ytidkpdoiblomjaa.below_drew ((Below.refl _ _).alloc (Nat.le_refl _) _)
     have HN1 := w_num wr.heap.size [] 0 1 r.k _ hws (by decide) (by decide) HK.out.1 (by have := HK.out.2.1; omega) (by decide) (by decide)
     have HB3 := Lib.hid hb3
     have HX := Lib.hid fun W (h : Below wr.heap.size wr W) => And.intro (HF.out.2.2.2.1.on h) (HF.out.2.2.2.2.on h)
     have a0 : wr.cell? ⟨B1, 0, none⟩ = some (.int .i64 r.k) := HF.out.2.2.2.1.cell 0
     have a1 : wr.cell? ⟨B1, 1, none⟩ = some (.bool r.y) := HF.out.2.2.2.1.cell 1
     have b0 : (wr.alloc (.cells #[.slice none 0 0, .int .i64 0, .int .i64 0] 108)).cell? ⟨B1, 0, none⟩ = some (.int .i64 r.k) := (HX.out _ hb3).1.cell 0
     have b1 : (wr.alloc (.cells #[.slice none 0 0, .int .i64 0, .int .i64 0] 108)).cell? ⟨B1, 1, none⟩ = some (.bool r.y) := (HX.out _ hb3).1.cell 1
     have hwn : IntKind.u64.wrap r.k = r.k := IntWalk.u64_in _ ⟨HK.out.1, by have := HK.out.2.1; omega⟩
     clear hws hb3 hok hall hlen hnh
     go_wp2_with fail
     go_region_law (first
       | (go_simp; (with_reducible refine HN1.out.mono ?_); clear HN1 a0 b0 a1 b1; rintro e w5 ⟨rfl, hs5, hwb5⟩; dsimp only; have HB5 := Lib.hid (HB3.out.trans hwb5.bel); have a1 : w5.cell? ⟨B1, 1, none⟩ = some (.bool r.y) := (HX.out _ HB5.out).1.cell 1; have HN2 := w_flag wr.heap.size _ _ 2 r.y _ hs5 (by decide) (by decide) (by simp [valB_length, be8_length]) (by decide); clear hs5 hwb5)
       | (go_simp; (with_reducible refine HN2.out.mono ?_); clear HN2 a1; rintro e w6 ⟨rfl, hs6, hwb6⟩; dsimp only; have HB6 := Lib.hid (HB5.out.trans hwb6.bel); have HS6 := Lib.hid hs6; clear hs6 hwb6))
     all_goals
       have d0 : w6.cell? ⟨Bc, 0, none⟩ = some (.slice (some ⟨g, 0, none⟩) na na) := (HX.out _ HB6.out).2.cell 0
       have HLS := w_hands wr.heap.size Bc _ _ hs (some ⟨g, 0, none⟩) na na w6 HS6.out (HX.out _ HB6.out).2 (HRD.out.below HB6.out) HNH.out (by rw [← HNH.out]; exact hn) (fun x hx => ⟨(HHD.out x hx).1.below HB6.out, (HHD.out x hx).2⟩) (fun k _ => Nat.le_trans (handsB_take hs k) (by rw [HEB.out]; exact HFT.out)) (by simp [valB_length, be8_length]) (by decide)
       rw [HEB.out] at HLS
       go_wp2_with (first
         | (go_at_call 56; (with_reducible refine HLS.out.mono ?_); clear HLS d0; rintro e w7 ⟨rfl, hs7, hwb7⟩; dsimp only; have HB7 := Lib.hid (HB6.out.trans hwb7.bel); have a3 : w7.cell? ⟨B1, 3, none⟩ = some (.slice Ac nc cc) := (HX.out _ HB7.out).1.cell 3; have HBY := w_bytes wr.heap.size _ _ 4 r.cur Ac cc nc w7 hs7 HNc.out (((HRc.out.1.below HWW.out).more HWW.out.size).below HB7.out) HRc.out.2 (by decide) (by decide) (by have := HK.out.2.2; omega) (by have := HFT.out; simp [valB_length, be8_length]; omega) (by decide); clear hs7 hwb7)
         | (go_at_call 58; (with_reducible refine HBY.out.mono ?_); clear HBY a3; rintro e w8 ⟨rfl, hs8, hwb8⟩; dsimp only; have HB8 := Lib.hid (HB7.out.trans hwb8.bel); have HEN := Lib.hid (ended_ws _ _ _ (resB r) _ hs8 (by have h1 := HFT.out; have h2 := HK.out.2.2; rw [resB_len]; omega)); clear hs8 hwb8)
         | (go_at_call 59; (with_reducible refine HEN.out.mono ?_); clear HEN; rintro e w9 ⟨v9, rfl, hr9, hb9⟩; dsimp only; have HB9 := Lib.hid (HB8.out.trans (hb9.mono HB8.out.size)); have HR9 := Lib.hid (hr9.lowC (Nat.le_trans HWW.out.size HB8.out.size)); obtain ⟨A9, c9, rfl, _, _⟩ := hr9.rd; clear hr9 hb9))
       go_ret2
       exact .inl ⟨HMR.out, A9, _, c9, rfl, rfl, HR9.out, HWW.out.trans (HB9.out.mono HWW.out.size)⟩
end Go.Proofs.Ytidkpdoiblomjaa.Tlv
