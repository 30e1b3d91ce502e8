/- A copy of a result: the walk. -/
import Derived.Test.YtidkpdoiblomjaaZ33
namespace Go.Proofs.Ytidkpdoiblomjaa.Tlv
open Go.RowKit
set_option maxRecDepth 100000
set_option linter.unusedVariables false
set_option linter.unusedSimpArgs false
abbrev zR : Array Value := #[.int .i64 0, .bool false, .slice none 0 0, .slice none 0 0]
set_option maxHeartbeats 16000000 in
theorem copyRes (r : Res) (ve vc : Value) (w : World) (ha : ResAt w r ve vc) (hl : LimR r) (hlc : r.cur.length ≤ 1000000000) :
   Calls Try.prog 26 #[rsVal r.k r.y ve vc] w fun e w' => ∃ A n c C m k, e = .returned (rsVal r.k r.y (.slice A n c) (.slice C m k)) ∧ ResOwn w' w.heap.size r (.slice A n c) (.slice C m k) ∧ Below w.heap.size w w' := by
 have HA := Lib.hid fun (W : World) (h : Below w.heap.size w W) => ha.on h
 have HL := Lib.hid (And.intro hl hlc)
 obtain ⟨es, Aa, ca, na, rfl, HNa, HRa⟩ := ha.e.full
 obtain ⟨Ac, cc, nc, rfl, HNc, HRc⟩ := ha.c.full
 have hb1 := (Below.refl w.heap.size w).alloc (Nat.le_refl _) (.cells (rsCs r.k r.y (.slice Aa na ca) (.slice Ac nc cc)) 39)
 have hb2 := hb1.alloc hb1.size (.cells zR 39)
 have k0 := (Blk.new w 39 (rsCs r.k r.y (.slice Aa na ca) (.slice Ac nc cc))).alloc (.cells zR 39)
 have k1 := Blk.new (w.alloc (.cells (rsCs r.k r.y (.slice Aa na ca) (.slice Ac nc cc)) 39)) 39 zR
 rw [World.size_alloc] at k1
 have hsz : ((w.alloc (.cells (rsCs r.k r.y (.slice Aa na ca) (.slice Ac nc cc)) 39)).alloc (.cells zR 39)).heap.size = w.heap.size + 1 + 1 := by simp
 obtain ⟨B1, hB1⟩ : ∃ b, b = w.heap.size := ⟨_, rfl⟩
 have H0 := Lib.hid (And.intro hb2 (And.intro (hB1 ▸ k0) (And.intro (hB1 ▸ k1) (hB1 ▸ hsz))))
 have hn : na ≤ 1000000 := by have h1 := HNa.out.2; have h2 := hl.e.len; omega
 clear hb1 hb2 k0 k1 hsz ha hl hlc
 go_enter Try.func26, Try.ntmps26
 go_upto_region 1 with fail
 rw [← hB1]
 generalize (w.alloc (.cells (rsCs r.k r.y (.slice Aa na ca) (.slice Ac nc cc)) 39)).alloc (.cells #[.int .i64 0, .bool false, .slice none 0 0, .slice none 0 0] 39) = W0 at H0 ⊢
 have HBB := Lib.hid hB1
 clear hB1
 obtain ⟨a0, a1, a2, a3⟩ := rs_cells H0.out.2.1
 go_upto_region 3 with fail
 clear a0 a1 a2 a3
 go_loopw [3, 9] (fun s3 s9 wr => ∃ k : Nat, s9 = .int .i64 k ∧ k ≤ na ∧ Hid (∃ fs, RowK kE wr W0.heap.size s3 fs ∧ EnO wr W0.heap.size fs (r.es.take k) ∧ Below W0.heap.size W0 wr)) (fun _ s9 _ => na - (intOf s9).toNat)
 case atStart => exact ⟨0, rfl, Nat.zero_le _, Lib.hid ⟨[], nil_row kE _ _, EnO.nil _ _, Below.refl _ _⟩⟩
 case round =>
   obtain ⟨k, rfl, hk, HH⟩ := hrel
   obtain ⟨fs, HF1, HF2, HF3⟩ := HH.out
   have HF := Lib.hid (And.intro HF1 (And.intro HF2 HF3))
   clear HF1 HF2 HF3 HH
   by_cases hlt : k < na
   · have hka : k < r.es.length := by have := HNa.out.2; omega
     have hke : k < es.length := by have := HNa.out.1; omega
     have HWW := Lib.hid (H0.out.1.trans (HF.out.2.2.mono H0.out.1.size))
     obtain ⟨c1, o1, rfl, hl1, c0, c0'⟩ := en_cells HRa.out.1 HWW.out hke
     obtain ⟨m1, m2⟩ := HRa.out.2.2 k hke
     have l1 := HL.out.1.e.la _ (mem_getE hka)
     have HTS := Lib.hid (take_snocE r.es k hka)
     have HFL : Hid (fs.length ≤ 1000000) := Lib.hid (by have h1 := HF.out.2.1.1; rw [List.length_take] at h1; omega)
     generalize es.getD k default = x at c0 c0' m1 m2
     generalize r.es.getD k default = y at m1 m2 l1 HTS
     obtain ⟨xn, xA, xm, xc⟩ := x
     obtain ⟨yn, ya⟩ := y
     dsimp only [En.v] at c0 c0' m1 m2 l1
     subst m1
     have HC : Hid (∀ V, Below w.heap.size w V → Calls Try.prog 41 #[.agg #[.string (sx xn), .slice xA xm xc]] V fun e w' => ∃ A n c, e = .returned (.agg #[.string (sx xn), .slice A n c]) ∧ Ytidkpdoiblomjaa.RowK kA w' V.heap.size (.slice A n c) ya ∧ Below V.heap.size V w') := Lib.hid fun V hV => by
       refine (Ytidkpdoiblomjaa.copy_any xn ya _ V (Ytidkpdoiblomjaa.RdV.on m2 hV) l1).mono ?_
       rintro e w' ⟨v', h1, h2, h3⟩
       obtain ⟨A, c, n, rfl, _, _⟩ := rdv_len (Ytidkpdoiblomjaa.RowK.rdv h2)
       exact ⟨A, n, c, h1, h2, h3⟩
     clear m2 l1 hka hke
     go_upto_region 5 with (refine wpList_store_rowTo rfl 47 _ _ rfl rfl wr.heap.size #[.string (sx xn), .slice xA xm xc] rfl rfl 47 zE (Blk.new wr 47 zE) (by kernel_rfl) rfl (by kernel_rfl) ?_)
     have hb1 : Below wr.heap.size wr ((wr.alloc (.cells zE 47)).setRow wr.heap.size #[.string (sx xn), .slice xA xm xc]) := below_setRow ((Below.refl _ _).alloc (Nat.le_refl _) (.cells zE 47)) (Nat.le_refl _) _
     have k5 : Blk ((wr.alloc (.cells zE 47)).setRow wr.heap.size #[.string (sx xn), .slice xA xm xc]) wr.heap.size 47 #[.string (sx xn), .slice xA xm xc] := (Blk.new wr 47 zE).row _
     obtain ⟨B5, hB5⟩ : ∃ B, B = wr.heap.size := ⟨_, rfl⟩
     have hbz : Below wr.heap.size wr ((wr.alloc (.cells zE 47)).setRow B5 #[.string (sx xn), .slice xA xm xc]) := by rw [hB5]; exact hb1
     rw [← hB5] at k5 ⊢
     clear hb1 hB5 c0 c0'
     generalize (wr.alloc (.cells zE 47)).setRow B5 #[.string (sx xn), .slice xA xm xc] = W1 at k5 hbz ⊢
     have H1 := Lib.hid (And.intro (HF.out.2.2.trans (hbz.mono HF.out.2.2.size)) (And.intro k5 (And.intro (RowK.onT HF.out.1 hbz) (HF.out.2.1.on hbz))))
     have HC' := Lib.hid (HC.out W1 (HWW.out.trans (hbz.mono HWW.out.size)))
     clear hbz k5 HC
     go_wp2_with (first
       | (refine wpList_load_row rfl 47 _ rfl B5 rfl 47 #[.string (sx xn), .slice xA xm xc] (0, 0) _ H1.out.2.1 rfl rfl (by kernel_rfl) ?_)
       | (go_at_call 41; (with_reducible refine HC'.out.mono ?_); clear HC'; rintro e w2 ⟨A2, n2, c2, rfl, hr2, hb2⟩; dsimp only; have H2 := Lib.hid (And.intro hr2 (And.intro hb2 (H1.out.1.trans (hb2.mono H1.out.1.size)))); clear hr2 hb2)
       | (at_builtin; refine wpList_appT kE (n := 1) rfl _ _ rfl [⟨xn, A2, n2, c2⟩] rfl rfl ((RowK.onT H1.out.2.2.1 H2.out.2.1).alloc _) rfl (rd_oneE w2 ⟨xn, A2, n2, c2⟩) (fun h => by cases h) (by have := HFL.out; simp; omega) (by rw [World.size_alloc]; have := H2.out.2.2.size; omega) ?_; intro v3 w3 hr3 hg3; have H3 := Lib.hid (And.intro hr3 hg3); clear hr3 hg3))
     go_roundw
     case rel => exact ⟨k + 1, by go_num, by omega, Lib.hid (by
       have ha := (Below.refl w2.heap.size w2).alloc (Nat.le_refl _) (.cells #[.string (sx xn), .slice A2 n2 c2] 47)
       have e1 := EnO.snoc (x := ⟨xn, A2, n2, c2⟩) (y := ⟨xn, ya⟩) (H1.out.2.2.2.on H2.out.2.1) rfl (Ytidkpdoiblomjaa.RowK.low H2.out.1 H1.out.1.size)
       have e2 := e1.on ha
       have hrow := (RowK.onT H1.out.2.2.1 H2.out.2.1).alloc (.cells #[.string (sx xn), .slice A2 n2 c2] 47)
       have e3 := e2.fit (w' := w3) fun j cs _ hc => H3.out.2.block j (Blk.lt hc) (fun e => by
         obtain ⟨_, _, cs', hc'⟩ := own_atT hrow e.symm
         exact blk_ne hc hc' (by decide) rfl)
       have hz : W0.heap.size ≤ (w2.alloc (.cells #[.string (sx xn), .slice A2 n2 c2] 47)).heap.size := by rw [World.size_alloc]; have := H2.out.2.2.size; omega
       exact ⟨_, H3.out.1, by rw [HTS.out]; exact e3, (H2.out.2.2.trans (ha.mono H2.out.2.2.size)).trans (row_below hrow H3.out.2 hz)⟩)⟩
     case measure => simp [intOf]; omega
   · have hkn : na = k := by omega
     subst hkn
     obtain ⟨A3, c3, n3, HN3, rfl, _, _⟩ := HF.out.1.rdn
     have HTK : Hid (r.es.take na = r.es) := Lib.hid (by rw [HNa.out.2, List.take_length])
     have HWW := Lib.hid (H0.out.1.trans (HF.out.2.2.mono H0.out.1.size))
     obtain ⟨a0, a1, a2, a3⟩ := rs_cells (H0.out.2.1.on HF.out.2.2)
     have HCL : Hid (Calls Try.prog 42 #[.slice Ac nc cc] wr fun e w' => ∃ A' n' c', e = .returned (.slice A' n' c') ∧ RowK kB w' wr.heap.size (.slice A' n' c') r.cur ∧ Below wr.heap.size wr w') := Lib.hid (by
       obtain ⟨A, c, e, _, hr⟩ := (HA.out wr HWW.out).c
       injection e with e1 e2 e3
       subst e1 e2 e3
       exact (clone_any _ _ r.cur wr hr (Nat.le_trans HL.out.2 (by decide))).mono fun e w' ⟨v', h1, h2, h3⟩ => by
         have h4 := row_k.2 h2
         obtain ⟨A1, c1, n1, _, rfl, _, _⟩ := h4.rdn
         exact ⟨A1, n1, c1, h1, h4, h3⟩)
     go_upto_region 8 with (go_at_call 42; (with_reducible refine HCL.out.mono ?_); clear HCL a0 a1 a2 a3; rintro e w5 ⟨A5, n5, c5, rfl, hr5, hb5⟩; dsimp only; have H5 := Lib.hid (And.intro (HF.out.2.2.trans (hb5.mono HF.out.2.2.size)) (And.intro hr5 hb5)); clear hr5 hb5; obtain ⟨a0, a1, a2, a3⟩ := rs_cells (H0.out.2.1.on H5.out.1); have z2 := (H0.out.2.1.on H5.out.1).frozen 2; have z3 := (H0.out.2.1.on H5.out.1).frozen 3)
     clear a0 a1 a2 a3 z2 z3
     have hlt2 : B1 < W0.heap.size := by have := H0.out.2.2.2; omega
     have hk : Blk ((w5.setCell ⟨B1, 2, none⟩ (.slice A3 n3 c3)).setCell ⟨B1, 3, none⟩ (.slice A5 n5 c5)) B1 39 (rsCs r.k r.y (.slice A3 n3 c3) (.slice A5 n5 c5)) := ((H0.out.2.1.on H5.out.1).set_ 2 (.slice A3 n3 c3)).set_ 3 (.slice A5 n5 c5)
     have hk2 : Blk ((w5.setCell ⟨B1, 2, none⟩ (.slice A3 n3 c3)).setCell ⟨B1, 3, none⟩ (.slice A5 n5 c5)) (B1 + 1) 39 zR := ((H0.out.2.2.1.on H5.out.1).far (p := ⟨B1, 2, none⟩) (show B1 + 1 ≠ B1 by omega) _).far (p := ⟨B1, 3, none⟩) (show B1 + 1 ≠ B1 by omega) _
     have hbe := ((H0.out.1.trans (H5.out.1.mono H0.out.1.size)).setCell (p := ⟨B1, 2, none⟩) (show w.heap.size ≤ B1 by have := HBB.out; omega) (.slice A3 n3 c3)).setCell (p := ⟨B1, 3, none⟩) (show w.heap.size ≤ B1 by have := HBB.out; omega) (.slice A5 n5 c5)
     have hown : ResOwn ((w5.setCell ⟨B1, 2, none⟩ (.slice A3 n3 c3)).setCell ⟨B1, 3, none⟩ (.slice A5 n5 c5)) W0.heap.size r (.slice A3 n3 c3) (.slice A5 n5 c5) := by
       have h : ResOwn w5 W0.heap.size r (.slice A3 n3 c3) (.slice A5 n5 c5) := ⟨⟨fs, RowK.onT HF.out.1 H5.out.2.2, by have h := HF.out.2.1.on H5.out.2.2; rw [HTK.out] at h; exact h⟩, RowK.lowR H5.out.2.1 HF.out.2.2.size⟩
       exact h.keep fun k h1 h2 => (Below.heap_setCell _ ⟨B1, 3, none⟩ _ k (show k ≠ B1 by omega)).trans (Below.heap_setCell _ ⟨B1, 2, none⟩ _ k (show k ≠ B1 by omega))
     have HE := Lib.hid (And.intro hown (And.intro hbe (And.intro hk (And.intro hk2 hlt2))))
     clear hown hbe hk hk2 hlt2
     generalize (w5.setCell ⟨B1, 2, none⟩ (.slice A3 n3 c3)).setCell ⟨B1, 3, none⟩ (.slice A5 n5 c5) = w6 at HE ⊢
     go_wp2_with (first
       | (refine wpList_load_row rfl 39 _ rfl B1 rfl 39 (rsCs r.k r.y (.slice A3 n3 c3) (.slice A5 n5 c5)) (0, 0) _ HE.out.2.2.1 rfl rfl (by kernel_rfl) ?_)
       | (refine wpList_store_rowTo rfl 39 _ _ rfl rfl (B1 + 1) (rsCs r.k r.y (.slice A3 n3 c3) (.slice A5 n5 c5)) rfl rfl 39 zR HE.out.2.2.2.1 (by kernel_rfl) rfl (by kernel_rfl) ?_))
     have h9 := HE.out.2.2.2.1.row (rsCs r.k r.y (.slice A3 n3 c3) (.slice A5 n5 c5))
     have h8 := below_setRow HE.out.2.1 (show w.heap.size ≤ B1 + 1 by have := HBB.out; omega) (rsCs r.k r.y (.slice A3 n3 c3) (.slice A5 n5 c5))
     have h7 : ResOwn (w6.setRow (B1 + 1) (rsCs r.k r.y (.slice A3 n3 c3) (.slice A5 n5 c5))) W0.heap.size r (.slice A3 n3 c3) (.slice A5 n5 c5) := HE.out.1.keep fun k h1 h2 => setRow_other _ _ k _ (by have := H0.out.2.2.2; omega)
     have t0 := h9.cell 0
     have t1 := h9.cell 1
     have t2 := h9.cell 2
     have t3 := h9.cell 3
     have HZ := Lib.hid (And.intro (h7.low H0.out.1.size) h8)
     clear h7 h8 h9
     generalize w6.setRow (B1 + 1) (rsCs r.k r.y (.slice A3 n3 c3) (.slice A5 n5 c5)) = w7 at t0 t1 t2 t3 HZ ⊢
     refine bodyPost_ret (v := rsVal r.k r.y (.slice A3 n3 c3) (.slice A5 n5 c5)) ?_ rfl ⟨A3, n3, c3, A5, n5, c5, rfl, HZ.out.1, HZ.out.2⟩
     simp at t0 t1 t2 t3
     simp [results, Try.f26, go_sem, t0, t1, t2, t3]
end Go.Proofs.Ytidkpdoiblomjaa.Tlv
