/- Attributes' bytes, by the document. -/
import Derived.Test.YtniaijgejljjbaaGreatY15
import Derived.Deep.RegionHeld3
import Derived.Deep.RegionLaw
namespace Go.Proofs.YtniaijgejljjbaaGreat.Tlv
open Go.RowKit
set_option maxRecDepth 100000
set_option linter.unusedVariables false
set_option linter.unusedSimpArgs false
theorem cv_fun : ∃ (cv : World → ByteArray → World) (ca : World → ByteArray → Addr) (cc : World → ByteArray → Nat), ∀ W s, (convert 9 42 (.string s)).run Tryz.prog W = .ok (.slice (some (ca W s)) (bytesOf s).length (cc W s)) (cv W s) ∧ Rd (cv W s) (cv W s).heap.size (some (ca W s)) (bytesOf s) ∧ Below W.heap.size W (cv W s) :=
 ⟨fun W s => Classical.choose (text_conv W s), fun W s => ⟨W.heap.size, 0, none⟩, fun W s => Classical.choose (Classical.choose_spec (text_conv W s)), fun W s => Classical.choose_spec (Classical.choose_spec (text_conv W s))⟩
theorem Row.lowR {w : World} {base base' : Nat} {v : Value} {l : List Int} (h : Row w base v l) (hb : base' ≤ base) : Row w base' v l := by
 refine ⟨h.1, ?_⟩
 rcases h.2 with h0 | ⟨g, cap, cur, hv, hg, rest⟩
 · exact .inl h0
 · exact .inr ⟨g, cap, cur, hv, Nat.le_trans hb hg, rest⟩
theorem Rd.on {w w' : World} {A : Option Addr} {l : List Int} (h : Rd w w.heap.size A l) (hb : Below w.heap.size w w') : Rd w' w'.heap.size A l := (h.below hb).more hb.size
theorem row_nilR {w : World} {base n c : Nat} {A : Option Addr} {l : List Int} (h : Row w base (.slice A n c) l) : A = none → c = 0 := fun e => by
 subst e
 rcases h.2 with ⟨e0, _⟩ | ⟨g', cap, cur, e0, _⟩
 · injection e0
 · cases e0
def Rows2 (w : World) (base : Nat) (A : Option Addr) (c : Nat) (l : List Int) : Prop := RowK kB w base (.slice A l.length c) l ∧ Rd w w.heap.size A l ∧ (A = none → c = 0)
theorem row_two {w : World} {base : Nat} {v : Value} {l : List Int} (h : Row w base v l) : ∃ A c, v = .slice A l.length c ∧ Rows2 w base A c l := by
 obtain ⟨A, c, rfl, _, hr⟩ := h.rd
 exact ⟨A, c, rfl, row_k.2 h, hr, row_nilR h⟩
theorem atsB_snoc (l : List At) (k : Nat) (h : k < l.length) : atsB (l.take (k + 1)) = atsB (l.take k) ++ atB (l.getD k default) := by
 rw [take_snoc l k h]
 unfold atsB
 rw [List.flatMap_append]
 simp
theorem atsB_take_len (l : List At) (k : Nat) (hf : FewA l) : (atsB (l.take k)).length ≤ 103000 := by
 rw [atsB_len, List.length_take]
 have h1 := sumA_take l k
 have h2 := hf.many
 have h3 := hf.sum
 omega
def VOut (wr : World) (xs : List Int) (e : Ending) (w' : World) : Prop := ∃ A c, e = .returned (.slice A xs.length c) ∧ Rows2 w' wr.heap.size A c xs ∧ Below wr.heap.size wr w'
theorem value_out (wr : World) (tag : Int) (xs ys : List Int) (A : Option Addr) (c : Nat) (w : World) (hw : Below wr.heap.size wr w) (hr : Rd w w.heap.size A xs) (hA : A = none → c = 0) (hx : xs.length ≤ 4194304) (hy : ys = valB tag xs) :
   Calls Tryz.prog 53 #[.int .u8 tag, .slice A xs.length c] w fun e w' => VOut wr ys e w' ∧ Below w.heap.size w w' := by
 refine (refValue_any tag xs A c w hr hA hx).mono ?_
 rintro e w' ⟨v, rfl, h1, h2⟩
 subst hy
 obtain ⟨A', c', rfl, h3⟩ := row_two (h1.lowR hw.size)
 exact ⟨⟨A', c', rfl, h3, hw.trans (h2.mono hw.size)⟩, h2⟩
theorem Rows2.on {w w' : World} {base c : Nat} {A : Option Addr} {l : List Int} (h : Rows2 w base A c l) (hb : Below w.heap.size w w') : Rows2 w' base A c l := ⟨row_k.2 (Row.below (row_k.1 h.1) hb), h.2.1.on hb, h.2.2⟩
set_option maxHeartbeats 8000000 in
theorem refAttrs_any (tag : Int) (l : List At) (v : Value) (w : World) (hv : RdV w v l) (hf : FewA l) :
   Calls Tryz.prog 71 #[.int .u8 tag, v] w fun e w' => ∃ u, e = .returned u ∧ Row w' w.heap.size u (valB tag (atsB l)) ∧ Below w.heap.size w w' := by
 obtain ⟨A, c, rfl, _, hr⟩ := hv
 have HR := Lib.hid hr
 have HF := Lib.hid hf
 obtain ⟨n, hn⟩ : ∃ n, n = l.length := ⟨_, rfl⟩
 have hn2 : n ≤ 200 := by have := hf.many; omega
 rw [← hn]
 have HN := Lib.hid hn
 clear hr hf hn
 obtain ⟨cv, ca, cc, hcv⟩ := cv_fun
 go_enter Tryz.func71, Tryz.ntmps71
 go_wp2
 go_loopw [5, 6] (fun s5 s6 wr => ∃ k : Nat, s6 = .int .i64 k ∧ k ≤ n ∧ Hid (Row wr w.heap.size s5 (atsB (l.take k)) ∧ Below w.heap.size w wr)) (fun _ s6 _ => n - (intOf s6).toNat)
 case atStart => exact ⟨0, rfl, Nat.zero_le _, Lib.hid ⟨World.ownsRow_nil _ _ _ _, Below.refl _ _⟩⟩
 case round =>
   obtain ⟨k, rfl, hk, H⟩ := hrel
   by_cases hlt : k < n
   · have hkl : k < l.length := by have := HN.out; omega
     obtain ⟨b, off, rfl, hbl, c0', c1'⟩ := at_cells HR.out (Below.refl _ _) hkl
     have hmem : l.getD k default ∈ l := by rw [getD_at l k hkl]; exact List.getElem_mem _
     have hsz := sumA_mem hmem
     have hf3 := HF.out.sum
     have HAS := Lib.hid (atsB_snoc l k hkl)
     have HQL := Lib.hid (atsB_take_len l k HF.out)
     have HAL := Lib.hid (atB_len (l.getD k default))
     have HAB : Hid (atB (l.getD k default) = valB 3 (valB 1 (bytesOf (sx (l.getD k default).t)) ++ valB 2 (bytesOf (sx (l.getD k default).v)))) := Lib.hid rfl
     generalize atsB (l.take k) = q at H HAS HQL
     generalize atB (l.getD k default) = ab at HAS HAL HAB
     generalize l.getD k default = x at c0' c1' hsz HAL HAB
     have HSZ := Lib.hid (And.intro (show (bytesOf (sx x.t)).length ≤ 200000 by rw [bytes_sx]; omega) (And.intro (show (bytesOf (sx x.v)).length ≤ 200000 by rw [bytes_sx]; omega) (show (ab).length ≤ 200000 by rw [HAL.out]; omega)))
     have hT := hcv wr.drew (sx x.t)
     have hcT : ∀ W, (convert 9 42 (.string (sx x.t))).run Tryz.prog W = .ok (.slice (some (ca W (sx x.t))) (bytesOf (sx x.t)).length (cc W (sx x.t))) (cv W (sx x.t)) := fun W => (hcv W _).1
     have hcV : ∀ W, (convert 9 42 (.string (sx x.v))).run Tryz.prog W = .ok (.slice (some (ca W (sx x.v))) (bytesOf (sx x.v)).length (cc W (sx x.v))) (cv W (sx x.v)) := fun W => (hcv W _).1
     have HCT := Lib.hid fun W => (hcv W (sx x.t)).2
     have HCV := Lib.hid fun W => (hcv W (sx x.v)).2
     have hS0 := fun W' (hb : Below wr.heap.size wr W') => And.intro (((H.out.2.trans (hb.mono H.out.2.size)).cell (p := ⟨b, off + k * 2, none⟩) hbl).trans c0') (((H.out.2.trans (hb.mono H.out.2.size)).cell (p := ⟨b, off + k * 2 + 1, none⟩) hbl).trans c1')
     generalize sx x.t = sT at *
     generalize sx x.v = sV at *
     obtain ⟨bt, hbt⟩ : ∃ bt, bt = bytesOf sT := ⟨_, rfl⟩
     obtain ⟨bv, hbv⟩ : ∃ bv, bv = bytesOf sV := ⟨_, rfl⟩
     rw [← hbt] at hcT HCT HSZ HAB
     rw [← hbv] at hcV HCV HSZ HAB
     obtain ⟨p1, hp1⟩ : ∃ p, p = valB 1 bt := ⟨_, rfl⟩
     obtain ⟨p2, hp2⟩ : ∃ p, p = valB 2 bv := ⟨_, rfl⟩
     rw [← hp1, ← hp2] at HAB
     have hp12 : (p1 ++ p2).length ≤ 500000 := by rw [List.length_append, hp1, hp2, valB_length, valB_length]; have h1 := HSZ.out.1; have h2 := HSZ.out.2.1; omega
     obtain ⟨p3, hp3⟩ : ∃ p, p = p1 ++ p2 := ⟨_, rfl⟩
     rw [← hp3] at HAB hp12
     have HP3 := Lib.hid hp3
     have HPL := Lib.hid hp12
     have HS := Lib.hid hS0
     have HQ := Lib.hid H.out.1
     have HB := Lib.hid H.out.2
     obtain ⟨c0, c1⟩ := hS0 wr (Below.refl _ _)
     -- the worlds of the conversions
     have b0 : Below wr.heap.size wr wr.drew := below_drew (Below.refl _ _)
     have hTb := (HCT.out wr.drew).2
     have hVb := (HCV.out wr.drew).2
     have bT := b0.trans (hTb.mono b0.size)
     have bV := b0.trans (hVb.mono b0.size)
     have hTV := HCV.out (cv wr.drew sT)
     have hVT := HCT.out (cv wr.drew sV)
     have bTV := bT.trans (hTV.2.mono bT.size)
     have bVT := bV.trans (hVT.2.mono bV.size)
     have xT := (HS.out _ bT).2
     have xV := (HS.out _ bV).1
     have Ha := Lib.hid (value_out wr 1 bt p1 _ (cc wr.drew sT) (cv wr.drew sT) bT (HCT.out wr.drew).1 (fun h => by cases h) (by have := HSZ.out.1; omega) hp1)
     have Hb := Lib.hid (value_out wr 1 bt p1 _ (cc wr.drew sT) (cv (cv wr.drew sT) sV) bTV ((HCT.out wr.drew).1.on hTV.2) (fun h => by cases h) (by have := HSZ.out.1; omega) hp1)
     have Hc := Lib.hid (value_out wr 1 bt p1 _ (cc (cv wr.drew sV) sT) (cv (cv wr.drew sV) sT) bVT hVT.1 (fun h => by cases h) (by have := HSZ.out.1; omega) hp1)
     have HRb := Lib.hid hTV.1
     have HRc := Lib.hid ((HCV.out wr.drew).1.on hVT.2)
     have HP2 := Lib.hid hp2
     have HV2 : Hid (∀ W A c, Below wr.heap.size wr W → Rd W W.heap.size (some A) bv → Calls Tryz.prog 53 #[.int .u8 2, .slice (some A) bv.length c] W fun e w' => VOut wr p2 e w' ∧ Below W.heap.size W w') := Lib.hid fun W A c h1 h2 => value_out wr 2 bv p2 _ c W h1 h2 (fun h => by cases h) (by have := HSZ.out.2.1; omega) HP2.out
     have HV3 : Hid (∀ W A c, Below wr.heap.size wr W → Rd W W.heap.size A p3 → (A = none → c = 0) → Calls Tryz.prog 53 #[.int .u8 3, .slice A p3.length c] W fun e w' => VOut wr ab e w' ∧ Below W.heap.size W w') := Lib.hid fun W A c h1 h2 h3 => value_out wr 3 p3 ab _ c W h1 h2 h3 (by have := HPL.out; omega) HAB.out
     have hzw : w.heap.size ≤ wr.heap.size := HB.out.size
     clear hsz hf3 hmem hS0 c0' c1' H hT hcv hbt hbv hp1 hp2 hp3 hp12 b0 hTb hVb bT bV hTV hVT bTV bVT
     go_wp2_with fail
     go_region_law (first
       | (go_simp; (with_reducible refine Ha.out.mono ?_); clear Ha Hb Hc HRb HRc; rintro e w20 ⟨⟨A20, c20, rfl, hR20, hB20⟩, _⟩; dsimp only; have y20 := (HS.out _ hB20).2; have H27 := Lib.hid (HV2.out (cv w20 sV) _ (cc w20 sV) (hB20.trans ((HCV.out w20).2.mono hB20.size)) (HCV.out w20).1); have HR20 := Lib.hid (hR20.on (HCV.out w20).2); clear hR20 HV2)
       | (go_simp; (with_reducible refine Hb.out.mono ?_); clear Ha Hb Hc HRc; rintro e w20 ⟨⟨A20, c20, rfl, hR20, hB20⟩, hb⟩; dsimp only; have H27 := Lib.hid (HV2.out w20 _ (cc (cv wr.drew sT) sV) hB20 (HRb.out.on hb)); have HR20 := Lib.hid hR20; clear hR20 HV2 hb HRb)
       | (go_simp; (with_reducible refine Hc.out.mono ?_); clear Ha Hb Hc HRb; rintro e w20 ⟨⟨A20, c20, rfl, hR20, hB20⟩, hb⟩; dsimp only; have H27 := Lib.hid (HV2.out w20 _ (cc wr.drew sV) hB20 (HRc.out.on hb)); have HR20 := Lib.hid hR20; clear hR20 HV2 hb HRc)
       | (go_simp; (with_reducible refine H27.out.mono ?_); clear H27; rintro e w27 ⟨⟨A27, c27, rfl, hR27, hB27⟩, hb27⟩; dsimp only; have HR27 := Lib.hid hR27; have HR20' := Lib.hid (HR20.out.on hb27); have hl28 : p1.length + p2.length ≤ 1000000000 := (by have h := HPL.out; rw [HP3.out, List.length_append] at h; omega); clear hR27 HR20)
       | (refine step_app kB (w := w27) (by rfl) _ _ (by rfl) p2 (by rfl) HR20'.out.1 (by rfl) (rd_k HR27.out.2.1) HR27.out.2.2 hl28 hB27.size ?_; intro v28 w28 hrow28 hgr28; have hb28 := row_below HR20'.out.1 hgr28 hB27.size; have hB28 := hB27.trans hb28; obtain ⟨A28, c28, e28, hR28⟩ := row_two (row_k.1 hrow28); rw [← HP3.out] at e28 hR28; subst e28; have H29 := Lib.hid (HV3.out w28 A28 c28 hB28 hR28.2.1 hR28.2.2); clear HR20' HR27 hrow28 hR28 HV3)
       | (go_simp; (with_reducible refine H29.out.mono ?_); clear H29; rintro e w29 ⟨⟨A29, c29, rfl, hR29, hB29⟩, _⟩; dsimp only; have HR29 := Lib.hid hR29; have hQ29 := row_k.2 (Row.below HQ.out hB29); have hl30 : q.length + ab.length ≤ 1000000000 := (by have h1 := HQL.out; have h2 := HSZ.out.2.2; omega); clear hR29)
       | (refine step_app kB (w := w29) (by rfl) _ _ (by rfl) ab (by rfl) hQ29 (by rfl) (rd_k HR29.out.2.1) HR29.out.2.2 hl30 (Nat.le_trans hzw hB29.size) ?_; intro v30 w30 hrow30 hgr30))
     all_goals
       have hb30 := row_below hQ29 hgr30 (Nat.le_trans hzw hB29.size)
       have hF := Lib.hid (And.intro (row_k.1 hrow30) ((HB.out.trans (hB29.mono hzw)).trans hb30))
       clear hrow30 hgr30 hb30 hQ29
       go_wp2
       exact ⟨⟨k + 1, by simp, by omega, Lib.hid ⟨by rw [HAS.out]; exact hF.out.1, hF.out.2⟩⟩, by simp [intOf]; omega⟩
   · have hkn : k = n := by omega
     subst hkn
     have HLT : Hid (l.take k = l) := Lib.hid (by rw [HN.out, List.take_length])
     obtain ⟨A5, c5, rfl, hr5⟩ := row_two H.out.1
     have hql := atsB_take_len l k HF.out
     have HB := Lib.hid H.out.2
     rw [HLT.out] at hr5 hql ⊢
     have H6 := Lib.hid (refValue_any tag (atsB l) A5 c5 wr hr5.2.1 hr5.2.2 (by omega))
     clear H hr5 hql
     go_wp2_with (go_at_call 53; (with_reducible refine H6.out.mono ?_); clear H6; rintro e w' ⟨v, rfl, h1, h2⟩)
     go_ret
     exact ⟨_, rfl, h1.lowR HB.out.size, HB.out.trans (h2.mono HB.out.size)⟩
end Go.Proofs.YtniaijgejljjbaaGreat.Tlv
