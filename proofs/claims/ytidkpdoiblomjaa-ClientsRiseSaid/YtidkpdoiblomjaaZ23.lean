/- An entry's bytes. -/
import Derived.Test.YtidkpdoiblomjaaZ21
import Derived.Test.YtidkpdoiblomjaaZ22
namespace Go.Proofs.Ytidkpdoiblomjaa.Tlv
open Go.RowKit
set_option maxRecDepth 100000
set_option linter.unusedVariables false
set_option linter.unusedSimpArgs false
theorem Row.low' {w : World} {base base' : Nat} {v : Value} {l : List Int} (h : Row w base v l) (hb : base' ≤ base) : Row w base' v l := by
 refine ⟨h.1, ?_⟩
 rcases h.2 with h0 | ⟨g, cap, cur, hv, hg, rest⟩
 · exact .inl h0
 · exact .inr ⟨g, cap, cur, hv, Nat.le_trans hb hg, rest⟩
def entB (name : List UInt8) (l : List At) : List Int := valB 1 (bytesOf (sx name)) ++ valB 2 (atsB l)
theorem mayA_len {a : At} (h : mayA a = true) : a.t.length ≤ 32 ∧ a.v.length ≤ 1000 := by
 unfold mayA at h
 obtain ⟨h1, h2⟩ := Bool.and_eq_true_iff.1 h
 unfold mayT at h1
 unfold mayN at h2
 simp at h1 h2
 exact ⟨by omega, by omega⟩
theorem few_may {l : List At} (h : mayL l = true) : FewA l := by
 obtain ⟨h1, h2, _⟩ := mayL_iff.1 h
 have key : ∀ l : List At, (∀ x ∈ l, mayA x = true) → sumA l ≤ 1032 * l.length := by
   intro l
   induction l with
   | nil => intro _; simp [sumA]
   | cons x t ih =>
     intro hx
     have h3 := mayA_len (hx x (List.mem_cons_self ..))
     have h4 := ih fun y hy => hx y (List.mem_cons_of_mem _ hy)
     simp only [sumA, List.map_cons, List.sum_cons, List.length_cons] at h4 ⊢
     omega
 have := key l h2
 exact ⟨by omega, by omega⟩
theorem mayN_len {n : List UInt8} (h : mayN n = true) : n.length ≤ 1000 := by
 unfold mayN at h
 simp at h
 omega
def BytesOut (w : World) (name : List UInt8) (l : List At) (e : Ending) (w' : World) : Prop :=
 (mayE name l = true ∧ ∃ v', e = .returned (.tuple #[v', .int .i64 0]) ∧ Row w' w.heap.size v' (entB name l) ∧ Below w.heap.size w w') ∨ (mayE name l = false ∧ e = .returned (.tuple #[.slice none 0 0, .int .i64 2]) ∧ Below w.heap.size w w')
set_option maxHeartbeats 4000000 in
theorem bytesE_any (name : List UInt8) (l : List At) (v : Value) (w : World) (hv : RdV w v l) (h1 : name.length ≤ 9223372036854775807) (hs : Sm l) (hl : l.length ≤ 1000000) :
   Calls Try.prog 53 #[.agg #[.string (sx name), v]] w (BytesOut w name l) := by
 have hb0 := (Below.refl w.heap.size w).alloc (Nat.le_refl _) (.cells #[.string (sx name), v] 47)
 have k0 := Blk.new w 47 #[.string (sx name), v]
 have HM := Lib.hid (mayEntry_any name l v _ (hv.on hb0) h1 hs hl)
 have HB := Lib.hid hb0
 have HK := Lib.hid k0
 have hsz : w.heap.size < (w.alloc (.cells #[.string (sx name), v] 47)).heap.size := by rw [World.size_alloc]; omega
 have HZ := Lib.hid hsz
 have hv1 := hv.on hb0
 have HV := Lib.hid hv1
 obtain ⟨A, c, rfl, _, _⟩ := hv
 have c0 := k0.cell 0
 have c1 := k0.cell 1
 clear hb0 k0 hs hl hsz hv1
 obtain ⟨n, hn⟩ : ∃ n, n = l.length := ⟨_, rfl⟩
 rw [← hn] at HM HB HK HZ HV c0 c1 ⊢
 clear hn
 cases hm : mayE name l with
 | false =>
   rw [hm] at HM
   have HMM := Lib.hid hm
   clear hm
   go_enter Try.func53, Try.ntmps53
   go_wp2_with (go_at_call 68; (with_reducible refine HM.out.mono ?_); rintro e w1 ⟨rfl, hb1⟩)
   go_ret2
   exact .inr ⟨HMM.out, rfl, HB.out.trans (hb1.mono (Nat.le_of_lt HZ.out))⟩
 | true =>
   rw [hm] at HM
   have HMM := Lib.hid hm
   obtain ⟨hmn, hml⟩ := Bool.and_eq_true_iff.1 hm
   have HF := Lib.hid (few_may hml)
   have HNL := Lib.hid (mayN_len hmn)
   clear hm hmn hml c0 c1
   have c0 := HK.out.cell 0
   have c1 := HK.out.cell 1
   have HWR := Lib.hid fun (w1 : World) => (⟨_, Blk.new w1 108 #[.slice none 0 0, .int .i64 0, .int .i64 0], World.ownsRow_nil _ _ _ _⟩ : WS (w1.alloc (.cells #[.slice none 0 0, .int .i64 0, .int .i64 0] 108)) w1.heap.size w1.heap.size (some []) 0)
   have HST := Lib.hid (show (sx name).size ≤ 4194304 by rw [sx_size]; have := HNL.out; omega)
   have HBN := Lib.hid (show (bytesOf (sx name)).length ≤ 1000 by rw [bytes_sx]; exact HNL.out)
   have HAB := Lib.hid (show (atsB l).length ≤ 200000 by rw [atsB_len]; have h1 := HF.out.many; have h2 := HF.out.sum; omega)
   go_enter Try.func53, Try.ntmps53
   go_wp2_with (first
     | (go_at_call 68; (with_reducible refine HM.out.mono ?_); rintro e w1 ⟨rfl, hb1⟩; clear HM; have hbx := hb1.alloc hb1.size (.cells #[.slice none 0 0, .int .i64 0, .int .i64 0] 108); have HBX := Lib.hid (And.intro hb1 hbx); have d0 : (w1.alloc (.cells #[.slice none 0 0, .int .i64 0, .int .i64 0] 108)).cell? ⟨w.heap.size, 0, none⟩ = some (.string (sx name)) := (HK.out.on hbx).cell 0; have HT := Lib.hid (text_any w1.heap.size (some []) 0 1 (sx name) w1.heap.size _ (HWR.out w1) (by simp) (by decide) (by decide) HST.out (fun l' e => by injection e with e; subst e; simp) (by decide) (Nat.le_refl _)); clear hb1 hbx)
     | (go_at_call 69; (with_reducible refine HT.out.mono ?_); clear HT d0; rintro e w4 ⟨rfl, hs4, hwb4⟩; have HWB4 := Lib.hid hwb4; have d1 : w4.cell? ⟨w.heap.size, 1, none⟩ = some (.slice A n c) := (hwb4.kp _ 47 _ (by decide) (by decide) (HK.out.on HBX.out.2)).cell 1; have hsz4 := hwb4.bel.size; have HP := Lib.hid (put_any w1.heap.size w1.heap.size 1 (some (valB 1 (bytesOf (sx name)))) 2 l _ w4 (by simpa [putS, cntS, valB] using hs4) (Nat.le_trans (by simp) hsz4) (HV.out.on (HBX.out.2.trans (hwb4.bel.mono HBX.out.1.size))) HF.out (Nat.le_refl _) (by decide) (by decide) (fun l' e => by injection e with e; subst e; rw [valB_length]; have := HBN.out; omega) (by decide)); clear hs4 hwb4 hsz4)
     | (go_at_call 70; (with_reducible refine HP.out.mono ?_); clear HP d1; rintro e w5 ⟨⟨u5, rfl⟩, hs5, hwb5⟩; have hs5' : WS w5 w1.heap.size w1.heap.size (some (entB name l)) (cntS (some (valB 1 (bytesOf (sx name)))) 2 1) := (by have h : putS (some (valB 1 (bytesOf (sx name)))) 2 (atsB l) = some (entB name l) := (by simp [putS, entB, valB]); rwa [h] at hs5); obtain ⟨v5, hblk5, hrow5⟩ := hs5'; have HE := Lib.hid (end_ok w1.heap.size v5 _ (entB name l) w1.heap.size w5 hblk5 hrow5 (by unfold entB; rw [List.length_append, valB_length, valB_length]; have h1 := HBN.out; have h2 := HAB.out; omega)); have HB5 := Lib.hid ((HBX.out.1.trans (((Below.refl w1.heap.size w1).alloc (Nat.le_refl _) (.cells #[.slice none 0 0, .int .i64 0, .int .i64 0] 108)).trans (HWB4.out.bel.trans hwb5.bel) |>.mono HBX.out.1.size))); clear hs5 hwb5 hblk5 hrow5)
     | (go_at_call 71; (with_reducible refine HE.out.mono ?_); clear HE; rintro e w6 ⟨v6, rfl, hrow6, hb6⟩))
   go_ret2
   refine .inl ⟨HMM.out, _, rfl, ?_, ?_⟩
   · exact Row.low' hrow6 (Nat.le_trans (Nat.le_of_lt HZ.out) HB5.out.size)
   · exact HB.out.trans ((HB5.out.trans (hb6.mono HB5.out.size)).mono (Nat.le_of_lt HZ.out))
set_option maxHeartbeats 4000000 in
theorem refPack_any (name : List UInt8) (l : List At) (va : Value) (w : World) (hv : RdV w va l) (hf : FewA l) (hn : name.length ≤ 200000) :
   Calls Try.prog 31 #[.agg #[.string (sx name), va]] w fun e w' => ∃ u, e = .returned u ∧ Row w' w.heap.size u (entB name l) ∧ Below w.heap.size w w' := by
 obtain ⟨cv, ca, cc, hcv⟩ := cv_fun
 have hb1 := (Below.refl w.heap.size w).alloc (Nat.le_refl _) (.cells #[.string (sx name), va] 47)
 have hk1 := Blk.new w 47 #[.string (sx name), va]
 have HE : Hid (entB name l = valB 1 (bytesOf (sx name)) ++ valB 2 (atsB l)) := Lib.hid rfl
 have hn1 : (bytesOf (sx name)).length ≤ 200000 := by rw [bytes_sx]; exact hn
 have hql := atsB_take_len l l.length hf
 rw [List.take_length] at hql
 generalize hW : w.alloc (.cells #[.string (sx name), va] 47) = w1 at hb1 hk1
 have hcN : ∀ W, (convert 9 37 (.string (sx name))).run Try.prog W = .ok (.slice (some (ca W (sx name))) (bytesOf (sx name)).length (cc W (sx name))) (cv W (sx name)) := fun W => (hcv W _).1
 have HCN := Lib.hid fun W => (hcv W (sx name)).2
 generalize sx name = sN at *
 obtain ⟨bn, hbn⟩ : ∃ bn, bn = bytesOf sN := ⟨_, rfl⟩
 rw [← hbn] at hcN HCN HE hn1
 obtain ⟨p1, hp1⟩ : ∃ p, p = valB 1 bn := ⟨_, rfl⟩
 obtain ⟨p2, hp2⟩ : ∃ p, p = valB 2 (atsB l) := ⟨_, rfl⟩
 rw [← hp1, ← hp2] at HE
 have hl12 : p1.length + p2.length ≤ 1000000000 := by rw [hp1, hp2, valB_length, valB_length]; omega
 have b0 : Below w1.heap.size w1 w1.drew := below_drew (Below.refl _ _)
 have bN := b0.trans ((HCN.out w1.drew).2.mono b0.size)
 have HK := Lib.hid fun W (hb : Below w1.heap.size w1 W) => And.intro ((hk1.on hb).cell 0) ((hk1.on hb).cell 1)
 obtain ⟨x0, x1⟩ := HK.out w1 (Below.refl _ _)
 have y1 := (HK.out _ bN).2
 have Ha := Lib.hid (value_out w1 1 bn p1 _ (cc w1.drew sN) (cv w1.drew sN) bN (HCN.out w1.drew).1 (fun h => by cases h) (by omega) hp1)
 have HP2 := Lib.hid hp2
 have HAT : Hid (∀ W, Below w1.heap.size w1 W → Calls Try.prog 48 #[.int .u8 2, va] W fun e w' => (∃ A c, e = .returned (.slice A p2.length c) ∧ Rows2 w' w1.heap.size A c p2 ∧ Below w1.heap.size w1 w') ∧ Below W.heap.size W w') := Lib.hid fun W h => by
   refine (refAttrs_any 2 l va W ((hv.on hb1).on h) hf).mono ?_
   rintro e w' ⟨v, rfl, h1, h2⟩
   rw [← HP2.out] at h1
   obtain ⟨A', c', rfl, h3⟩ := row_two (h1.lowR h.size)
   exact ⟨⟨A', c', rfl, h3, h.trans (h2.mono h.size)⟩, h2⟩
 have HB1 := Lib.hid hb1
 have hz1 := hb1.size
 clear hcv hbn hp1 hp2 b0 bN hk1 hb1 hv hf hn hn1 hql
 go_enter Try.func31, Try.ntmps31
 go_wp2_with fail
 go_region_law (first
   | (go_simp; (with_reducible refine Ha.out.mono ?_); clear Ha; rintro e w20 ⟨⟨A20, c20, rfl, hR20, hB20⟩, _⟩; dsimp only; have y20 := (HK.out _ hB20).2; have H9 := Lib.hid (HAT.out w20 hB20); have HR20 := Lib.hid hR20; clear hR20 HAT)
   | (go_simp; (with_reducible refine H9.out.mono ?_); clear H9; rintro e w27 ⟨⟨A27, c27, rfl, hR27, hB27⟩, hb27⟩; dsimp only; have HR27 := Lib.hid hR27; have HR20' := Lib.hid (HR20.out.on hb27); clear hR27 HR20)
   | (refine step_app kB (w := w27) (by rfl) _ _ (by rfl) p2 (by rfl) HR20'.out.1 (by rfl) (rd_k HR27.out.2.1) HR27.out.2.2 hl12 hB27.size ?_; intro v28 w28 hrow28 hgr28; have hb28 := row_below HR20'.out.1 hgr28 hB27.size))
 all_goals
   have HF := Lib.hid (And.intro ((row_k.1 hrow28).lowR hz1) (HB1.out.trans ((hB27.trans hb28).mono HB1.out.size)))
   clear hrow28 hgr28 hb28
   go_wp2
   go_ret
   rw [HE.out]
   exact ⟨_, rfl, HF.out⟩
end Go.Proofs.Ytidkpdoiblomjaa.Tlv
