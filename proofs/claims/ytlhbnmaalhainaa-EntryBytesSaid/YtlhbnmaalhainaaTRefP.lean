/- An entry's bytes, by the document. -/
import Derived.Test.YtlhbnmaalhainaaTRefA
import Derived.Test.YtlhbnmaalhainaaTBytes
namespace Go.Proofs.Ytlhbnmaalhainaa.Tlv
open Go.RowKit
set_option maxRecDepth 100000
set_option linter.unusedVariables false
set_option linter.unusedSimpArgs false

set_option maxHeartbeats 4000000 in
theorem refPack_any (name : List UInt8) (l : List At) (va : Value) (w : World) (hv : RdV w va l) (hf : FewA l) (hn : name.length ≤ 200000) :
    Calls Try.prog 31 #[.agg #[.string (sx name), va]] w fun e w' => ∃ u, e = .returned u ∧ Row w' w.heap.size u (entB name l) ∧ Below w.heap.size w w' := by
  obtain ⟨cv, ca, cc, hcv⟩ := cv_fun
  have hb1 := (Below.refl w.heap.size w).alloc (Nat.le_refl _) (.cells #[.string (sx name), va] 26)
  have hk1 := Blk.new w 26 #[.string (sx name), va]
  have HE : Hid (entB name l = valB 1 (bytesOf (sx name)) ++ valB 2 (atsB l)) := Lib.hid rfl
  have hn1 : (bytesOf (sx name)).length ≤ 200000 := by rw [bytes_sx]; exact hn
  have hql := atsB_take_len l l.length hf
  rw [List.take_length] at hql
  generalize hW : w.alloc (.cells #[.string (sx name), va] 26) = w1 at hb1 hk1
  have hcN : ∀ W, (convert 9 33 (.string (sx name))).run Try.prog W = .ok (.slice (some (ca W (sx name))) (bytesOf (sx name)).length (cc W (sx name))) (cv W (sx name)) := fun W => (hcv W _).1
  have HCN := Lib.hid fun W => (hcv W (sx name)).2
  generalize sx name = sN at *
  obtain ⟨bn, hbn⟩ : ∃ bn, bn = bytesOf sN := ⟨_, rfl⟩
  rw [← hbn] at hcN HCN HE hn1
  obtain ⟨p1, hp1⟩ : ∃ p, p = valB 1 bn := ⟨_, rfl⟩
  obtain ⟨p2, hp2⟩ : ∃ p, p = valB 2 (atsB l) := ⟨_, rfl⟩
  rw [← hp1, ← hp2] at HE
  have hl12 : p1.length + p2.length ≤ 1000000000 := by rw [hp1, hp2, valB_length, valB_length]; omega
  have b0 : Below w1.heap.size w1 w1.drew := below_drew (Below.refl _ _)
  have bN := b0.trans ((HCN.out w1.drew).2.mono b0.size)
  have HK := Lib.hid fun W (hb : Below w1.heap.size w1 W) => And.intro ((hk1.on hb).cell 0) ((hk1.on hb).cell 1)
  obtain ⟨x0, x1⟩ := HK.out w1 (Below.refl _ _)
  have y1 := (HK.out _ bN).2
  have Ha := Lib.hid (value_out w1 1 bn p1 _ (cc w1.drew sN) (cv w1.drew sN) bN (HCN.out w1.drew).1 (fun h => by cases h) (by omega) hp1)
  have HP2 := Lib.hid hp2
  have HAT : Hid (∀ W, Below w1.heap.size w1 W → Calls Try.prog 26 #[.int .u8 2, va] W fun e w' => (∃ A c, e = .returned (.slice A p2.length c) ∧ Rows2 w' w1.heap.size A c p2 ∧ Below w1.heap.size w1 w') ∧ Below W.heap.size W w') := Lib.hid fun W h => by
    refine (refAttrs_any 2 l va W ((hv.on hb1).on h) hf).mono ?_
    rintro e w' ⟨v, rfl, h1, h2⟩
    rw [← HP2.out] at h1
    obtain ⟨A', c', rfl, h3⟩ := row_two (h1.lowR h.size)
    exact ⟨⟨A', c', rfl, h3, h.trans (h2.mono h.size)⟩, h2⟩
  have HB1 := Lib.hid hb1
  have hz1 := hb1.size
  clear hcv hbn hp1 hp2 b0 bN hk1 hb1 hv hf hn hn1 hql
  go_enter Try.func31, Try.ntmps31
  go_wp2_with fail
  go_region_law (first
    | (go_simp; (with_reducible refine Ha.out.mono ?_); clear Ha; rintro e w20 ⟨⟨A20, c20, rfl, hR20, hB20⟩, _⟩; dsimp only; have y20 := (HK.out _ hB20).2; have H9 := Lib.hid (HAT.out w20 hB20); have HR20 := Lib.hid hR20; clear hR20 HAT)
    | (go_simp; (with_reducible refine H9.out.mono ?_); clear H9; rintro e w27 ⟨⟨A27, c27, rfl, hR27, hB27⟩, hb27⟩; dsimp only; have HR27 := Lib.hid hR27; have HR20' := Lib.hid (HR20.out.on hb27); clear hR27 HR20)
    | (refine step_app kB (w := w27) (by rfl) _ _ (by rfl) p2 (by rfl) HR20'.out.1 (by rfl) (rd_k HR27.out.2.1) HR27.out.2.2 hl12 hB27.size ?_; intro v28 w28 hrow28 hgr28; have hb28 := row_below HR20'.out.1 hgr28 hB27.size))
  all_goals
    have HF := Lib.hid (And.intro ((row_k.1 hrow28).lowR hz1) (HB1.out.trans ((hB27.trans hb28).mono HB1.out.size)))
    clear hrow28 hgr28 hb28
    go_wp2
    go_ret
    rw [HE.out]
    exact ⟨_, rfl, HF.out⟩
end Go.Proofs.Ytlhbnmaalhainaa.Tlv
