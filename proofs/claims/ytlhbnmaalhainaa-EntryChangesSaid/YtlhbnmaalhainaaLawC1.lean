/- The law on changes. -/
import Derived.Test.YtlhbnmaalhainaaLawC0
namespace Go.Proofs.Ytlhbnmaalhainaa
open Go.RowKit Go.Lib Go.Sort
set_option linter.unusedVariables false
set_option linter.unusedSimpArgs false

theorem chg_one {l : List At} {b : At} (hm : mayL l = true) (hl : l.length ≤ 40) (hb : mayA b = true) : changeR l [b] = (changeL l [b], 0) := by
  have h1 : mayC l [b] = true := by unfold mayC; rw [hm]; simp [hb]
  have h2 := change_len l [b]
  rw [List.length_singleton] at h2
  unfold changeR
  rw [if_pos h1, if_neg (by omega)]
theorem chg_none {l : List At} (hm : mayL l = true) (hl : l.length ≤ 40) : changeR l [] = (l, 0) := by
  have h1 : mayC l [] = true := by unfold mayC; rw [hm]; simp
  unfold changeR
  rw [if_pos h1, change_nil (mayL_iff.1 hm).2.2, if_neg (by omega)]
theorem chg_has (l : List At) (a : At) : decide (a ∈ changeL l [a]) = !decide (a.v = []) := by
  have h : a ∈ changeL l [a] ↔ a.v ≠ [] := by rw [mem_change]; simp
  by_cases e : a.v = []
  · rw [decide_eq_true e, decide_eq_false (by rw [h]; simpa using e)]; rfl
  · rw [decide_eq_false e, decide_eq_true (by rw [h]; exact e)]; rfl
theorem chg_out {l : List At} {t : List UInt8} {y : At} (hy : y ∈ changeL l [⟨t, []⟩]) : y ∈ l ∧ y.t ≠ t := by
  rcases mem_change.1 hy with ⟨h1, h2⟩ | ⟨h1, h2⟩
  · exact ⟨h1, fun e => h2 _ (List.mem_singleton_self _) e.symm⟩
  · obtain rfl := List.mem_singleton.1 h1
    exact absurd rfl h2
theorem may_empty {a : At} (h : mayA a = true) : mayA ⟨a.t, []⟩ = true := by
  unfold mayA at h ⊢
  obtain ⟨h1, _⟩ := Bool.and_eq_true_iff.1 h
  rw [h1]
  rfl
theorem drop_rev (l : List At) (i : Nat) (h : i < l.length) : (l.drop (i + 1)).reverse ++ [l.getD i default] = (l.drop i).reverse := by
  rw [List.drop_eq_getElem_cons h, List.reverse_cons, getD_at l i h]
theorem sm_one {a : At} (h1 : a.t.length ≤ 9223372036854775807) (h2 : a.v.length ≤ 9223372036854775807) : Sm [a] := fun x hx => by
  obtain rfl := List.mem_singleton.1 hx
  exact ⟨h1, h2⟩
theorem sm_rev {l : List At} (h : Sm l) : Sm l.reverse := fun x hx => h x (List.mem_reverse.1 hx)
set_option maxRecDepth 100000 in
set_option maxHeartbeats 8000000 in
theorem changes_in (l by' : List At) (a : At) (v vb : Value) (w : World) (hv : RdV w v l) (hvb : RdV w vb by') (hs : Sm l) (hsb : Sm by') (hl : l.length ≤ 9223372036854775807) (hlb : by'.length ≤ 9223372036854775807) (ht : a.t.length ≤ 9223372036854775807) (hx : a.v.length ≤ 9223372036854775807) (h : AskC l by' a) :
    Known w 8 #[v, vb, a.val] := by
  obtain ⟨h1, h2, h3, h4, h5, h6⟩ := h
  have hb0 := (Below.refl w.heap.size w).alloc (Nat.le_refl _) (.cells #[.string (sx a.t), .string (sx a.v)] 29)
  have HX := Lib.hid (Blk.new w 29 #[.string (sx a.t), .string (sx a.v)])
  have HZ := Lib.hid (show w.heap.size < (w.alloc (.cells #[.string (sx a.t), .string (sx a.v)] 29)).heap.size by rw [World.size_alloc]; omega)
  generalize hW : w.alloc (.cells #[.string (sx a.t), .string (sx a.v)] 29) = W at hb0 HX HZ
  have HM1 := Lib.hid (much_any l v W (hv.on hb0) hs hl)
  have HM2 := Lib.hid fun W' (hb : Below W.heap.size W W') => much_any by' vb W' ((hvb.on hb0).on hb) hsb hlb
  have HM3 := Lib.hid fun W' (hb : Below W.heap.size W W') => refMayAttrs_any l v W' ((hv.on hb0).on hb) hs (by omega)
  rw [h1] at HM1
  rw [h2] at HM2
  rw [h4] at HM3
  have hm120 := much_len h2
  have HC1 := Lib.hid fun W' (hb : Below W.heap.size W W') => change_any l [] v (.slice none 0 0) W' ((hv.on hb0).on hb) (RdV.nil _) hs (fun x hx => by simp at hx) (by omega) (by simp)
  rw [chg_none h4 h3] at HC1
  have HCA := Lib.hid fun l2 v2 W' (hb : Below W.heap.size W W') (hv2 : RdV W' v2 l2) (hs2 : Sm l2) (hl2 : l2.length ≤ 1000000) => change_any l l2 v v2 W' ((hv.on hb0).on hb) hv2 hs hs2 (by omega) hl2
  have HSL := Lib.hid fun l2 v2 W' (hb : Below W.heap.size W W') (hv2 : RdV W' v2 l2) (hl2 : l2.length ≤ 9223372036854775807) => refSame_any l2 l v2 v W' hv2 ((hv.on hb0).on hb) hl2 hl
  have HLH := Lib.hid fun y W' (hb : Below W.heap.size W W') => lhas_any l y v W' ((hv.on hb0).on hb) hl
  have HK := Lib.hid fun W => known_any W
  have HMA := Lib.hid fun W => refMayAttr_any a W ht hx
  have HVB := Lib.hid fun W' (hb : Below W.heap.size W W') => (hvb.on hb0).on hb
  have HB := Lib.hid hb0
  have HS := Lib.hid (And.intro hs hsb)
  have HAL := Lib.hid (And.intro h3 (And.intro h4 (And.intro ht hx)))
  subst hW
  have z1 := sx_size a.t
  have z2 := sx_size a.v
  obtain ⟨A, c, rfl, _, _⟩ := hv
  obtain ⟨B, d, rfl, _, hrb⟩ := hvb
  have HRB := Lib.hid (hrb.on hb0)
  obtain ⟨n, hn⟩ : ∃ n, n = l.length := ⟨_, rfl⟩
  obtain ⟨m, hm⟩ : ∃ m, m = by'.length := ⟨_, rfl⟩
  have HN := Lib.hid (And.intro hn hm)
  rw [← hn] at HM1 HM3 HC1 HCA HSL HLH h3 ⊢
  rw [← hm] at HM2 HVB hm120 ⊢
  clear h1 h2 h4 hb0 hs hsb hl hlb ht hx hn hm hrb
  generalize hW : w.alloc (.cells #[.string (sx a.t), .string (sx a.v)] 29) = W at HX HZ HM1 HM2 HM3 HC1 HCA HSL HLH HVB HB HRB
  subst hW
  go_enter Try.func8, Try.ntmps8
  go_wp2_with (first
    | (go_at_call 9; (with_reducible refine HM1.out.mono ?_); rintro e w1 ⟨rfl, hb1⟩; have HB1 := Lib.hid hb1; clear hb1 HM1)
    | (go_at_call 9; (with_reducible refine (HM2.out _ HB1.out).mono ?_); rintro e w2 ⟨rfl, hb2⟩; have HB2 := Lib.hid (HB1.out.trans (hb2.mono HB1.out.size)); clear hb2 HM2)
    | (go_at_call 16; (with_reducible refine (HM3.out _ HB2.out).mono ?_); rintro e w3 ⟨rfl, hb3⟩; have HB3 := Lib.hid (HB2.out.trans (hb3.mono HB2.out.size)); clear hb3 HM3; have c0 := (HX.out.on HB3.out).cell 0; have c1 := (HX.out.on HB3.out).cell 1)
    | (go_at_call 32; (with_reducible refine (HC1.out _ HB3.out).mono ?_); clear HC1; rintro e w4 ⟨v4, rfl, hv4, hb4⟩; clear c0 c1; have HB4 := Lib.hid (HB3.out.trans (hb4.mono HB3.out.size)); clear hb4; have HS4 := Lib.hid (HSL.out l v4 w4 HB4.out hv4 (by have := HN.out; omega)); rw [decide_eq_true rfl] at HS4; obtain ⟨A4, c4, rfl, _, _⟩ := hv4; rw [← HN.out.1] at HS4 ⊢)
    | (go_at_call 23; (with_reducible refine (num_any _ _).mono ?_); rintro e w5 ⟨rfl, rfl⟩)
    | (go_at_call 30; (with_reducible refine HS4.out.mono ?_); clear HS4; rintro e w6 ⟨rfl, hb6⟩; have HB6 := Lib.hid (HB4.out.trans (hb6.mono HB4.out.size)); clear hb6; have c0 := (HX.out.on HB6.out).cell 0; have c1 := (HX.out.on HB6.out).cell 1))
  cases hma : mayA a with
  | false =>
    rw [hma] at HMA
    clear hma
    go_wp2_with (go_at_call 12; (with_reducible refine (HMA.out _).mono ?_); rintro e w7 ⟨rfl, hb7⟩; have HB7 := Lib.hid (HB6.out.trans (hb7.mono HB6.out.size)); clear hb7 c0 c1)
    go_wp2
    go_loopw [14, 15] (fun s14 s15 wr => ∃ j : Nat, j ≤ m ∧ s15 = .int .i64 ((j : Int) - 1) ∧ Hid (RowK kA wr (w.alloc (.cells #[.string (sx a.t), .string (sx a.v)] 29)).heap.size s14 ((by'.drop j).reverse) ∧ Below (w.alloc (.cells #[.string (sx a.t), .string (sx a.v)] 29)).heap.size (w.alloc (.cells #[.string (sx a.t), .string (sx a.v)] 29)) wr)) (fun _ s15 _ => (intOf s15 + 1).toNat)
    case atStart => exact ⟨m, Nat.le_refl _, by first | rfl | go_num, Lib.hid ⟨by rw [HN.out.2, List.drop_length]; exact nil_row kA _ _, HB7.out⟩⟩
    case round =>
      obtain ⟨j, hj, rfl, H⟩ := hrel
      by_cases hj0 : 0 < j
      · obtain ⟨i, rfl⟩ : ∃ i, j = i + 1 := ⟨j - 1, by omega⟩
        have hil : i < by'.length := by have := HN.out; omega
        obtain ⟨b, off, rfl, _, e0, e1⟩ := at_cells (HRB.out) H.out.2 hil
        have HDR := Lib.hid (drop_rev by' i hil)
        generalize by'.getD i default = y at e0 e1 HDR
        have hql : ((by'.drop (i + 1)).reverse).length + [y].length ≤ 1000000000 := by rw [List.length_reverse, List.length_drop]; have := HN.out; simp; omega
        generalize (by'.drop (i + 1)).reverse = q at H HDR hql
        have hzz := H.out.2.size
        have HY := Lib.hid (And.intro (RowK.alloc H.out.1 (.cells #[.string (sx y.t), .string (sx y.v)] 29)) (And.intro (rd_one wr y) (And.intro (le_alloc (o := .cells #[.string (sx y.t), .string (sx y.v)] 29) hzz) hql)))
        have hsi : ((i + 1 : Nat) : Int) - 1 = (i : Int) := by omega
        have hii : ((i : Int)) - 1 = ((i : Nat) : Int) - 1 := rfl
        rw [hsi]
        clear hql hsi hii
        go_wp2_with (at_builtin; refine wpList_app kA rfl _ _ rfl [y] rfl HY.out.1 rfl HY.out.2.1 (fun h => by cases h) HY.out.2.2.2 HY.out.2.2.1 ?_; intro v' w' hrow' hgr')
        go_roundw
        case rel => exact ⟨i, by omega, by go_num, Lib.hid ⟨by rw [← HDR.out]; exact hrow', (H.out.2.alloc H.out.2.size _).trans (row_below HY.out.1 hgr' HY.out.2.2.1)⟩⟩
        case measure => simp [intOf] <;> omega
      · have hj1 : j = 0 := by omega
        subst hj1
        have hrow := H.out.1
        rw [List.drop_zero] at hrow
        have hrv := RowK.rdv hrow
        have HBX := Lib.hid H.out.2
        have hby := HVB.out _ HBX.out
        have hc1 := HCA.out by' _ wr HBX.out hby HS.out.2 (by have := HN.out; omega)
        have hc2 := fun W' (hb : Below wr.heap.size wr W') => HCA.out by'.reverse _ W' (HBX.out.trans (hb.mono HBX.out.size)) (hrv.on hb) (sm_rev HS.out.2) (by rw [List.length_reverse]; have := HN.out; omega)
        rw [change_reverse] at hc2
        obtain ⟨A14, c14, rfl, _, _⟩ := hrv
        rw [List.length_reverse, ← HN.out.2] at hc2 ⊢
        have hcl : (changeR l by').1.length ≤ 9223372036854775807 := by
          unfold changeR
          split
          · split
            · simp
            · have := change_len l by'; have := HN.out; show (changeL l by').length ≤ _; omega
          · simp
        have HC8 := Lib.hid hc1
        have HC9 := Lib.hid hc2
        have HCL := Lib.hid hcl
        clear hrow hby hc1 hc2 hcl H
        generalize (changeR l by') = cr at HC8 HC9 HCL
        obtain ⟨crl, cre⟩ := cr
        dsimp only at HC8 HC9 HCL
        go_wp2_with (first
          | (go_at_call 32; (with_reducible refine HC8.out.mono ?_); clear HC8; rintro e y1 ⟨x1, rfl, hx1, hy1⟩; have HY1 := Lib.hid hy1; have HX1 := Lib.hid hx1; obtain ⟨A16, c16, rfl, _, _⟩ := hx1; clear hy1; have HC91 := Lib.hid (HC9.out _ HY1.out); clear HC9)
          | (go_at_call 32; (with_reducible refine HC91.out.mono ?_); clear HC91; rintro e y2 ⟨x2, rfl, hx2, hy2⟩; have HY2 := Lib.hid (HY1.out.trans (hy2.mono HY1.out.size)); have HX2 := Lib.hid (HX1.out.on hy2); have hs2 := refSame_any crl crl _ _ y2 HX2.out hx2 HCL.out HCL.out; rw [decide_eq_true rfl] at hs2; have HSE := Lib.hid hs2; clear hs2 hy2; obtain ⟨A18, c18, rfl, _, _⟩ := hx2)
          | (go_at_call 23; (with_reducible refine (num_any _ _).mono ?_); rintro e w5 ⟨rfl, rfl⟩)
          | (go_at_call 30; (with_reducible refine HSE.out.mono ?_); clear HSE; rintro e y3 ⟨rfl, hy3⟩; have HY3 := Lib.hid (HY2.out.trans (hy3.mono HY2.out.size)); clear hy3)
          | (go_at_call 10; (with_reducible refine (HK.out _).mono ?_); rintro e y4 ⟨rfl, hy4⟩; have HY4 := Lib.hid (HY3.out.trans (hy4.mono HY3.out.size)); clear hy4))
        go_ret
        exact ⟨rfl, HB.out.trans ((HBX.out.trans (HY4.out.mono HBX.out.size)).mono (Nat.le_of_lt HZ.out))⟩
  | true =>
    rw [hma] at HMA
    have HMT := Lib.hid hma
    clear hma
    go_wp2_with (first
      | (go_at_call 12; (with_reducible refine (HMA.out _).mono ?_); rintro e w7 ⟨rfl, hb7⟩; have HB7 := Lib.hid (HB6.out.trans (hb7.mono HB6.out.size)); clear hb7 c0 c1 HMA; have c0 := (HX.out.on HB7.out).cell 0; have c1 := (HX.out.on HB7.out).cell 1; have HBA := Lib.hid (HB7.out.alloc HB7.out.size (.cells #[.string (sx a.t), .string (sx a.v)] 29)); have hc2 := HCA.out [a] (.slice (some ⟨w7.heap.size, 0, none⟩) 1 1) _ HBA.out (rdv_new w7 [a] _ 1 rfl (by decide) rfl) (sm_one HAL.out.2.2.1 HAL.out.2.2.2) (by simp); rw [chg_one HAL.out.2.1 HAL.out.1 HMT.out] at hc2; have HC2 := Lib.hid hc2; clear hc2)
      | (go_at_call 32; (with_reducible refine HC2.out.mono ?_); clear HC2; rintro e w8 ⟨v8, rfl, hv8, hb8⟩; have HB8 := Lib.hid (HBA.out.trans (hb8.mono HBA.out.size)); clear hb8 c0 c1 HBA; have HV8 := Lib.hid hv8; obtain ⟨A8, c8, rfl, _, _⟩ := hv8; have c0 := (HX.out.on HB8.out).cell 0; have HBE := Lib.hid (HB8.out.alloc HB8.out.size (.cells #[.string (sx a.t), .string ⟨#[]⟩] 29)); have hc3 := HCA.out [⟨a.t, []⟩] (.slice (some ⟨w8.heap.size, 0, none⟩) 1 1) _ HBE.out (rdv_new w8 [⟨a.t, []⟩] _ 1 rfl (by decide) rfl) (sm_one HAL.out.2.2.1 (by simp)) (by simp); rw [chg_one HAL.out.2.1 HAL.out.1 (may_empty HMT.out)] at hc3; have HC3 := Lib.hid hc3; clear hc3)
      | (go_at_call 32; (with_reducible refine HC3.out.mono ?_); clear HC3; rintro e w9 ⟨v9, rfl, hv9, hb9⟩; have HB9 := Lib.hid (HBE.out.trans (hb9.mono HBE.out.size)); have hb89 := ((Below.refl w8.heap.size w8).alloc (Nat.le_refl _) (.cells #[.string (sx a.t), .string ⟨#[]⟩] 29)).trans (hb9.mono (le_alloc (Nat.le_refl _))); clear hb9 c0 HBE; have HV9 := Lib.hid hv9; obtain ⟨A9, c9, rfl, _, hr9⟩ := hv9; have HR9 := Lib.hid hr9; clear hr9; have HV8 := Lib.hid (HV8.out.on hb89); clear hb89))
    have hw0 : IntKind.i64.wrap 0 = 0 := by decide
    have hd0 := (HX.out.on HB9.out).cell 0
    have hd1 := (HX.out.on HB9.out).cell 1
    have e0 := cell_regrown hd0
    have e1 := cell_regrown hd1
    have hem := sx_empty a.v
    have h38 := fun W (hb : Below w9.heap.size w9 W) => has_any (changeL l [a]) a _ W (HV8.out.on hb) (by have := change_len l [a]; rw [List.length_singleton] at this; have := HN.out; omega)
    rw [chg_has] at h38
    generalize decide (a.v = []) = rr at hem h38
    have c23 := fun d os => Calls.regrown_of ((num_any 0 (grow (redrawn w9 d) os)).mono fun e w' (h : _ ∧ _ = w') => (⟨h.1, h.2 ▸ Below.refl _ _⟩ : e = .returned (.int .i64 0) ∧ Below (grow (redrawn w9 d) os).heap.size (grow (redrawn w9 d) os) w'))
    have c38 := fun d os => Calls.regrown_of (h38 (grow (redrawn w9 d) os) (below_regrown _ _ _))
    clear hd0 hd1 h38
    refine wp_region_quiet_below (by kernel_rfl) (by kernel_rfl) ?_
    repeat
      with_reducible refine wpQuiet_step (fun K hK => ?_)
      go_simp
      first
        | (with_reducible refine hK _ ?_; clear hK K)
        | (rw [if_neg (by first | decide | (intro h; cases h))]; with_reducible refine hK _ ?_; clear hK K)
        | (apply Exists.intro; refine ⟨fun _ => ?_, hK _ ?_⟩; (first | exact c23 _ _ | exact c38 _ _); clear hK K)
    with_reducible refine wpQuiet_nil ?_
    rintro _ ⟨⟨dq, osq⟩, rfl⟩
    have HB10 := Lib.hid (HB9.out.trans ((below_regrown w9 dq osq).mono HB9.out.size))
    clear e0 e1 c23 c38 hem HV8 hw0
    have HB910 := Lib.hid (below_regrown w9 dq osq)
    generalize grow (redrawn w9 dq) osq = w10 at HB10 HB910 ⊢
    have hr10 : RdK kA w10 w10.heap.size A9 (changeL l [⟨a.t, []⟩]) := HR9.out.on (show Below w9.heap.size w9 w10 from HB910.out)
    have HR10 := Lib.hid hr10
    have HNL := Lib.hid fun (y : At) (hy : y ∈ changeL l [⟨a.t, []⟩]) => chg_out hy
    have hq41 : (changeL l [⟨a.t, []⟩]).length ≤ 100 := by have := change_len l [⟨a.t, []⟩]; rw [List.length_singleton] at this; have := HN.out; omega
    clear hr10 HB910
    generalize changeL l [⟨a.t, []⟩] = nl at HR10 HNL hq41 ⊢
    obtain ⟨q, hq⟩ : ∃ q, q = nl.length := ⟨_, rfl⟩
    rw [← hq] at hq41 ⊢
    have HQ := Lib.hid hq
    clear hq HV9 HR9
    go_wp2
    go_loopw [13] (fun s13 wr => ∃ k : Nat, s13 = .int .i64 k ∧ k ≤ q ∧ Hid (Below w10.heap.size w10 wr)) (fun s13 _ => q - (intOf s13).toNat)
    case atStart => exact ⟨0, rfl, Nat.zero_le _, Lib.hid (Below.refl _ _)⟩
    case round =>
      obtain ⟨k, rfl, hk, HBL⟩ := hrel
      have HBR := Lib.hid (HB10.out.trans (HBL.out.mono HB10.out.size))
      by_cases hlt : k < q
      · have hkl : k < nl.length := by have := HQ.out; omega
        obtain ⟨b, off, rfl, _, f0, f1⟩ := at_cells HR10.out HBL.out hkl
        have hmem : nl.getD k default ∈ nl := by rw [getD_at nl k hkl]; exact List.getElem_mem _
        have hout := HNL.out _ hmem
        generalize nl.getD k default = y at f0 f1 hout
        have hd := sx_beq y.t a.t
        rw [decide_eq_false hout.2] at hd
        have h39 := fun W (hb : Below wr.heap.size wr W) => HLH.out y W (HBR.out.trans (hb.mono HBR.out.size))
        rw [decide_eq_true hout.1] at h39
        have f2 := (HX.out.on HBR.out).cell 0
        have e0 := cell_regrown f0
        have e1 := cell_regrown f1
        have e2 := cell_regrown f2
        have c39 := fun d os => Calls.regrown_of (h39 (grow (redrawn wr d) os) (below_regrown _ _ _))
        clear hmem hout f0 f1 f2 h39
        go_wp2_with fail
        refine wp_region_quiet_below (by kernel_rfl) (by kernel_rfl) ?_
        repeat
          with_reducible refine wpQuiet_step (fun K hK => ?_)
          go_simp
          first
            | (with_reducible refine hK _ ?_; clear hK K)
            | (rw [if_neg (by first | decide | (intro h; cases h))]; with_reducible refine hK _ ?_; clear hK K)
            | (apply Exists.intro; refine ⟨fun _ => ?_, hK _ ?_⟩; (first | exact c39 _ _); clear hK K)
        with_reducible refine wpQuiet_nil ?_
        rintro _ ⟨⟨dq, osq⟩, rfl⟩
        have HB11 := Lib.hid (HBL.out.trans ((below_regrown wr dq osq).mono HBL.out.size))
        clear e0 e1 e2 c39 hd
        generalize grow (redrawn wr dq) osq = w11 at HB11 ⊢
        go_wp2
        go_roundw
        case rel => exact ⟨k + 1, by go_num, by omega, HB11⟩
        case measure => simp [intOf]; omega
      · have hkq : k = q := by omega
        subst hkq
        go_wp2
        go_loopw [14, 15] (fun s14 s15 wr => ∃ j : Nat, j ≤ m ∧ s15 = .int .i64 ((j : Int) - 1) ∧ Hid (RowK kA wr (w.alloc (.cells #[.string (sx a.t), .string (sx a.v)] 29)).heap.size s14 ((by'.drop j).reverse) ∧ Below (w.alloc (.cells #[.string (sx a.t), .string (sx a.v)] 29)).heap.size (w.alloc (.cells #[.string (sx a.t), .string (sx a.v)] 29)) wr)) (fun _ s15 _ => (intOf s15 + 1).toNat)
        case atStart => exact ⟨m, Nat.le_refl _, by first | rfl | go_num, Lib.hid ⟨by rw [HN.out.2, List.drop_length]; exact nil_row kA _ _, HBR.out⟩⟩
        case round =>
          obtain ⟨j, hj, rfl, H⟩ := hrel
          by_cases hj0 : 0 < j
          · obtain ⟨i, rfl⟩ : ∃ i, j = i + 1 := ⟨j - 1, by omega⟩
            have hil : i < by'.length := by have := HN.out; omega
            obtain ⟨b, off, rfl, _, e0, e1⟩ := at_cells (HRB.out) H.out.2 hil
            have HDR := Lib.hid (drop_rev by' i hil)
            generalize by'.getD i default = y at e0 e1 HDR
            have hql : ((by'.drop (i + 1)).reverse).length + [y].length ≤ 1000000000 := by rw [List.length_reverse, List.length_drop]; have := HN.out; simp; omega
            generalize (by'.drop (i + 1)).reverse = q at H HDR hql
            have hzz := H.out.2.size
            have HY := Lib.hid (And.intro (RowK.alloc H.out.1 (.cells #[.string (sx y.t), .string (sx y.v)] 29)) (And.intro (rd_one wr y) (And.intro (le_alloc (o := .cells #[.string (sx y.t), .string (sx y.v)] 29) hzz) hql)))
            have hsi : ((i + 1 : Nat) : Int) - 1 = (i : Int) := by omega
            have hii : ((i : Int)) - 1 = ((i : Nat) : Int) - 1 := rfl
            rw [hsi]
            clear hql hsi hii
            go_wp2_with (at_builtin; refine wpList_app kA rfl _ _ rfl [y] rfl HY.out.1 rfl HY.out.2.1 (fun h => by cases h) HY.out.2.2.2 HY.out.2.2.1 ?_; intro v' w' hrow' hgr')
            go_roundw
            case rel => exact ⟨i, by omega, by go_num, Lib.hid ⟨by rw [← HDR.out]; exact hrow', (H.out.2.alloc H.out.2.size _).trans (row_below HY.out.1 hgr' HY.out.2.2.1)⟩⟩
            case measure => simp [intOf] <;> omega
          · have hj1 : j = 0 := by omega
            subst hj1
            have hrow := H.out.1
            rw [List.drop_zero] at hrow
            have hrv := RowK.rdv hrow
            have HBX := Lib.hid H.out.2
            have hby := HVB.out _ HBX.out
            have hc1 := HCA.out by' _ wr HBX.out hby HS.out.2 (by have := HN.out; omega)
            have hc2 := fun W' (hb : Below wr.heap.size wr W') => HCA.out by'.reverse _ W' (HBX.out.trans (hb.mono HBX.out.size)) (hrv.on hb) (sm_rev HS.out.2) (by rw [List.length_reverse]; have := HN.out; omega)
            rw [change_reverse] at hc2
            obtain ⟨A14, c14, rfl, _, _⟩ := hrv
            rw [List.length_reverse, ← HN.out.2] at hc2 ⊢
            have hcl : (changeR l by').1.length ≤ 9223372036854775807 := by
              unfold changeR
              split
              · split
                · simp
                · have := change_len l by'; have := HN.out; show (changeL l by').length ≤ _; omega
              · simp
            have HC8 := Lib.hid hc1
            have HC9 := Lib.hid hc2
            have HCL := Lib.hid hcl
            clear hrow hby hc1 hc2 hcl H
            generalize (changeR l by') = cr at HC8 HC9 HCL
            obtain ⟨crl, cre⟩ := cr
            dsimp only at HC8 HC9 HCL
            go_wp2_with (first
              | (go_at_call 32; (with_reducible refine HC8.out.mono ?_); clear HC8; rintro e y1 ⟨x1, rfl, hx1, hy1⟩; have HY1 := Lib.hid hy1; have HX1 := Lib.hid hx1; obtain ⟨A16, c16, rfl, _, _⟩ := hx1; clear hy1; have HC91 := Lib.hid (HC9.out _ HY1.out); clear HC9)
              | (go_at_call 32; (with_reducible refine HC91.out.mono ?_); clear HC91; rintro e y2 ⟨x2, rfl, hx2, hy2⟩; have HY2 := Lib.hid (HY1.out.trans (hy2.mono HY1.out.size)); have HX2 := Lib.hid (HX1.out.on hy2); have hs2 := refSame_any crl crl _ _ y2 HX2.out hx2 HCL.out HCL.out; rw [decide_eq_true rfl] at hs2; have HSE := Lib.hid hs2; clear hs2 hy2; obtain ⟨A18, c18, rfl, _, _⟩ := hx2)
              | (go_at_call 23; (with_reducible refine (num_any _ _).mono ?_); rintro e w5 ⟨rfl, rfl⟩)
              | (go_at_call 30; (with_reducible refine HSE.out.mono ?_); clear HSE; rintro e y3 ⟨rfl, hy3⟩; have HY3 := Lib.hid (HY2.out.trans (hy3.mono HY2.out.size)); clear hy3)
              | (go_at_call 10; (with_reducible refine (HK.out _).mono ?_); rintro e y4 ⟨rfl, hy4⟩; have HY4 := Lib.hid (HY3.out.trans (hy4.mono HY3.out.size)); clear hy4))
            go_ret
            exact ⟨rfl, HB.out.trans ((HBX.out.trans (HY4.out.mono HBX.out.size)).mono (Nat.le_of_lt HZ.out))⟩
theorem changes_any (l by' : List At) (a : At) (v vb : Value) (w : World) (hv : RdV w v l) (hvb : RdV w vb by') (hs : Sm l) (hsb : Sm by') (hl : l.length ≤ 9223372036854775807) (hlb : by'.length ≤ 9223372036854775807) (ht : a.t.length ≤ 9223372036854775807) (hx : a.v.length ≤ 9223372036854775807) :
    Known w 8 #[v, vb, a.val] := by
  by_cases h : AskC l by' a
  · exact changes_in l by' a v vb w hv hvb hs hsb hl hlb ht hx h
  · exact changes_out l by' a v vb w hv hvb hs hsb hl hlb ht hx h
end Go.Proofs.Ytlhbnmaalhainaa
