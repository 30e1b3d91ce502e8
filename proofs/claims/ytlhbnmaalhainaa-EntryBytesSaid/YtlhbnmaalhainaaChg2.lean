/- Attributes changed by others: the changed ones. -/
import Derived.Test.YtlhbnmaalhainaaPure
namespace Go.Proofs.Ytlhbnmaalhainaa
open Go.RowKit Go.Lib Go.Sort
set_option linter.unusedVariables false
set_option linter.unusedSimpArgs false

theorem sx_empty (l : List UInt8) : (sx l).toList.isEmpty = decide (l = []) := by rw [sx_list]; cases l <;> simp
theorem RdK.len_snoc {p : At → Bool} {l : List At} {k : Nat} : ((l.take k).filter p).length ≤ k := Nat.le_trans (List.length_filter_le _ _) (by rw [List.length_take]; omega)
theorem rd_one (w : World) (x : At) : RdK kA (w.alloc (.cells #[.string (sx x.t), .string (sx x.v)] 29)) (w.alloc (.cells #[.string (sx x.t), .string (sx x.v)] 29)).heap.size (some ⟨w.heap.size, 0, none⟩) [x] :=
  rd_block (K := kA) (Blk.new w 29 #[.string (sx x.t), .string (sx x.v)]) rfl
set_option maxRecDepth 100000 in
set_option maxHeartbeats 2000000 in
theorem change_yes (l by' : List At) (v vb : Value) (w : World) (hv : RdV w v l) (hvb : RdV w vb by') (hs : Sm l) (hsb : Sm by') (hyes : mayC l by' = true) :
    Calls Try.prog 32 #[v, vb] w (ChOut w (changeR l by')) := by
  have hR : changeR l by' = if 50 < (changeL l by').length then ([], 10) else (changeL l by', 0) := by unfold changeR; rw [if_pos hyes]
  unfold mayC at hyes
  obtain ⟨h1, h2⟩ := Bool.and_eq_true_iff.1 hyes
  obtain ⟨h3, h4⟩ := Bool.and_eq_true_iff.1 h2
  have h5 : l.length ≤ 50 := (mayL_iff.1 h1).1
  have h6 : by'.length ≤ 50 := of_decide_eq_true h3
  have HL := Lib.hid (mayAttrs_any l v w hv hs (by omega))
  have HA := Lib.hid fun W (hb : Below w.heap.size w W) => all_any by' vb W (hvb.on hb) hsb (by omega)
  rw [h1] at HL
  rw [h4] at HA
  have HRR := Lib.hid hR
  have HV := Lib.hid (And.intro hv hvb)
  obtain ⟨A, c, rfl, _, hr⟩ := hv
  obtain ⟨B, d, rfl, _, hrb⟩ := hvb
  have HR := Lib.hid hr
  have HRB := Lib.hid hrb
  obtain ⟨n, hn⟩ : ∃ n, n = l.length := ⟨_, rfl⟩
  obtain ⟨m, hm⟩ : ∃ m, m = by'.length := ⟨_, rfl⟩
  rw [← hn] at HL h5 ⊢
  rw [← hm] at HA h6 ⊢
  have HN := Lib.hid (And.intro hn hm)
  clear hR hyes h1 h2 h3 h4 hr hrb hs hsb hn hm HV
  go_enter Try.func32, Try.ntmps32
  go_wp2_with (first
    | (go_at_call 15; (with_reducible refine HL.out.mono ?_); rintro e w1 ⟨rfl, hb1⟩; have HB1 := Lib.hid hb1; have HA1 := Lib.hid (HA.out _ hb1); clear hb1)
    | (go_at_call 59; (with_reducible refine HA1.out.mono ?_); rintro e w2 ⟨rfl, hb2⟩))
  have HB2 := Lib.hid (HB1.out.trans (hb2.mono HB1.out.size))
  clear HL HA HA1 hb2 HB1
  go_loopw [6, 26] (fun s6 s26 wr => ∃ k : Nat, s26 = .int .i64 k ∧ k ≤ n ∧ Hid (RowK kA wr w.heap.size s6 ((l.take k).filter (keepA by')) ∧ Below w.heap.size w wr)) (fun _ s26 _ => n - (intOf s26).toNat)
  case atStart => exact ⟨0, rfl, Nat.zero_le _, Lib.hid ⟨by simpa using nil_row kA w2 w.heap.size, HB2.out⟩⟩
  case round =>
    obtain ⟨k, rfl, hk, H⟩ := hrel
    by_cases hlt : k < n
    · have hkl : k < l.length := by have := HN.out; omega
      obtain ⟨b, off, rfl, hbl, c0, c1⟩ := at_cells HR.out H.out.2 hkl
      have HF := Lib.hid (filter_take_succ (keepA by') l k hkl)
      have HKA : Hid (keepA by' (l.getD k default) = !(by'.any fun b => decide (b.t = (l.getD k default).t))) := Lib.hid rfl
      have hln := Lib.hid (RdK.len_snoc (p := keepA by') (l := l) (k := k))
      generalize (l.take k).filter (keepA by') = q at HF H hln
      generalize l.getD k default = x at c0 c1 HF HKA
      have hbw := H.out.2.size
      have hb1 : Below w.heap.size w (wr.alloc (.cells #[.string (sx x.t), .string (sx x.v)] 29)) := H.out.2.alloc hbw _
      have hblk := Blk.new wr 29 #[.string (sx x.t), .string (sx x.v)]
      have hrow := RowK.alloc H.out.1 (.cells #[.string (sx x.t), .string (sx x.v)] 29)
      have HCF := Lib.hid (cf_any (α := At) (fun x => x) (fun b => decide (b.t = x.t)) 61 #[.pointer (some ⟨wr.heap.size, 0, none⟩)] eg61 by' B d (wr.alloc (.cells #[.string (sx x.t), .string (sx x.v)] 29))
        (pred61 x wr.heap.size _ (by rw [World.size_alloc]; omega) (hblk.cell 0)) (by rw [List.map_id']; exact ((HRB.out.below hb1).more hb1.size)) (by have := HN.out; omega))
      rw [← HN.out.2] at HCF
      have hsz2 : w.heap.size ≤ (wr.alloc (.cells #[.string (sx x.t), .string (sx x.v)] 29)).heap.size := hb1.size
      generalize (by'.any fun b => decide (b.t = x.t)) = r at HCF HKA
      go_wp2_with fail
      generalize hW : wr.alloc (.cells #[.string (sx x.t), .string (sx x.v)] 29) = W at hb1 hblk hrow HCF hsz2 ⊢
      have HX := Lib.hid (And.intro hb1 (And.intro hblk (And.intro hrow hsz2)))
      clear hW hb1 hblk hrow hsz2
      cases r with
      | true =>
        rw [Bool.not_true] at HKA
        go_wp2_with (go_at_call 60; (with_reducible refine HCF.out.mono ?_); rintro e w3 ⟨rfl, hb3⟩)
        go_roundw
        case rel => exact ⟨k + 1, by go_num, by omega, Lib.hid ⟨by rw [HF.out, if_neg (by rw [HKA.out]; decide), List.append_nil]; exact HX.out.2.2.1.on hb3, HX.out.1.trans (hb3.mono HX.out.2.2.2)⟩⟩
        case measure => simp [intOf]; omega
      | false =>
        rw [Bool.not_false] at HKA
        go_wp2_with (first
          | (go_at_call 60; (with_reducible refine HCF.out.mono ?_); rintro e w3 ⟨rfl, hb3⟩; have e0 := (HX.out.2.1.on hb3).cell 0; have e1 := (HX.out.2.1.on hb3).cell 1; have HY := Lib.hid (And.intro (RowK.alloc (HX.out.2.2.1.on hb3) (.cells #[.string (sx x.t), .string (sx x.v)] 29)) (And.intro (rd_one w3 x) (And.intro (le_alloc (o := .cells #[.string (sx x.t), .string (sx x.v)] 29) (Nat.le_trans HX.out.2.2.2 hb3.size)) (HX.out.1.trans (hb3.mono HX.out.2.2.2))))); have hq2 : q.length + [x].length ≤ 1000000000 := (by have := hln.out; simp; omega))
          | (at_builtin; refine wpList_app kA rfl _ _ rfl [x] rfl HY.out.1 rfl HY.out.2.1 (fun h => by cases h) hq2 HY.out.2.2.1 ?_; intro v' w' hrow' hgr'))
        go_roundw
        case rel => exact ⟨k + 1, by go_num, by omega, Lib.hid ⟨by rw [HF.out, if_pos (by rw [HKA.out])]; exact hrow', (HY.out.2.2.2.alloc HY.out.2.2.2.size _).trans (row_below HY.out.1 hgr' HY.out.2.2.1)⟩⟩
        case measure => simp [intOf]; omega
    · have hkn : k = n := by omega
      subst hkn
      have hq : (l.take k).filter (keepA by') = l.filter (keepA by') := by rw [HN.out.1, List.take_length]
      rw [hq] at H
      have HQL := Lib.hid (Nat.le_trans (List.length_filter_le (keepA by') l) (Nat.le_of_eq HN.out.1.symm))
      have HCL : Hid (changeL l by' = sortA (l.filter (keepA by') ++ by'.filter setA)) := Lib.hid rfl
      generalize l.filter (keepA by') = q at H HCL HQL
      go_wp2
      go_loopw [6, 41] (fun s6 s41 wr => ∃ k : Nat, s41 = .int .i64 k ∧ k ≤ m ∧ Hid (RowK kA wr w.heap.size s6 (q ++ (by'.take k).filter setA) ∧ Below w.heap.size w wr)) (fun _ s41 _ => m - (intOf s41).toNat)
      case atStart => exact ⟨0, rfl, Nat.zero_le _, Lib.hid ⟨by simpa using H.out.1, H.out.2⟩⟩
      case round =>
        obtain ⟨k, rfl, hk, H⟩ := hrel
        by_cases hlt : k < m
        · have hkl : k < by'.length := by have := HN.out; omega
          obtain ⟨b, off, rfl, hbl, c0, c1⟩ := at_cells HRB.out H.out.2 hkl
          have HF := Lib.hid (filter_take_succ setA by' k hkl)
          have hln := Lib.hid (RdK.len_snoc (p := setA) (l := by') (k := k))
          generalize hqk : (by'.take k).filter setA = qk at HF H hln
          clear hqk
          generalize hgx : by'.getD k default = x at c0 c1 HF
          clear hgx
          have HSA : Hid (setA x = decide (x.v ≠ [])) := Lib.hid rfl
          have hem := sx_empty x.v
          have hbw := H.out.2.size
          have hb1 : Below w.heap.size w (wr.alloc (.cells #[.string (sx x.t), .string (sx x.v)] 29)) := H.out.2.alloc hbw _
          have hblk := Blk.new wr 29 #[.string (sx x.t), .string (sx x.v)]
          have hrow := RowK.alloc H.out.1 (.cells #[.string (sx x.t), .string (sx x.v)] 29)
          have hsz2 : w.heap.size ≤ (wr.alloc (.cells #[.string (sx x.t), .string (sx x.v)] 29)).heap.size := hb1.size
          have HX := Lib.hid (And.intro hb1 (And.intro hblk (And.intro hrow hsz2)))
          by_cases hxv : x.v = []
          · rw [decide_eq_true hxv] at hem
            have HS0 : Hid (setA x = false) := Lib.hid (by rw [HSA.out, hxv]; rfl)
            clear hb1 hblk hrow hsz2 hxv hbw
            go_wp2_with fail
            go_roundw
            case rel => exact ⟨k + 1, by go_num, by omega, Lib.hid ⟨by rw [HF.out, if_neg (by rw [HS0.out]; decide), List.append_nil]; exact HX.out.2.2.1, HX.out.1⟩⟩
            case measure => simp [intOf]; omega
          · rw [decide_eq_false hxv] at hem
            have HS0 : Hid (setA x = true) := Lib.hid (by rw [HSA.out]; exact decide_eq_true hxv)
            have hro := rd_one (wr.alloc (.cells #[.string (sx x.t), .string (sx x.v)] 29)) x
            rw [show (wr.alloc (.cells #[.string (sx x.t), .string (sx x.v)] 29)).heap.size = wr.heap.size + 1 from by rw [World.size_alloc]] at hro
            have HY := Lib.hid (And.intro (RowK.alloc HX.out.2.2.1 (.cells #[.string (sx x.t), .string (sx x.v)] 29)) (And.intro hro (And.intro (le_alloc (o := .cells #[.string (sx x.t), .string (sx x.v)] 29) hsz2) (hb1.alloc hsz2 (.cells #[.string (sx x.t), .string (sx x.v)] 29)))))
            have hq2 : (q ++ qk).length + [x].length ≤ 1000000000 := by
              have h1 := hln.out
              have h2 := HQL.out
              rw [List.length_append]
              show q.length + qk.length + 1 ≤ _
              omega
            have HQ2 := Lib.hid hq2
            clear hb1 hblk hrow hsz2 hxv hbw hq2 hro
            go_wp2_with (at_builtin; refine wpList_app kA rfl _ _ rfl [x] rfl HY.out.1 rfl HY.out.2.1 (fun h => by cases h) HQ2.out HY.out.2.2.1 ?_; intro v' w' hrow' hgr')
            go_roundw
            case rel => exact ⟨k + 1, by go_num, by omega, Lib.hid ⟨by rw [HF.out, if_pos (by rw [HS0.out]), ← List.append_assoc]; exact hrow', HY.out.2.2.2.trans (row_below HY.out.1 hgr' HY.out.2.2.1)⟩⟩
            case measure => simp [intOf]; omega
        · have hkm : k = m := by omega
          subst hkm
          have hqb : q ++ (by'.take k).filter setA = q ++ by'.filter setA := by rw [HN.out.2, List.take_length]
          rw [hqb] at H
          have HQB := Lib.hid (Nat.le_trans (List.length_filter_le setA by') (Nat.le_of_eq HN.out.2.symm))
          have HSO := Lib.hid fun v' => sorted_any v' (q ++ by'.filter setA) wr
          rw [← HCL.out] at HSO
          have hsl : (changeL l by').length ≤ 100 := by
            rw [HCL.out]
            refine Nat.le_trans (sort_len _) ?_
            rw [List.length_append]
            have h1 := HQB.out
            have h2 := HQL.out
            omega
          have hlq : (q ++ by'.filter setA).length ≤ 1000000 := by
            rw [List.length_append]
            have h1 := HQB.out
            have h2 := HQL.out
            omega
          have hrv := RowK.rdv H.out.1
          have HSO2 := Lib.hid (HSO.out _ hrv hlq)
          obtain ⟨A6, c6, rfl, _, _⟩ := hrv
          have HB := Lib.hid H.out.2
          generalize (q ++ by'.filter setA).length = n6 at HSO2 ⊢
          have HCC : Hid (changeL l by' = changeL l by') := Lib.hid rfl
          generalize hcl : changeL l by' = cl at HSO2 HRR hsl HCC
          clear hcl hlq HSO H HQB hqb
          obtain ⟨nc, hnc⟩ : ∃ nc, nc = cl.length := ⟨_, rfl⟩
          by_cases h50 : 50 < cl.length
          · rw [if_pos h50] at HRR
            have HNC := Lib.hid hnc
            rw [← hnc] at h50 hsl
            clear hnc
            go_wp2_with (go_at_call 34; (with_reducible refine HSO2.out.mono ?_); rintro e w5 ⟨v5, rfl, hv5, hb5⟩; obtain ⟨A5, c5, rfl, _, _⟩ := hv5; rw [← HNC.out])
            go_ret2
            rw [HRR.out]
            exact ⟨_, rfl, RdV.nil _, HB.out.trans (hb5.mono HB.out.size)⟩
          · rw [if_neg h50] at HRR
            have HNC := Lib.hid hnc
            rw [← hnc] at h50 hsl
            clear hnc
            go_wp2_with (go_at_call 34; (with_reducible refine HSO2.out.mono ?_); rintro e w5 ⟨v5, rfl, hv5, hb5⟩; have HV5 := Lib.hid hv5; obtain ⟨A5, c5, rfl, _, _⟩ := hv5; rw [← HNC.out] at HV5 ⊢)
            go_ret2
            rw [HRR.out]
            exact ⟨_, rfl, HV5.out, HB.out.trans (hb5.mono HB.out.size)⟩
end Go.Proofs.Ytlhbnmaalhainaa
