/- Attributes sorted, and changed by others, by the document. -/
import Derived.Test.YtlhbnmaalhainaaRefPut
namespace Go.Proofs.Ytlhbnmaalhainaa
open Go.RowKit Go.Lib Go.Sort
set_option linter.unusedVariables false
set_option linter.unusedSimpArgs false

theorem sort_snoc (q : List At) (x : At) : sortA (q ++ [x]) = putA (sortA q) x := by unfold sortA; rw [List.foldl_append]; rfl
theorem take_snoc (l : List At) (k : Nat) (h : k < l.length) : l.take (k + 1) = l.take k ++ [l.getD k default] := by
  rw [List.take_add_one, List.getElem?_eq_getElem h, List.getD_eq_getElem?_getD, List.getElem?_eq_getElem h]
  rfl
set_option maxHeartbeats 2000000 in
theorem refSorted_any (l : List At) (v : Value) (w : World) (hv : RdV w v l) (hl : l.length ≤ 100000) :
    Calls Try.prog 35 #[v] w (PutOut w (sortA l)) := by
  obtain ⟨A, c, rfl, _, hr⟩ := hv
  have HR := Lib.hid hr
  obtain ⟨n, hn⟩ : ∃ n, n = l.length := ⟨_, rfl⟩
  rw [← hn] at hl ⊢
  have HN := Lib.hid hn
  clear hr hn
  go_enter Try.func35, Try.ntmps35
  go_wp2
  go_loopw [3, 4] (fun s3 s4 wr => ∃ k : Nat, s4 = .int .i64 k ∧ k ≤ n ∧ Hid (RdV wr s3 (sortA (l.take k)) ∧ Below w.heap.size w wr)) (fun _ s4 _ => n - (intOf s4).toNat)
  case atStart => exact ⟨0, rfl, Nat.zero_le _, Lib.hid ⟨RdV.nil _, Below.refl _ _⟩⟩
  case round =>
    obtain ⟨k, rfl, hk, H⟩ := hrel
    by_cases hlt : k < n
    · have hkl : k < l.length := by have := HN.out; omega
      obtain ⟨b, off, rfl, _, c0, c1⟩ := at_cells HR.out H.out.2 hkl
      have HT := Lib.hid (take_snoc l k hkl)
      have hq : (sortA (l.take k)).length ≤ 1000000 := by
        have h1 := sort_len (l.take k)
        rw [List.length_take] at h1
        omega
      generalize hqk : l.take k = q at HT H hq
      generalize l.getD k default = x at c0 c1 HT
      have HP := Lib.hid (refPut_any (sortA q) x u3 wr H.out.1 hq)
      have HB := Lib.hid H.out.2
      clear hqk hq
      go_wp2_with (go_at_call 62; (with_reducible refine HP.out.mono ?_); rintro e w2 ⟨v2, rfl, hv2, hb2⟩)
      go_roundw
      case rel => exact ⟨k + 1, by go_num, by omega, Lib.hid ⟨by rw [HT.out, sort_snoc]; exact hv2, HB.out.trans (hb2.mono HB.out.size)⟩⟩
      case measure => simp [intOf]; omega
    · have hkn : k = n := by omega
      subst hkn
      rw [HN.out, List.take_length] at H
      have HH := H
      go_wp2
      go_ret
      exact ⟨_, rfl, HH.out.1, HH.out.2⟩

def anyT (by' : List At) (a : At) (j : Nat) : Bool := (by'.take j).any fun b => decide (b.t = a.t)
theorem anyT_succ {by' : List At} {a : At} {j : Nat} (h : j < by'.length) : anyT by' a (j + 1) = (anyT by' a j || decide ((by'.getD j default).t = a.t)) := by
  unfold anyT
  rw [take_snoc by' j h, List.any_append]
  simp
theorem anyT_keep {by' : List At} {a : At} : keepA by' a = !anyT by' a by'.length := by unfold keepA anyT; rw [List.take_length]
theorem filt_len {p : At → Bool} {l : List At} {k n : Nat} (hk : k ≤ n) (hn : n ≤ 50) : (sortA ((l.take k).filter p)).length ≤ 50 := by
  have h1 := sort_len ((l.take k).filter p)
  have h2 := RdK.len_snoc (p := p) (l := l) (k := k)
  omega
theorem filt_len2 {p s : At → Bool} {l by' : List At} {k m : Nat} (hk : k ≤ m) (hm : m ≤ 50) (hl : l.length ≤ 50) : (sortA (l.filter p ++ (by'.take k).filter s)).length ≤ 100 := by
  have h1 := sort_len (l.filter p ++ (by'.take k).filter s)
  have h2 := RdK.len_snoc (p := s) (l := by') (k := k)
  have h3 := List.length_filter_le p l
  rw [List.length_append] at h1
  omega
set_option maxRecDepth 100000 in
set_option maxHeartbeats 4000000 in
theorem refChange_any (l by' : List At) (v vb : Value) (w : World) (hv : RdV w v l) (hvb : RdV w vb by') (hs : Sm l) (hsb : Sm by') (hl : l.length ≤ 1000000) (hlb : by'.length ≤ 1000000) :
    Calls Try.prog 33 #[v, vb] w (ChOut w (changeR l by')) := by
  have HL := Lib.hid (refMayAttrs_any l v w hv hs hl)
  obtain ⟨A, c, rfl, _, hr⟩ := hv
  obtain ⟨B, d, rfl, _, hrb⟩ := hvb
  have HR := Lib.hid hr
  have HRB := Lib.hid hrb
  have HSB := Lib.hid hsb
  obtain ⟨n, hn⟩ : ∃ n, n = l.length := ⟨_, rfl⟩
  obtain ⟨m, hm⟩ : ∃ m, m = by'.length := ⟨_, rfl⟩
  rw [← hn] at HL hl ⊢
  rw [← hm] at hlb ⊢
  have HN := Lib.hid (And.intro hn hm)
  clear hr hrb hs hsb hn hm
  cases hml : mayL l with
  | false =>
    have HRR : Hid (changeR l by' = ([], 2)) := Lib.hid (by unfold changeR mayC; rw [hml]; rfl)
    rw [hml] at HL
    clear hml
    go_enter Try.func33, Try.ntmps33
    go_wp2_with (go_at_call 16; (with_reducible refine HL.out.mono ?_); rintro e w1 ⟨rfl, hb1⟩)
    go_ret2
    rw [HRR.out]
    exact ⟨_, rfl, RdV.nil _, hb1⟩
  | true =>
    rw [hml] at HL
    by_cases h50 : m ≤ 50
    · have HMC : Hid (mayC l by' = by'.all mayA) := Lib.hid (by unfold mayC; rw [hml, decide_eq_true (by rw [← HN.out.2]; exact h50)]; rfl)
      have hn50 : n ≤ 50 := by rw [HN.out.1]; exact (mayL_iff.1 hml).1
      clear hml
      go_enter Try.func33, Try.ntmps33
      go_wp2_with (go_at_call 16; (with_reducible refine HL.out.mono ?_); rintro e w1 ⟨rfl, hb1⟩)
      have HB1 := Lib.hid hb1
      clear hb1
      go_loopw [6] (fun s6 wr => ∃ k : Nat, s6 = .int .i64 k ∧ k ≤ m ∧ Hid (Below w.heap.size w wr) ∧ Hid (∀ j, j < k → mayA (by'.getD j default) = true)) (fun s6 _ => m - (intOf s6).toNat)
      case atStart => exact ⟨0, rfl, Nat.zero_le _, HB1, Lib.hid fun j hj => absurd hj (Nat.not_lt_zero _)⟩
      case round =>
        obtain ⟨k, rfl, hk, HB, HA⟩ := hrel
        by_cases hlt : k < m
        · have hkl : k < by'.length := by have := HN.out; omega
          obtain ⟨b, off, rfl, _, c0, c1⟩ := at_cells HRB.out HB.out hkl
          have hx := sm_get HSB.out k hkl
          have hmem : by'.getD k default ∈ by' := by rw [getD_at by' k hkl]; exact List.getElem_mem _
          have HMEM := Lib.hid hmem
          generalize hgx : by'.getD k default = x at c0 c1 hx HMEM
          have HGX := Lib.hid hgx
          have h12 := refMayAttr_any x wr hx.1 hx.2
          clear hmem hgx hx
          generalize hma : mayA x = r at h12
          have H12 := Lib.hid h12
          have HMA := Lib.hid hma
          clear h12 hma
          cases r with
          | true =>
            go_wp2_with (go_at_call 12; (with_reducible refine H12.out.mono ?_); rintro e w2 ⟨rfl, hb2⟩)
            go_roundw
            case rel => exact ⟨k + 1, by go_num, by omega, Lib.hid (HB.out.trans (hb2.mono HB.out.size)), Lib.hid fun j hj => by
              by_cases e : j = k
              · subst e; rw [HGX.out]; exact HMA.out
              · exact HA.out j (by omega)⟩
            case measure => simp [intOf]; omega
          | false =>
            have HRR : Hid (changeR l by' = ([], 2)) := Lib.hid (by
              have : by'.all mayA = false := List.all_eq_false.2 ⟨x, HMEM.out, by rw [HMA.out]; decide⟩
              unfold changeR
              rw [HMC.out, this]
              rfl)
            go_wp2_with (go_at_call 12; (with_reducible refine H12.out.mono ?_); rintro e w2 ⟨rfl, hb2⟩)
            go_ret2
            rw [HRR.out]
            exact ⟨_, rfl, RdV.nil _, HB.out.trans (hb2.mono HB.out.size)⟩
        · have hkm : k = m := by omega
          have hall : by'.all mayA = true := List.all_eq_true.2 fun y hy => by
            obtain ⟨j, hj, e⟩ := List.mem_iff_getElem.1 hy
            have := HA.out j (by have := HN.out; omega)
            rwa [getD_at by' j hj, e] at this
          have HRR : Hid (changeR l by' = if 50 < (changeL l by').length then ([], 10) else (changeL l by', 0)) := Lib.hid (by unfold changeR; rw [if_pos (by rw [HMC.out, hall])])
          clear hall HA HMC
          subst hkm
          go_wp2
          go_loopw [7, 8] (fun s7 s8 wr => ∃ i : Nat, s8 = .int .i64 i ∧ i ≤ n ∧ Hid (RdV wr s7 (sortA ((l.take i).filter (keepA by'))) ∧ Below w.heap.size w wr)) (fun _ s8 _ => n - (intOf s8).toNat)
          case atStart => exact ⟨0, rfl, Nat.zero_le _, Lib.hid ⟨RdV.nil _, HB.out⟩⟩
          case round =>
            obtain ⟨i, rfl, hi, H⟩ := hrel
            obtain ⟨wq, hwq⟩ : ∃ wq : World, wq = wr := ⟨_, rfl⟩
            subst hwq
            by_cases hlt2 : i < n
            · have hil : i < l.length := by have := HN.out; omega
              have HF := Lib.hid (filter_take_succ (keepA by') l i hil)
              have hq := filt_len (p := keepA by') (l := l) hi hn50
              generalize hqi : (l.take i).filter (keepA by') = q at HF H hq
              clear hqi
              have HK : Hid (keepA by' (l.getD i default) = !anyT by' (l.getD i default) k) := Lib.hid (by rw [HN.out.2]; exact anyT_keep)
              have HP := Lib.hid fun W (hb : Below wq.heap.size wq W) => refPut_any (sortA q) (l.getD i default) u7 W (H.out.1.on hb) (by omega)
              generalize hgx : l.getD i default = x at HF HK HP
              have HGX := Lib.hid hgx
              clear hgx hq
              go_wp2
              go_loopw [9, 10] (fun s9 s10 wr => ∃ j : Nat, s10 = .int .i64 j ∧ j ≤ k ∧ s9 = .bool (!anyT by' x j) ∧ Hid (Below wq.heap.size wq wr)) (fun _ s10 _ => k - (intOf s10).toNat)
              case atStart => exact ⟨0, rfl, Nat.zero_le _, rfl, Lib.hid (Below.refl _ _)⟩
              case round =>
                obtain ⟨j, rfl, hj, rfl, HB2⟩ := hrel
                have HBW := Lib.hid (H.out.2.trans (HB2.out.mono H.out.2.size))
                by_cases hlt3 : j < k
                · have hjl : j < by'.length := by have := HN.out; omega
                  obtain ⟨b1, o1, rfl, _, c0, _⟩ := at_cells HR.out HBW.out hil
                  obtain ⟨b2, o2, rfl, _, d0, _⟩ := at_cells HRB.out HBW.out hjl
                  have HS := Lib.hid (anyT_succ (a := x) hjl)
                  rw [HGX.out] at c0
                  generalize by'.getD j default = y at d0 HS
                  have hd := sx_beq y.t x.t
                  have e0 := cell_regrown c0
                  have e1 := cell_regrown d0
                  clear c0 d0
                  generalize anyT by' x j = r0 at HS ⊢
                  generalize decide (y.t = x.t) = r1 at HS hd
                  cases r0 with
                  | true =>
                    go_wp2_with fail
                    refine wp_region_quiet_below (by kernel_rfl) (by kernel_rfl) ?_
                    repeat
                      with_reducible refine wpQuiet_step (fun K hK => ?_)
                      go_simp
                      first
                        | (with_reducible refine hK _ ?_; clear hK K)
                        | (rw [if_neg (by first | decide | (intro h; cases h))]; with_reducible refine hK _ ?_; clear hK K)
                    with_reducible refine wpQuiet_nil ?_
                    rintro _ ⟨⟨dq, osq⟩, rfl⟩
                    have HB3 := Lib.hid (HB2.out.trans ((below_regrown wr dq osq).mono HB2.out.size))
                    clear e0 e1
                    generalize grow (redrawn wr dq) osq = w3 at HB3 ⊢
                    go_wp2
                    go_roundw
                    case rel => exact ⟨j + 1, by go_num, by omega, by rw [HS.out]; rfl, HB3⟩
                    case measure => simp [intOf]; omega
                  | false =>
                    go_wp2_with fail
                    refine wp_region_quiet_below (by kernel_rfl) (by kernel_rfl) ?_
                    repeat
                      with_reducible refine wpQuiet_step (fun K hK => ?_)
                      go_simp
                      first
                        | (with_reducible refine hK _ ?_; clear hK K)
                        | (rw [if_neg (by first | decide | (intro h; cases h))]; with_reducible refine hK _ ?_; clear hK K)
                    with_reducible refine wpQuiet_nil ?_
                    rintro _ ⟨⟨dq, osq⟩, rfl⟩
                    have HB3 := Lib.hid (HB2.out.trans ((below_regrown wr dq osq).mono HB2.out.size))
                    clear e0 e1
                    generalize grow (redrawn wr dq) osq = w3 at HB3 ⊢
                    go_wp2
                    go_roundw
                    case rel => exact ⟨j + 1, by go_num, by omega, by rw [HS.out]; simp, HB3⟩
                    case measure => simp [intOf]; omega
                · have hjk : j = k := by omega
                  subst hjk
                  generalize hkk : anyT by' x j = r0 at HK ⊢
                  clear hkk
                  cases r0 with
                  | true =>
                    go_wp2
                    go_roundw
                    case rel => exact ⟨i + 1, by go_num, by omega, Lib.hid ⟨by rw [HF.out, if_neg (by rw [HK.out]; decide), List.append_nil]; exact H.out.1.on HB2.out, HBW.out⟩⟩
                    case measure => simp [intOf]; omega
                  | false =>
                    obtain ⟨b1, o1, rfl, _, c0, c1⟩ := at_cells HR.out HBW.out hil
                    rw [HGX.out] at c0 c1
                    have HP2 := Lib.hid (HP.out _ HB2.out)
                    go_wp2_with (go_at_call 62; (with_reducible refine HP2.out.mono ?_); rintro e w4 ⟨v4, rfl, hv4, hb4⟩)
                    go_roundw
                    case rel => exact ⟨i + 1, by go_num, by omega, Lib.hid ⟨by rw [HF.out, if_pos (by rw [HK.out]; rfl), sort_snoc]; exact hv4, HBW.out.trans (hb4.mono HBW.out.size)⟩⟩
                    case measure => simp [intOf]; omega
            · have hin : i = n := by omega
              subst hin
              have hq : (l.take i).filter (keepA by') = l.filter (keepA by') := by rw [HN.out.1, List.take_length]
              rw [hq] at H
              have HLL := Lib.hid (show l.length ≤ 50 by have := HN.out; omega)
              clear hq
              go_wp2
              go_loopw [7, 11] (fun s7 s11 wr => ∃ j : Nat, s11 = .int .i64 j ∧ j ≤ k ∧ Hid (RdV wr s7 (sortA (l.filter (keepA by') ++ (by'.take j).filter setA)) ∧ Below w.heap.size w wr)) (fun _ s11 _ => k - (intOf s11).toNat)
              case atStart => exact ⟨0, rfl, Nat.zero_le _, Lib.hid ⟨by simpa using H.out.1, H.out.2⟩⟩
              case round =>
                obtain ⟨j, rfl, hj, H2⟩ := hrel
                by_cases hlt3 : j < k
                · have hjl : j < by'.length := by have := HN.out; omega
                  obtain ⟨b2, o2, rfl, _, d0, d1⟩ := at_cells HRB.out H2.out.2 hjl
                  have HF := Lib.hid (filter_take_succ setA by' j hjl)
                  have hq := filt_len2 (p := keepA by') (s := setA) (l := l) (by' := by') hj h50 HLL.out
                  generalize hqi : l.filter (keepA by') ++ (by'.take j).filter setA = q at H2 hq
                  have HQI := Lib.hid hqi
                  generalize by'.getD j default = y at d0 d1 HF
                  have HP := Lib.hid (refPut_any (sortA q) y u7 wr H2.out.1 (by omega))
                  have hem := sx_empty y.v
                  have HSA : Hid (setA y = decide (y.v ≠ [])) := Lib.hid rfl
                  clear hqi hq
                  by_cases hyv : y.v = []
                  · rw [decide_eq_true hyv] at hem
                    have HS0 : Hid (setA y = false) := Lib.hid (by rw [HSA.out, hyv]; rfl)
                    clear hyv
                    go_wp2
                    go_roundw
                    case rel => exact ⟨j + 1, by go_num, by omega, Lib.hid ⟨by rw [HF.out, if_neg (by rw [HS0.out]; decide), List.append_nil, HQI.out]; exact H2.out.1, H2.out.2⟩⟩
                    case measure => simp [intOf]; omega
                  · rw [decide_eq_false hyv] at hem
                    have HS0 : Hid (setA y = true) := Lib.hid (by rw [HSA.out]; exact decide_eq_true hyv)
                    clear hyv
                    go_wp2_with (go_at_call 62; (with_reducible refine HP.out.mono ?_); rintro e w4 ⟨v4, rfl, hv4, hb4⟩)
                    go_roundw
                    case rel => exact ⟨j + 1, by go_num, by omega, Lib.hid ⟨by rw [HF.out, if_pos HS0.out, ← List.append_assoc, HQI.out, sort_snoc]; exact hv4, H2.out.2.trans (hb4.mono H2.out.2.size)⟩⟩
                    case measure => simp [intOf]; omega
                · have hjk : j = k := by omega
                  subst hjk
                  have hq : l.filter (keepA by') ++ (by'.take j).filter setA = l.filter (keepA by') ++ by'.filter setA := by rw [HN.out.2, List.take_length]
                  have hq2 := filt_len2 (p := keepA by') (s := setA) (l := l) (by' := by') hj h50 HLL.out
                  rw [hq] at H2 hq2
                  have hcl : sortA (l.filter (keepA by') ++ by'.filter setA) = changeL l by' := rfl
                  rw [hcl] at H2 hq2
                  generalize changeL l by' = cl at H2 hq2 HRR
                  have HV := Lib.hid H2.out.1
                  have HB5 := Lib.hid H2.out.2
                  obtain ⟨A5, c5, rfl, _, _⟩ := H2.out.1
                  clear hq hcl H2
                  obtain ⟨nc, hnc⟩ : ∃ nc, nc = cl.length := ⟨_, rfl⟩
                  rw [← hnc] at HV hq2 ⊢
                  by_cases hgt : 50 < nc
                  · have HRF : Hid (changeR l by' = ([], 10)) := Lib.hid (by rw [HRR.out, if_pos (by rw [← hnc]; exact hgt)])
                    clear hnc
                    go_wp2
                    go_ret2
                    rw [HRF.out]
                    exact ⟨_, rfl, RdV.nil _, HB5.out⟩
                  · have HRF : Hid (changeR l by' = (cl, 0)) := Lib.hid (by rw [HRR.out, if_neg (by rw [← hnc]; exact hgt)])
                    clear hnc
                    go_wp2
                    go_ret2
                    rw [HRF.out]
                    exact ⟨_, rfl, HV.out, HB5.out⟩
    · have HRR : Hid (changeR l by' = ([], 2)) := Lib.hid (by unfold changeR mayC; rw [decide_eq_false (by rw [← HN.out.2]; exact h50)]; simp)
      have hgt : 50 < m := by omega
      clear hml h50
      go_enter Try.func33, Try.ntmps33
      go_wp2_with (go_at_call 16; (with_reducible refine HL.out.mono ?_); rintro e w1 ⟨rfl, hb1⟩)
      go_ret2
      rw [HRR.out]
      exact ⟨_, rfl, RdV.nil _, hb1⟩
end Go.Proofs.Ytlhbnmaalhainaa
