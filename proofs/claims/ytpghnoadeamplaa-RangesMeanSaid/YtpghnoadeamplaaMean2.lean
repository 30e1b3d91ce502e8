/- RangesMean: the walk, where the ranges make a map. -/
import Derived.Test.YtpghnoadeamplaaMean
import Derived.Test.YtpghnoadeamplaaMeanR
import Derived.Test.YtpghnoadeamplaaOnce
namespace Go.Proofs.Ytpghnoadeamplaa
open Go.RowKit Go.Shelf
set_option linter.unusedVariables false
set_option linter.unusedSimpArgs false
attribute [local go_sem] Oper.semAt_some

theorem rev_take {l : List Rg} {k : Nat} (hk : k < l.length) : l.reverse.take (k + 1) = l.reverse.take k ++ [l.getD (l.length - 1 - k) default] := by
  rw [List.take_add_one, List.getElem?_reverse hk]
  rw [List.getD_eq_getElem?_getD, List.getElem?_eq_getElem (show l.length - 1 - k < l.length by omega)]
  rfl

theorem rev_next {l : List Rg} {j : Nat} (hj : j + 1 ≤ l.length) : l.reverse.take (l.length - j) = l.reverse.take (l.length - (j + 1)) ++ [l.getD j default] := by
  have h := rev_take (l := l) (k := l.length - (j + 1)) (by omega)
  rw [show l.length - (j + 1) + 1 = l.length - j by omega, show l.length - 1 - (l.length - (j + 1)) = j by omega] at h
  exact h

theorem RowR.shape {w : World} {base : Nat} {v : Value} {l : List Rg} (h : RowR w base v l) : ∃ A n c, v = .slice A n c := by
  obtain ⟨A, c, e, _⟩ := h.rd0
  exact ⟨A, _, c, e⟩
/-- The map, the ranges, the loop's own deferred list: they stay. -/
structure Ke (g D : Nat) (A : Option Addr) (m l : List Rg) (W : World) : Prop where
  mv : MapV W g m
  rd : RdR W W.heap.size A l
  df : W.heap[D]? = some (.deferred (some []))
theorem Ke.on {g D : Nat} {A : Option Addr} {m l : List Rg} {W W' : World} (h : Ke g D A m l W) (hb : Below W.heap.size W W') : Ke g D A m l W' :=
  ⟨h.mv.on hb, h.rd.on hb, (hb.block D (Array.getElem?_eq_some_iff.1 h.df).1).trans h.df⟩
theorem RowI.rdn {w : World} {base : Nat} {v : Value} {l : List Int} (h : RowI w base v l) : ∃ A n c, Hid (n = l.length) ∧ v = .slice A n c := by
  rcases h.2 with ⟨rfl, h0⟩ | ⟨g, cap, cur, rfl, _⟩
  · exact ⟨none, 0, 0, Lib.hid h0.symm, rfl⟩
  · exact ⟨_, _, _, Lib.hid rfl, rfl⟩
theorem row_keep {w W : World} {B : Nat} {v : Value} {l : List Rg} (h : RowR w (B + 1) v l) (hk : ∀ b t cs, B < b → Blk w b t cs → Blk W b t cs) : RowR W (B + 1) v l := by
  refine ⟨h.1, ?_⟩
  rcases h.2 with h1 | ⟨g, cap, cur, e1, e2, e3, e4⟩
  · exact .inl h1
  · exact .inr ⟨g, cap, cur, e1, e2, hk g 24 cur (by omega) e3, e4⟩

set_option maxHeartbeats 16000000 in
set_option maxRecDepth 100000 in
theorem mean_in (A : Option Addr) (c : Nat) (l : List Rg) (r : Int) (w : World) (hr : RdR w w.heap.size A l) (hA : A = none → c = 0) (hcap : l.length ≤ c) (h32 : In32 l) (hl : l.length ≤ 200) (hg : l.all goodB = true) (hap : Apart l) :
    Calls Try.prog 4 #[.slice A l.length c, .int .i32 r] w fun e w' => e = .returned (.bool true) ∧ Below w.heap.size w w' := by
  have HR := Lib.hid hr
  have H32 := Lib.hid h32
  have hgd := all_ok.1 hg
  have HG := Lib.hid hg
  have HAP := Lib.hid hap
  have HCAN := Lib.hid (ofL_canon hgd hap)
  have HGD := Lib.hid hgd
  clear hr h32 hg hap hgd
  have d1 : decide ((200 : Int) < l.length) = false := by simp only [decide_eq_false_iff_not]; omega
  have e1 : min (l.length : Int) 200 = l.length := by omega
  refine (callsIn_wide (n := 3)).1 ?_
  refine callsIn_of_wp_marks Try.func4 rfl trivial ?_ rfl
  refine wpIn_wide.2 ?_
  simp only [Try.ntmps4, List.size_toArray, List.length_cons, List.length_nil, Nat.reduceAdd, Nat.reduceSub, Array.replicate_succ, Array.replicate_zero, List.push_toArray, List.append_toArray, List.nil_append, List.cons_append]
  generalize hQ : bodyPostM _ _ _ _ _ = Q'
  have HQ := Lib.hid hQ
  clear hQ
  go_wp2_with fail
  refine (known_any _).mono ?_
  rintro e w1 ⟨rfl, hb1⟩
  go_wp2_with fail
  refine (of_fine A c l.length l w1 rfl (HR.out.on hb1) (by omega) H32.out HG.out HAP.out).mono ?_
  rintro e w2 ⟨g, rfl, hb2, hmv, hg2⟩
  have HB2 := Lib.hid (hb1.trans (hb2.mono hb1.size))
  have HR2 := Lib.hid ((HR.out.on hb1).on hb2)
  have HM2 := Lib.hid hmv
  have hglt := hmv.mapR
  have hlen := Nat.le_trans (ofL_length l) hl
  clear hb1 hb2 hmv hg2 HR hglt
  go_wp2_with fail
  refine (num_any _ _).mono ?_
  rintro e w2 ⟨rfl, rfl⟩
  go_wp2_with fail
  go_loopw [7, 9] (fun s7 s9 wr => ∃ (j n7 c7 : Nat) (A7 : Option Addr), s7 = .slice A7 n7 c7 ∧ s9 = .int .i64 ((j : Int) - 1) ∧ j ≤ l.length ∧ Hid (n7 = (l.reverse.take (l.length - j)).length) ∧ Hid (RowR wr (w2.heap.size + 1) (.slice A7 n7 c7) (l.reverse.take (l.length - j))) ∧ Hid (Below (w2.heap.size + 1) (w2.alloc (.cells #[.slice none 0 0] 22)) wr)) (fun _ i _ => (intOf i + 1).toNat)
  case atStart =>
    exact ⟨l.length, 0, 0, none, rfl, rfl, Nat.le_refl _, Lib.hid (by simp), Lib.hid (by rw [Nat.sub_self]; exact nil_row _ _), Lib.hid ((Below.refl _ _))⟩
  case round =>
    obtain ⟨j, n7, c7, A7, rfl, rfl, hj, Hn, Hrow, Hb⟩ := hrel
    have hbz := Hb.out.size
    have hsz : (w2.alloc (.cells #[.slice none 0 0] 22)).heap.size = w2.heap.size + 1 := by simp
    rw [hsz] at hbz
    clear hsz
    cases j with
    | succ j =>
      have ej : ((j + 1 : Nat) : Int) - 1 = (j : Int) := by omega
      rw [ej]
      clear ej
      have hbw : Below w2.heap.size w2 wr := ((Below.refl _ w2).alloc (Nat.le_refl _) _).trans (Hb.out.mono (by omega))
      obtain ⟨b, off, rfl, hbl, x0, x1, x2⟩ := rd_cells HR2.out hbw (show j < l.length by omega)
      have HN := Lib.hid (rev_next hj)
      have hml : (l.reverse.take (l.length - (j + 1))).length ≤ 200 := by rw [List.length_take, List.length_reverse]; omega
      generalize l.getD j default = z at *
      generalize l.reverse.take (l.length - (j + 1)) = m at *
      have Hn' := Hn.out
      subst Hn'
      have hlen1 : m.length + 1 ≤ 1000000000000 := by omega
      go_wp2_with (at_builtin; refine wpList_oneR rfl _ _ rfl z rfl (Hrow.out.alloc _) rfl (Blk.new _ _ _) hlen1 (le_alloc hbz) ?_; intro g1 c8 w8 hrow8 hgr8 hat8; have Hrow8 := Lib.hid hrow8; clear hrow8)
      go_roundw
      case rel =>
        refine ⟨j, m.length + 1, c8, some ⟨g1, 0, none⟩, rfl, by go_num, by omega, Lib.hid (by rw [HN.out]; simp), Lib.hid (by rw [HN.out]; exact Hrow8.out), Lib.hid ?_⟩
        exact (Hb.out.alloc hbz _).grown hgr8 (le_alloc hbz) (fun kk hk => (World.ownsRow.lt Hrow.out kk hk).1)
      case measure => simp [intOf]
    | zero =>
      rw [Nat.sub_zero, show l.reverse.take l.length = l.reverse by rw [← List.length_reverse, List.take_length]] at Hrow Hn
      have hnf := fun W => eql_nil_func (Fn.func 24) #[Value.pointer (some { block := wr.heap.size, off := 0 })] W
      go_wp2_with fail
      refine (all_any (some ⟨g, 0, none⟩) wr).mono ?_
      rintro e w4 ⟨rfl, rfl⟩
      go_wp2_with fail
      refine (all_any (some ⟨g, 0, none⟩) _).mono ?_
      rintro e w4 ⟨rfl, rfl⟩
      clear hnf
      have hb2r : Below w2.heap.size w2 wr := ((Below.refl _ w2).alloc (Nat.le_refl _) _).trans (Hb.out.mono (by omega))
      have hsz3 : ((wr.alloc (.cells #[.pointer (some ⟨g, 0, none⟩)] 26)).alloc (.cells #[.pointer (some ⟨g, 0, none⟩)] 26)).heap.size = wr.heap.size + 2 := by simp
      have HB3 : Hid (Below w2.heap.size w2 ((wr.alloc (.cells #[.pointer (some ⟨g, 0, none⟩)] 26)).alloc (.cells #[.pointer (some ⟨g, 0, none⟩)] 26))) := Lib.hid ((hb2r.alloc (by omega) _).alloc (by simp; omega) _)
      have HC3 := Lib.hid ((Blk.new2 wr (.cells #[.pointer (some ⟨g, 0, none⟩)] 26) 26 #[.pointer (some ⟨g, 0, none⟩)]).cell 0)
      have H83 := Lib.hid ((((Blk.new w2 22 #[.slice none 0 0]).below Hb.out (by omega)).alloc (.cells #[.pointer (some ⟨g, 0, none⟩)] 26)).alloc (.cells #[.pointer (some ⟨g, 0, none⟩)] 26))
      have HW3 := Lib.hid ((Hrow.out.alloc (.cells #[.pointer (some ⟨g, 0, none⟩)] 26)).alloc (.cells #[.pointer (some ⟨g, 0, none⟩)] 26))
      clear hb2r Hb Hrow hbz hj
      go_wp2_with fail
      refine mean_range ?F w2.heap.size (wr.heap.size + 1) (some ⟨g, 0, none⟩) (ofL l) (by omega) rfl rfl (by rw [hsz3]; omega) HC3.out (HM2.out.mapR.below HB3.out) H83.out ?hassign ?hbody ?hdone
      case hassign =>
        intro lb x W Bn K hBn hK
        gi_wp2
        rw [← hBn]
        exact hK
      case hbody =>
        intro lb x W Bx v pre R h8b hx hrow hpl hle hlt8 hR
        have c8 := h8b.cell 0
        have x0 := hx.cell 0
        have x1 := hx.cell 1
        have x2 := hx.cell 2
        have hlen1 : pre.length + 1 ≤ 1000000000000 := by omega
        have HRow := Lib.hid hrow
        have H8b := Lib.hid h8b
        have HR' := Lib.hid hR
        clear hrow h8b hx hR
        gi_wp2_with (gi_at_builtin; refine wpListIn_oneR rfl _ _ rfl x rfl (HRow.out.alloc _) rfl (Blk.new _ _ _) hlen1 (le_alloc hle) ?_; intro v' w' hrow' hgr'; have H8c := (H8b.out.alloc (.cells #[.int .i32 x.lo, .int .i32 x.hi, .int .i64 x.val] 24)).grown hgr' (fun e => by have := (World.ownsRow.lt HRow.out _ e.symm).1; omega); have c8' := H8c.cell 0; have f8' := H8c.frozen 0; obtain ⟨A9, n9, c9, rfl⟩ := hrow'.shape)
        exact HR'.out _ _ hrow' hgr'
      case hdone =>
        intro D v W hD h8b hrow hkeep hbel hle hK
        have hb2W := HB3.out.trans hbel
        have hwB := (row_keep HW3.out hkeep).rdS
        obtain ⟨A8, c8, rfl, _, hrd8⟩ := hrow.rd0
        have K5 : Hid (Ke g D A (ofL l) l W) := Lib.hid ⟨HM2.out.on hb2W, HR2.out.on hb2W, hK⟩
        have HB5 := Lib.hid (HB2.out.trans (hb2W.mono HB2.out.size))
        have H85 := Lib.hid h8b
        have HO5 := Lib.hid hrd8
        have hgr : ∀ z ∈ l.reverse, Ok z := fun z hz => HGD.out z (List.mem_reverse.1 hz)
        have hpr : Apart l.reverse := (apart_perm (List.reverse_perm l)).2 HAP.out
        have hofr : ofL l.reverse = ofL l := ofL_same hgr HGD.out hpr HAP.out (fun r v => at_perm (List.reverse_perm l) r v)
        have h32r : In32 l.reverse := in32_mem.2 fun z hz => in32_mem.1 H32.out z (List.mem_reverse.1 hz)
        have hof1 := of_fine A7 c7 n7 l.reverse W Hn.out hwB (by simp; omega) h32r (all_ok.2 hgr) hpr
        rw [hofr] at hof1
        have HOF1 := Lib.hid hof1
        have HOF2 : Hid (∀ W', RdR W' W'.heap.size A8 (ofL l) → Calls Try.prog 8 #[.slice A8 (ofL l).length c8] W' fun e w' => ∃ g, e = .returned (.tuple #[.pointer (some ⟨g, 0, none⟩), .int .i64 0]) ∧ Below W'.heap.size W' w' ∧ MapV w' g (ofL l)) := Lib.hid fun W' h => by
          have := of_fine A8 c8 (ofL l).length (ofL l) W' rfl h (by omega) (ofL_in H32.out) (all_ok.2 HCAN.out.1.1) (rise_apart (canon_rise HCAN.out.1))
          rw [ofL_self HCAN.out.1] at this
          exact this.mono fun e w' ⟨g', h1, h2, h3, _⟩ => ⟨g', h1, h2, h3⟩
        have HGET : Hid (∀ q, getV (ofL l) q = getV l q ∧ getB (ofL l) q = getB l q) := Lib.hid (find_same (rise_apart (canon_rise HCAN.out.1)) HAP.out HCAN.out.2)
        have HC1 := Lib.hid HCAN.out.1
        have HD := Lib.hid (Nat.le_trans HB2.out.size (Nat.le_trans HB3.out.size hD))
        have HLO : Hid (∀ j, j < l.length → 0 ≤ (l.getD j default).lo ∧ (l.getD j default).lo ≤ (l.getD j default).hi ∧ (l.getD j default).hi ≤ 2147483647) := Lib.hid fun j hj => ⟨(HGD.out _ (getD_mem hj)).1, (HGD.out _ (getD_mem hj)).2, (H32.out j hj).2.1⟩
        clear hwB hrow hrd8 h8b hK hbel hb2W hof1 hgr hpr hofr h32r hkeep hD HB3 HC3 H83 HW3 HM2 HR2 HB2 HCAN HGD HAP H32 HG
        generalize ofL l = m at *
        go_wp2_with fail
        refine HOF1.out.mono ?_
        rintro e w5 ⟨g5, rfl, hb5, hmv5, _⟩
        have K6 := Lib.hid (K5.out.on hb5)
        have HB6 := Lib.hid (HB5.out.trans (hb5.mono HB5.out.size))
        have H86 := Lib.hid (H85.out.below hb5 H85.out.lt)
        have HO6 := Lib.hid (HO5.out.on hb5)
        have HN6 := Lib.hid hmv5
        clear K5 HB5 H85 HO5 hb5 hmv5 HOF1
        have c8 := H86.out.cell 0
        go_wp2_with fail
        refine (HOF2.out w5 HO6.out).mono ?_
        rintro e w6 ⟨g6, rfl, hb6, hmv6⟩
        have K7 := Lib.hid (K6.out.on hb6)
        have HB7 := Lib.hid (HB6.out.trans (hb6.mono HB6.out.size))
        have H87 := Lib.hid (H86.out.below hb6 H86.out.lt)
        have HO7 := Lib.hid (HO6.out.on hb6)
        have HN7 := Lib.hid (HN6.out.on hb6)
        have HP7 := Lib.hid hmv6
        clear K6 HB6 H86 HO6 HN6 hb6 hmv6 HOF2
        have c8 := H87.out.cell 0
        go_wp2_with fail
        refine (num_any _ _).mono ?_
        rintro e w6 ⟨rfl, rfl⟩
        go_wp2_with fail
        refine (num_any _ _).mono ?_
        rintro e w6 ⟨rfl, rfl⟩
        go_wp2_with fail
        refine (once_any (some ⟨g5, 0, none⟩) m A8 _ 0 w6 HN7.out.mapR (by omega) HO7.out).mono ?_
        rintro e w7 ⟨rfl, hb7⟩
        have K8 := Lib.hid (K7.out.on hb7)
        have HB8 := Lib.hid (HB7.out.trans (hb7.mono HB7.out.size))
        have H88 := Lib.hid (H87.out.below hb7 H87.out.lt)
        have HO8 := Lib.hid (HO7.out.on hb7)
        have HP8 := Lib.hid (HP7.out.on hb7)
        clear K7 HB7 H87 HO7 HN7 HP7 hb7
        have c8 := H88.out.cell 0
        go_wp2_with fail
        refine (once_any (some ⟨g6, 0, none⟩) m A8 _ 0 w7 HP8.out.mapR (by omega) HO8.out).mono ?_
        rintro e w8 ⟨rfl, hb8⟩
        have K9 := Lib.hid (K8.out.on hb8)
        have HB9 := Lib.hid (HB8.out.trans (hb8.mono HB8.out.size))
        clear K8 HB8 H88 HO8 HP8 hb8
        go_wp2_with fail
        go_loopw [15, 16] (fun s15 s16 wr => ∃ (k n5 c5 : Nat) (A5 : Option Addr) (zs : List Int), s15 = .slice A5 n5 c5 ∧ s16 = .int .i64 k ∧ k ≤ l.length ∧ Hid (n5 = zs.length) ∧ zs.length ≤ 1 + 4 * k ∧ 0 < zs.length ∧ Hid (RowI wr w8.heap.size (.slice A5 n5 c5) zs) ∧ Hid (Below w8.heap.size w8 wr)) (fun _ i _ => l.length - (intOf i).toNat)
        case atStart => exact ⟨0, 1, 1, _, [r], rfl, rfl, Nat.zero_le _, Lib.hid rfl, by simp, by simp, Lib.hid (World.ownsRow_lit w8 #[.int .i32 r] 1 (Nat.le_refl _) (by simp [maxLen]) rfl), Lib.hid ((Below.refl _ _).alloc (Nat.le_refl _) _)⟩
        case round =>
          obtain ⟨k, n5, c5, A5, zs, rfl, rfl, hk, Hn5, hz1, hz2, Hrow, Hb⟩ := hrel
          by_cases hlt : k < l.length
          · obtain ⟨b, off, rfl, hbl, x0, x1, x2⟩ := rd_cells K9.out.rd Hb.out hlt
            obtain ⟨l1, l2, l3⟩ := HLO.out k hlt
            have hbz := Hb.out.size
            generalize l.getD k default = z at *
            have hbw : b < wr.heap.size := by omega
            have hw1 : IntKind.i32.wrap (z.lo - 1) = z.lo - 1 := IntWalk.i32_in _ (by omega)
            have hle1 : zs.length + 3 ≤ 1000000000000 := by omega
            go_wp2_with fail
            go_region_held3 (fun w' => w'.cell? ⟨b, off + k * 3, none⟩ = some (.int .i32 z.lo) ∧ w'.cell? ⟨b, off + k * 3 + 1, none⟩ = some (.int .i32 z.hi)) (first | go_keep | (go_split_ands; refine ⟨?_, ?_⟩ <;> (rw [hb3.cell (by simp <;> omega)]; assumption)))
              ((refine step_rdI (w := (wr.alloc _).drew) (by rfl) _ _ (by rfl) [z.lo, z.hi, z.lo - 1] (by rfl) ((Hrow.out.alloc _).drew) (by rfl) (Blk.new _ _ _).drew rfl hle1 (le_alloc_drew hbz) ?_; intro v3 w11 hrow3 hgr; have hb3 : Below w8.heap.size (wr.alloc _).drew w11 := rowI_below ((Hrow.out.alloc _).drew) hgr (le_alloc_drew hbz); obtain ⟨A6, n6, c6, hn6, rfl⟩ := hrow3.rdn))
            have hbr : Below w8.heap.size wr w11 := (((Below.refl _ wr).alloc hbz _).drew.trans hb3)
            have x1' := (hbr.cell (p := ⟨b, off + k * 3 + 1, none⟩) hbl).trans x1
            have hbz2 : w8.heap.size ≤ w11.heap.size := by have := hbr.size; omega
            have HbA := Lib.hid (Hb.out.trans hbr)
            have Hrow3 := Lib.hid hrow3
            have hlz : (zs ++ [z.lo, z.hi, z.lo - 1]).length = zs.length + 3 := by simp
            generalize zs ++ [z.lo, z.hi, z.lo - 1] = ys at *
            clear hgr hb3 hbr hrow3 Hrow Hb x0 x1 x2 hbz hle1 hw1 Hn5
            by_cases hhi : z.hi < 1073741824
            · have hw2 : IntKind.i32.wrap (z.hi + 1) = z.hi + 1 := IntWalk.i32_in _ (by omega)
              have hle2 : ys.length + 1 ≤ 1000000000000 := by omega
              go_wp2_with (at_builtin; refine wpList_rdI rfl _ _ rfl [z.hi + 1] rfl (Hrow3.out.alloc _) rfl (Blk.new _ _ _) rfl hle2 (le_alloc hbz2) ?_; intro v4 w12 hrow4 hgr4; obtain ⟨A9, n9, c9, hn9, rfl⟩ := hrow4.rdn; have Hrow4 := Lib.hid hrow4; clear hrow4)
              go_roundw
              case rel =>
                refine ⟨k + 1, n9, c9, A9, ys ++ [z.hi + 1], rfl, by go_num, by omega, hn9, by simp; omega, by simp, Hrow4, Lib.hid ?_⟩
                exact (HbA.out.alloc hbz2 _).grown hgr4 (le_alloc hbz2) (fun kk hk => (World.ownsRow.lt Hrow3.out kk hk).1)
              case measure => simp [intOf]; omega
            · go_wp2_with fail
              go_roundw
              case rel => exact ⟨k + 1, n6, c6, A6, ys, rfl, by go_num, by omega, hn6, by omega, by omega, Hrow3, HbA⟩
              case measure => simp [intOf]; omega
          · have hkl : k = l.length := by omega
            subst hkl
            obtain ⟨gz, cz, nz, hnz, hez, hgz, hcz⟩ := Hrow.out.read hz2
            injection hez with hz3 hz4 hz5
            subst hz3
            subst hz4
            subst hz5
            have KA := Lib.hid (show Ke g D A m l wr from ⟨(K9.out.mv.on Hb.out), K9.out.rd.on Hb.out, (Hb.out.block D (Array.getElem?_eq_some_iff.1 K9.out.df).1).trans K9.out.df⟩)
            have HBA := Lib.hid (HB9.out.trans (Hb.out.mono HB9.out.size))
            have HCZ := Lib.hid hcz
            have hnz2 : n5 ≤ 801 := by have := hnz.out; omega
            have hnz3 : Hid (∀ j, j < n5 → j < zs.length) := Lib.hid fun j hj => by have := hnz.out; omega
            clear hcz Hrow Hb K9 HB9 hnz hz1 hz2 hk Hn5
            go_wp2_with fail
            go_loopw [17] (fun s17 wq => ∃ (i : Nat), s17 = .int .i64 i ∧ i ≤ n5 ∧ Below wr.heap.size wr wq) (fun i _ => n5 - (intOf i).toNat)
            case atStart => exact ⟨0, rfl, Nat.zero_le _, Below.refl _ _⟩
            case round =>
              obtain ⟨i, rfl, hi, hb⟩ := hrel
              by_cases hlt2 : i < n5
              · have x0 := (hb.cell (p := ⟨gz, i, none⟩) hgz).trans (HCZ.out i (hnz3.out i hlt2))
                generalize zs.getD i 0 = qq at *
                have hge := HGET.out qq
                have KB := Lib.hid (KA.out.on hb)
                have hrg := fun W h => refGet_any A c l qq W h (by omega)
                have hgm := get_map g m qq wr KB.out.mv (by omega) HC1.out
                rw [hge.1, hge.2] at hgm
                have HGM := Lib.hid hgm
                have hlt3 := hgz
                clear hge hgm HCZ hnz3
                generalize getV l qq = gv at *
                generalize getB l qq = gb at *
                go_wp2_with fail
                refine HGM.out.mono ?_
                rintro e w13 ⟨rfl, hb13⟩
                have KC := Lib.hid (KB.out.on hb13)
                have HBB := Lib.hid (hb.trans (hb13.mono hb.size))
                have x0' := (hb13.cell (p := ⟨gz, i, none⟩) (Nat.lt_of_lt_of_le hgz hb.size)).trans x0
                clear HGM KB hb hb13 x0
                go_wp2_with fail
                refine (hrg w13 KC.out.rd).mono ?_
                rintro e w13 ⟨rfl, rfl⟩
                clear hrg
                go_wp2_with fail
                go_roundw
                case rel => exact ⟨i + 1, by go_num, by omega, HBB.out⟩
                case measure => simp [intOf]; omega
              · have hil : i = n5 := by omega
                subst hil
                have KB := KA.out.on hb
                have HBF := HBA.out.trans (hb.mono HBA.out.size)
                have HBF' := Lib.hid HBF
                have HKB := Lib.hid KB
                clear KB HBF hb
                go_wp2_with fail
                rw [← HQ.out]
                have hK := HKB.out.df
                refine ⟨by simp, .inl ⟨_, _, rfl, run_takeDeferred hK, ?_⟩⟩
                exact ⟨_, results_tmp rfl _ _ _, rfl, HBF'.out.trans (belowK_b (w := w) (Nat.le_refl _) _ D _ _ HD.out hK rfl rfl)⟩
end Go.Proofs.Ytpghnoadeamplaa
