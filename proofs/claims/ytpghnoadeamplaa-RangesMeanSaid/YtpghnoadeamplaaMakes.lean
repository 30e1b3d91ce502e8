/- RangesMakes: the walk. -/
import Derived.Test.YtpghnoadeamplaaBounds
import Derived.Test.YtpghnoadeamplaaNil
import Derived.Laws.StructEq
import Derived.Deep.RegionHeld3
namespace Go.Proofs.Ytpghnoadeamplaa
open Go.RowKit
set_option linter.unusedVariables false
set_option linter.unusedSimpArgs false

/-- A map, the reference's row, and one range, that stay. -/
structure Keep (g B : Nat) (A : Option Addr) (m : List Rg) (x : Rg) (W : World) : Prop where
  mv : MapV W g m
  rd : RdR W W.heap.size A m
  bx : Blk W B 24 #[.int .i32 x.lo, .int .i32 x.hi, .int .i64 x.val]
theorem Keep.on {g B : Nat} {A : Option Addr} {m : List Rg} {x : Rg} {W W' : World} (h : Keep g B A m x W) (hb : Below W.heap.size W W') : Keep g B A m x W' :=
  ⟨h.mv.on hb, h.rd.on hb, h.bx.below hb h.bx.lt⟩

/-- The reference's Of, of a row of a length that is told otherwise. -/
theorem refOf_end (A : Option Addr) (c n : Nat) (l : List Rg) (w : World) (hn : n = l.length) (hr : RdR w w.heap.size A l) (hl : l.length ≤ 1000000) (h32 : In32 l) :
    Calls Try.prog 9 #[.slice A n c] w fun e w' => RefEnd l w e w' := by
  subst hn
  exact refOf_any A c l w hr hl h32
theorem step_rdN {w : World} {ops : Array Oper} {o : Oper} {a : Act} {K : Act → World → Prop} {Q : Exit → Act → World → Prop} {E : Prop} (hgd : o.guard = none) (s x : Operand)
    (ho : o.op = .call { callee := .builtin .append, args := #[s, x], argTypes := #[22, 22] })
    {base B : Nat} {A : Option Addr} {c : Nat} (m : List Rg) (hs : a.eval s = .slice none 0 0) (hx : a.eval x = .slice A m.length c) (hr : RdR w B A m) (hA : A = none → c = 0)
    (hn : m.length ≤ 1000000000000) (hb : base ≤ w.heap.size)
    (h : ∀ v' w', RowR w' base v' m → w.grownBy w' none → K (a.put o.dst v') w') :
    if Region.wanted o (yielded ops a.tmps) = true then Oper.wp Try.prog o a w K Q else E :=
  step_rdA hgd s x ho m hs (nil_row w base) hx hr hA (by simpa using hn) hb fun v' w' h1 h2 => h v' w' (by simpa using h1) h2
theorem RdR.drew {w : World} {B : Nat} {A : Option Addr} {l : List Rg} (h : RdR w B A l) : RdR w.drew B A l := h
theorem le_alloc_drew {n : Nat} {w : World} {o : Obj} (h : n ≤ w.heap.size) : n ≤ ((w.alloc o).drew).heap.size := le_alloc h
theorem blk_grown {w w1 : World} {X : Array Value} (hg : ((w.alloc (.cells X 24)).drew).grownBy w1 none) : Blk w1 w.heap.size 24 X :=
  ((Blk.new w 24 X).drew).grown hg (by simp)

set_option maxRecDepth 100000 in
theorem makes_long (A : Option Addr) (c : Nat) (l : List Rg) (x : Rg) (r leave : Int) (w : World) (hl : 200 < l.length) :
    Calls Try.prog 3 #[.slice A l.length c, .agg #[.int .i32 x.lo, .int .i32 x.hi, .int .i64 x.val], .int .i32 r, .int .i64 leave] w fun e w' => e = .returned (.bool true) ∧ Below w.heap.size w w' := by
  have d2 : decide ((200 : Int) < l.length) = true := by simp only [decide_eq_true_eq]; omega
  go_enter Try.func3, Try.ntmps3
  go_wp2_with fail
  refine (known_any _).mono ?_
  rintro e w1 ⟨rfl, hb⟩
  go_wp2_with fail
  go_ret
  exact ⟨rfl, ((Below.refl _ _).alloc (Nat.le_refl _) _).trans (hb.mono (by simp))⟩

set_option maxHeartbeats 16000000 in
set_option maxRecDepth 100000 in
theorem makes_walk (A : Option Addr) (c : Nat) (l : List Rg) (x : Rg) (r leave : Int) (w : World) (hr : RdR w w.heap.size A l) (hA : A = none → c = 0) (h32 : In32 l) (hx : In1 x) (hl : l.length ≤ 200) :
    Calls Try.prog 3 #[.slice A l.length c, .agg #[.int .i32 x.lo, .int .i32 x.hi, .int .i64 x.val], .int .i32 r, .int .i64 leave] w fun e w' => e = .returned (.bool true) ∧ Below w.heap.size w w' := by
  have d1 : decide (200 < l.length) = false := by simp; omega
  have d2 : decide ((200 : Int) < l.length) = false := by simp; omega
  have hB0 : Below w.heap.size w (w.alloc (.cells #[.int .i32 x.lo, .int .i32 x.hi, .int .i64 x.val] 24)) := (Below.refl _ _).alloc (Nat.le_refl _) _
  have hX := Blk.new w 24 #[.int .i32 x.lo, .int .i32 x.hi, .int .i64 x.val]
  have HX := Lib.hid hX
  have HR := Lib.hid (hr.on hB0)
  have H32 := Lib.hid h32
  clear hX hr h32
  have hn : ([] : List Rg).length + l.length ≤ 1000000000000 := by simp; omega
  go_enter Try.func3, Try.ntmps3
  go_wp2_with (at_builtin; refine wpList_rdA (v := .slice none 0 0) rfl _ _ rfl l rfl (nil_row _ w.heap.size) rfl HR.out hA hn (le_alloc (Nat.le_refl _)) ?_; intro v1 w1 hrow1 hgr1)
  have hb1 := hB0.trans ((grown_none (B := w.heap.size) hgr1 (by simp)))
  have hb1' := grown_none hgr1 (Nat.le_refl _)
  obtain ⟨A1, c1, rfl, hA1, hrd1⟩ := hrow1.rd0
  rw [List.nil_append] at hrd1
  have HX1 := Lib.hid (HX.out.below hb1' HX.out.lt)
  have HR1 := Lib.hid (HR.out.on hb1')
  clear hgr1 hrow1 hb1' HX HR hB0
  have HD1 := Lib.hid hrd1
  have HB1 := Lib.hid hb1
  clear hrd1 hb1
  rw [List.nil_append]
  go_wp2_with fail
  refine (of_end A1 c1 _ l w1 rfl HD1.out (by omega) H32.out).mono ?_
  rintro e w2 ⟨q, n, rfl, hof⟩
  have HX2 := Lib.hid (HX1.out.below hof.1 HX1.out.lt)
  have HR2 := Lib.hid (HR1.out.on hof.1)
  have HD2 := Lib.hid (HD1.out.on hof.1)
  have HB2 := Lib.hid (HB1.out.trans (hof.1.mono HB1.out.size))
  have HO := Lib.hid hof
  clear hof HX1 HR1 HD1 HB1
  go_wp2_with fail
  refine (refOf_any A c l w2 HR2.out (by omega) H32.out).mono ?_
  rintro e w3 ⟨v, n', rfl, hrf⟩
  have HX3 := Lib.hid (HX2.out.below hrf.1 HX2.out.lt)
  have HR3 := Lib.hid (HR2.out.on hrf.1)
  have HD3 := Lib.hid (HD2.out.on hrf.1)
  have HB3 := Lib.hid (HB2.out.trans (hrf.1.mono HB2.out.size))
  have HBO := Lib.hid (both HO.out hrf)
  have HB23 := Lib.hid hrf.1
  have HA := Lib.hid HO.out.1
  clear hrf HX2 HR2 HD2 HB2 HO
  go_wp2_with fail
  go_loopw [14] (fun i wr => ∃ k : Nat, i = .int .i64 k ∧ k ≤ l.length ∧ Below w3.heap.size w3 wr) (fun i _ => l.length - (intOf i).toNat)
  case atStart => exact ⟨0, rfl, Nat.zero_le _, Below.refl _ _⟩
  case round =>
    obtain ⟨k, rfl, hk, hb⟩ := hrel
    by_cases hlt : k < l.length
    · obtain ⟨b, off, rfl, hbl, x0, x1, x2⟩ := rd_cells HR3.out hb hlt
      obtain ⟨b', off', rfl, hbl', y0, y1, y2⟩ := rd_cells HD3.out hb hlt
      generalize l.getD k default = z at *
      go_wp2
      go_quiet (fail)
      go_wp2
      go_roundw
      case rel => exact ⟨k + 1, by go_num, by omega, below_drewN hb _⟩
      case measure => simp [intOf]; omega
    · have hkl : k = l.length := by omega
      subst hkl
      have HX4 := Lib.hid (HX3.out.below hb HX3.out.lt)
      have HBW := Lib.hid (HB3.out.trans (hb.mono HB3.out.size))
      rcases HBO.out with ⟨rfl, hnn, hn2⟩ | ⟨rfl, rfl, hg, ha, ⟨g, rfl, hgs, hmv⟩, hrow⟩
      · subst hnn
        clear HBO HA
        rcases hn2 with rfl | rfl
        all_goals
          go_wp2_with fail
          refine (num_any _ _).mono ?_
          rintro e wr ⟨rfl, rfl⟩
          go_wp2_with fail
          refine (known_any _).mono ?_
          rintro e w5 ⟨rfl, hb5⟩
          go_wp2_with fail
          go_ret
          exact ⟨rfl, HBW.out.trans (hb5.mono HBW.out.size)⟩
      · obtain ⟨Aw, cw, rfl, hAw, hrd⟩ := hrow.rd0
        have hgd := all_ok.1 hg
        have hcan := (ofL_canon hgd ha).1
        have hlen := Nat.le_trans (ofL_length l) hl
        have hin := ofL_in H32.out
        have K4 := Lib.hid (Keep.mk (hmv.on (HB23.out.trans (hb.mono HB23.out.size))) (hrd.on hb) HX4.out)
        clear hrow hmv hrd HBO HA HX4 HX3 HR3 HD3 HB3 HB23 hb hg ha hgs
        generalize ofL l = m at *
        have HC := Lib.hid hcan
        have HI := Lib.hid hin
        have HM := Lib.hid (may_of hin hcan.1)
        clear hgd hcan hin
        go_wp2_with fail
        refine (get_map g m r wr K4.out.mv (by omega) HC.out).mono ?_
        rintro e w4 ⟨rfl, hb4⟩
        have K5 := Lib.hid (K4.out.on hb4)
        have HB5 := Lib.hid (HBW.out.trans (hb4.mono HBW.out.size))
        clear K4 HBW hb4
        have hget := fun W h => refGet_any Aw cw m r W h (by omega)
        generalize getV m r = gv at *
        generalize getB m r = gb at *
        go_wp2_with fail
        refine (hget w4 K5.out.rd).mono ?_
        rintro e w4 ⟨rfl, rfl⟩
        clear hget
        go_wp2_with fail
        refine (num_any _ _).mono ?_
        rintro e w4 ⟨rfl, rfl⟩
        go_wp2_with fail
        refine (len_map g m _ K5.out.mv).mono ?_
        rintro e w4 ⟨rfl, rfl⟩
        go_wp2_with fail
        refine (many_any (some ⟨g, 0, none⟩) m w4 K5.out.mv.mapR (by omega) HM.out).mono ?_
        rintro e w5 ⟨rfl, hb5⟩
        have K6 := Lib.hid (K5.out.on hb5)
        have HB6 := Lib.hid (HB5.out.trans (hb5.mono HB5.out.size))
        have hrm := fun W h => refMany_any Aw cw m W h (by omega) HM.out
        clear K5 HB5 hb5 HM
        generalize manyL m = mm at *
        go_wp2_with fail
        refine (hrm w5 K6.out.rd).mono ?_
        rintro e w6 ⟨rfl, hb6⟩
        have K7 := Lib.hid (K6.out.on hb6)
        have HB7 := Lib.hid (HB6.out.trans (hb6.mono HB6.out.size))
        clear K6 HB6 hb6 hrm
        go_wp2_with fail
        refine (once_any (some ⟨g, 0, none⟩) m Aw cw 0 w6 K7.out.mv.mapR (by omega) K7.out.rd).mono ?_
        rintro e w7 ⟨rfl, hb7⟩
        have K8 := Lib.hid (K7.out.on hb7)
        have HB8 := Lib.hid (HB7.out.trans (hb7.mono HB7.out.size))
        clear K7 HB7 hb7
        go_wp2_with fail
        refine (once_any (some ⟨g, 0, none⟩) m Aw cw leave w7 K8.out.mv.mapR (by omega) K8.out.rd).mono ?_
        rintro e w8 ⟨rfl, hb8⟩
        have K9 := Lib.hid (K8.out.on hb8)
        have HB9 := Lib.hid (HB8.out.trans (hb8.mono HB8.out.size))
        clear K8 HB8 hb8
        have c0 := K9.out.bx.cell 0
        have c1 := K9.out.bx.cell 1
        have c2 := K9.out.bx.cell 2
        have H33 := Lib.hid (in32_append.2 ⟨HI.out, in32_one.2 hx⟩)
        go_wp2_with fail
        refine (with_any g m x w8 K9.out.mv (by omega) H33.out).mono ?_
        rintro e w9 ⟨o, n3, rfl, hwith⟩
        have KA := Lib.hid (K9.out.on hwith.1)
        have HBA := Lib.hid (HB9.out.trans (hwith.1.mono HB9.out.size))
        have HW := Lib.hid hwith
        clear K9 HB9 hwith c0 c1 c2
        have c0 := KA.out.bx.cell 0
        have c1 := KA.out.bx.cell 1
        have c2 := KA.out.bx.cell 2
        have hbl := KA.out.bx.lt
        have hz := HBA.out.size
        go_wp2_with fail
        have hle1 : m.length ≤ 1000000000000 := by omega
        have hle2 : m.length + 1 ≤ 1000000000000 := by omega
        have hle3 : (m ++ [x]).length ≤ 1000000 := by simp; omega
        go_region_held3 (fun w' => w'.cell? ⟨w.heap.size, 0, none⟩ = some (.int .i32 x.lo) ∧ w'.cell? ⟨w.heap.size, 1, none⟩ = some (.int .i32 x.hi) ∧ w'.cell? ⟨w.heap.size, 2, none⟩ = some (.int .i64 x.val)) (first | go_keep | (go_split_ands; refine ⟨?_, ?_, ?_⟩ <;> (rw [hb4.cell (by simp <;> omega)]; assumption)) | (go_split_ands; refine ⟨?_, ?_, ?_⟩ <;> (rw [hb3.cell (by simp <;> omega)]; assumption)) | (go_split_ands; refine ⟨?_, ?_, ?_⟩ <;> (rw [hb2.cell (by simp <;> omega)]; assumption)))
          (first
            | (refine step_rdN (w := w9.drew) (by rfl) _ _ (by rfl) m (by rfl) (by rfl) KA.out.rd.drew hAw hle1 (Nat.le_refl _) ?_; intro v2 w10 hrow2 hgr2; have hb2 := grown_none (B := w9.heap.size) hgr2 (Nat.le_refl _); have hz2 : w9.heap.size ≤ w10.heap.size := hb2.size)
            | (refine step_rdN (w := (w9.alloc _).drew) (by rfl) _ _ (by rfl) m (by rfl) (by rfl) (KA.out.rd.below ((Below.refl _ _).alloc (Nat.le_refl _) _).drew) hAw hle1 (le_alloc_drew (Nat.le_refl _)) ?_; intro v2 w10 hrow2 hgr2; have hb2 := grown_none (B := w9.heap.size) hgr2 (le_alloc_drew (Nat.le_refl _)); have hX2 := blk_grown hgr2; have hz2 : w9.heap.size ≤ w10.heap.size := Nat.le_trans (le_alloc_drew (Nat.le_refl _)) hgr2.size)
            | (refine step_rdR (w := w10.alloc _) (by rfl) _ _ (by rfl) x (by rfl) (hrow2.alloc _) (by rfl) (Blk.new _ _ _) hle2 (le_alloc hb2.size) ?_; intro g1 c1' w11 hrow3 hgr hat; have hb3 := row_below (hrow2.alloc _) hgr (le_alloc hb2.size); have hz3 : w10.heap.size ≤ w11.heap.size := Nat.le_trans (le_alloc (Nat.le_refl _)) hgr.size)
            | (refine step_rdR (w := w10) (by rfl) _ _ (by rfl) x (by rfl) hrow2 (by rfl) hX2 hle2 hz2 ?_; intro g1 c1' w11 hrow3 hgr hat; have hb3 := row_below hrow2 hgr hz2; have hz3 : w10.heap.size ≤ w11.heap.size := hgr.size)
            | (go_at_call 9; refine (refOf_end _ _ _ (m ++ [x]) _ (len_snoc m x) hrow3.rdS hle3 H33.out).mono ?_; rintro e w12 ⟨v3, n4, rfl, href⟩; have hb4 := href.1))
        all_goals
          have H9 : Below w9.heap.size w9 w12 := by
            first
            | exact (((Below.refl _ w9).drew.trans hb2).trans (((Below.refl _ _).alloc hz2 _).trans hb3)).trans (hb4.mono (Nat.le_trans hz2 hz3))
            | exact (((((Below.refl _ w9).alloc (Nat.le_refl _) _).drew.trans hb2).trans hb3)).trans (hb4.mono (Nat.le_trans hz2 hz3))
          have KB := Lib.hid (KA.out.on H9)
          have HBB := Lib.hid (HBA.out.trans (H9.mono HBA.out.size))
          have H9' := Lib.hid H9
          have hlen3 : (ofL (m ++ [x])).length ≤ 1000000 := Nat.le_trans (ofL_length _) hle3
          clear hb2 hb3 hb4 hz2 hz3 hbl hz KA HBA H9 hrow2 hrow3 hgr2 hgr hat
          rcases both HW.out href with ⟨rfl, hnn, hn2⟩ | ⟨rfl, rfl, hg, ha, ⟨g', rfl, hgs, hmv⟩, hrow⟩
          · subst hnn
            clear href HW
            rcases hn2 with rfl | rfl
            all_goals
              go_wp2_with fail
              refine (num_any _ _).mono ?_
              rintro e w12 ⟨rfl, rfl⟩
              go_wp2_with fail
              refine (known_any _).mono ?_
              rintro e w13 ⟨rfl, hb13⟩
              go_wp2_with fail
              go_ret
              exact ⟨rfl, HBB.out.trans (hb13.mono HBB.out.size)⟩
          · obtain ⟨Ay, cy, rfl, hAy, hrd⟩ := hrow.rd0
            have HMV := Lib.hid (hmv.on H9'.out)
            have HRD := Lib.hid hrd
            clear href HW hrow hmv hrd hg ha hgs
            generalize ofL (m ++ [x]) = y at *
            go_wp2_with fail
            refine (num_any _ _).mono ?_
            rintro e w12 ⟨rfl, rfl⟩
            go_wp2_with fail
            refine (once_any (some ⟨g', 0, none⟩) y Ay cy 0 w12 HMV.out.mapR hlen3 HRD.out).mono ?_
            rintro e w13 ⟨rfl, hb13⟩
            have KC := Lib.hid (KB.out.on hb13)
            have HBC := Lib.hid (HBB.out.trans (hb13.mono HBB.out.size))
            clear KB HBB hb13
            go_wp2_with fail
            refine (once_any (some ⟨g, 0, none⟩) m Aw cw 0 w13 KC.out.mv.mapR (by omega) KC.out.rd).mono ?_
            rintro e w14 ⟨rfl, hb14⟩
            have HBD := Lib.hid (HBC.out.trans (hb14.mono HBC.out.size))
            go_wp2_with fail
            refine (known_any _).mono ?_
            rintro e w15 ⟨rfl, hb15⟩
            go_wp2_with fail
            go_ret
            exact ⟨rfl, HBD.out.trans (hb15.mono HBD.out.size)⟩
end Go.Proofs.Ytpghnoadeamplaa
