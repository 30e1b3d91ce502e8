/- first and last: the first, the last item under a node. -/
import Derived.Test.YtgjcomnljonffaaB17
namespace Go.Proofs.Ytgjcomnljonffaa.Tlv
open Go.RowKit
set_option maxRecDepth 100000
set_option linter.unusedVariables false
set_option linter.unusedSimpArgs false
def FirstOut (h : Nat) (d : Nd) (w : World) (e : Ending) (w' : World) : Prop :=
  ∃ x r, flat h d = x :: r ∧ e = .returned (.agg #[.slice x.A x.k.length x.c, .int .i64 x.v]) ∧ Below w.heap.size w w'
def LastOut (h : Nat) (d : Nd) (w : World) (e : Ending) (w' : World) : Prop :=
  ∃ x r, flat h d = r ++ [x] ∧ e = .returned (.agg #[.slice x.A x.k.length x.c, .int .i64 x.v]) ∧ Below w.heap.size w w'
set_option maxHeartbeats 4000000 in
theorem first_any (t h0 : Nat) (d0 : Nd) (w : World) (a0 : TS t h0 w d0) (h1 : 1 ≤ d0.its.length) (ht : 2 ≤ t ∧ t ≤ 64) : Calls Try.prog 41 #[.pointer (some ⟨d0.n, 0, none⟩)] w (FirstOut h0 d0 w) := by
  have hb0 : Below w.heap.size w (w.alloc (.cells #[.slice none 0 0, .int .i64 0] 69)) := (Below.refl _ _).alloc (Nat.le_refl _) _
  have H0 := Lib.hid (And.intro (a0.on hb0) (And.intro h1 (And.intro ht (And.intro hb0 (Blk.new w 69 #[.slice none 0 0, .int .i64 0])))))
  clear a0 h1 ht hb0
  go_enter Try.func41, Try.ntmps41
  go_upto_region 1 with fail
  go_loopg [0] h0 (fun g s0 wr => ∃ (h : Nat) (d : Nd), s0 = .pointer (some ⟨d.n, 0, none⟩) ∧ h ≤ g ∧ Hid (TS t h wr d ∧ 1 ≤ d.its.length ∧ (∃ r, flat h0 d0 = flat h d ++ r) ∧ Below w.heap.size w wr ∧ Blk wr w.heap.size 69 #[.slice none 0 0, .int .i64 0]))
  case atStart => exact ⟨h0, d0, rfl, Nat.le_refl _, Lib.hid ⟨H0.out.1, H0.out.2.1, ⟨[], by simp⟩, H0.out.2.2.2.1, H0.out.2.2.2.2⟩⟩
  case round =>
    obtain ⟨h, d, rfl, hg, HI⟩ := hrel
    obtain ⟨A, c, B, e, e1, e2⟩ := HI.out.1.at'.node.form
    have hN := HI.out.1.at'.node.blk
    rw [e1, e2] at hN
    have hri := HI.out.1.at'.node.its
    rw [e1] at hri
    have hrk := HI.out.1.at'.node.kids
    rw [e2] at hrk
    have p0 := hN.cell 0
    have p1 := hN.cell 1
    simp only [List.getElem?_toArray, List.getElem?_cons_zero, List.getElem?_cons_succ] at p0 p1
    have hlf := leaf_any d.n d.kids.length e _ B wr hN
    cases h with
    | zero =>
      have hk0 : d.kids = [] := HI.out.1.bal.1
      rw [show decide (d.kids.length = 0) = true by rw [hk0]; rfl] at hlf
      have HLF := Lib.hid hlf
      obtain ⟨g, rfl, m0, m1⟩ := hri.cellI (j := 0) HI.out.2.1
      obtain ⟨x, l, hx⟩ : ∃ x l, d.its = x :: l := by
        cases hd : d.its with
        | nil => have := HI.out.2.1; rw [hd] at this; simp at this
        | cons x l => exact ⟨x, l, rfl⟩
      rw [show d.its.getD 0 default = x by rw [hx]; rfl] at m0 m1
      simp only [Nat.zero_mul, Nat.zero_add] at m0 m1
      have hl0 : 0 < d.its.length := HI.out.2.1
      have hl1 : (0 : Int) < (d.its.length : Int) := by omega
      have z0 := HI.out.2.2.2.2.cell 0
      have z1 := HI.out.2.2.2.2.cell 1
      have z0f := HI.out.2.2.2.2.frozen 0
      have z1f := HI.out.2.2.2.2.frozen 1
      simp only [List.getElem?_toArray, List.getElem?_cons_zero, List.getElem?_cons_succ] at z0 z1
      obtain ⟨nx, hnx⟩ : ∃ nx, nx = x.k.length := ⟨_, rfl⟩
      rw [← hnx] at m0
      have HX := Lib.hid (And.intro hx hnx)
      clear hlf hk0 hN hri hrk e1 e2 hx hnx
      go_wp2_with (go_at_call 30; (with_reducible refine HLF.out.mono ?_); rintro e w2 ⟨rfl, rfl⟩; dsimp only)
      have kk := (HI.out.2.2.2.2.set_ 0 (.slice x.A nx x.c)).set_ 1 (.int .i64 x.v)
      have hbb : Below w.heap.size w ((wr.setCell ⟨w.heap.size, 0, none⟩ (.slice x.A nx x.c)).setCell ⟨w.heap.size, 1, none⟩ (.int .i64 x.v)) := (HI.out.2.2.2.1.setCell (p := ⟨w.heap.size, 0, none⟩) (Nat.le_refl _) _).setCell (p := ⟨w.heap.size, 1, none⟩) (Nat.le_refl _) _
      have t0 := kk.cell 0
      have t1 := kk.cell 1
      simp at t0 t1
      obtain ⟨r, hr⟩ := HI.out.2.2.1
      have hfl : flat h0 d0 = x :: (l ++ r) := by rw [hr]; show d.its ++ r = _; rw [HX.out.1]; rfl
      generalize (wr.setCell ⟨w.heap.size, 0, none⟩ (.slice x.A nx x.c)).setCell ⟨w.heap.size, 1, none⟩ (.int .i64 x.v) = we at t0 t1 hbb ⊢
      refine bodyPost_ret (v := .agg #[.slice x.A nx x.c, .int .i64 x.v]) (by simp [results, Try.f41, go_sem, t0, t1]) rfl ⟨x, l ++ r, hfl, by rw [HX.out.2], hbb⟩
    | succ h =>
      have hb : d.kids.length = d.its.length + 1 := HI.out.1.bal.1
      rw [show decide (d.kids.length = 0) = false from decide_eq_false (by omega)] at hlf
      have HLF := Lib.hid hlf
      obtain ⟨ch, k2, hpl, hki⟩ := place_at HI.out.1.bal (i := 0) (Nat.zero_le _)
      obtain ⟨gK, rfl, ck0⟩ := hrk.cellP (j := 0) (by omega)
      rw [show (d.kids.map Nd.n).getD 0 0 = ch.n by rw [List.getD_eq_getElem?_getD, List.getElem?_map, hki]; rfl] at ck0
      have hl0 : 0 < d.kids.length := by omega
      have hl1 : (0 : Int) < (d.kids.length : Int) := by omega
      have HPL := Lib.hid hpl
      clear hlf hb hN hri hrk e1 e2 hpl hki
      go_wp2_with (go_at_call 30; (with_reducible refine HLF.out.mono ?_); rintro e w2 ⟨rfl, rfl⟩; dsimp only)
      go_roundg h
      case measure => omega
      case rel =>
        have ac := HI.out.1.kid HPL.out.its HPL.out.kids HPL.out.len
        have hl := HI.out.1.kidLen HPL.out.kids
        refine ⟨h, ch, rfl, Nat.le_refl _, Lib.hid ⟨ac, by have := H0.out.2.2.1; omega, ?_, HI.out.2.2.2.1, HI.out.2.2.2.2⟩⟩
        obtain ⟨r, hr⟩ := HI.out.2.2.1
        rw [hr, flat_mid HPL.out.its HPL.out.kids HPL.out.len]
        exact ⟨_, by simp [preL]; rfl⟩
set_option maxHeartbeats 4000000 in
theorem last_any (t h0 : Nat) (d0 : Nd) (w : World) (a0 : TS t h0 w d0) (h1 : 1 ≤ d0.its.length) (ht : 2 ≤ t ∧ t ≤ 64) : Calls Try.prog 40 #[.pointer (some ⟨d0.n, 0, none⟩)] w (LastOut h0 d0 w) := by
  have hb0 : Below w.heap.size w (w.alloc (.cells #[.slice none 0 0, .int .i64 0] 69)) := (Below.refl _ _).alloc (Nat.le_refl _) _
  have H0 := Lib.hid (And.intro (a0.on hb0) (And.intro h1 (And.intro ht (And.intro hb0 (Blk.new w 69 #[.slice none 0 0, .int .i64 0])))))
  clear a0 h1 ht hb0
  go_enter Try.func40, Try.ntmps40
  go_upto_region 1 with fail
  go_loopg [0] h0 (fun g s0 wr => ∃ (h : Nat) (d : Nd), s0 = .pointer (some ⟨d.n, 0, none⟩) ∧ h ≤ g ∧ Hid (TS t h wr d ∧ 1 ≤ d.its.length ∧ (∃ r, flat h0 d0 = r ++ flat h d) ∧ Below w.heap.size w wr ∧ Blk wr w.heap.size 69 #[.slice none 0 0, .int .i64 0]))
  case atStart => exact ⟨h0, d0, rfl, Nat.le_refl _, Lib.hid ⟨H0.out.1, H0.out.2.1, ⟨[], by simp⟩, H0.out.2.2.2.1, H0.out.2.2.2.2⟩⟩
  case round =>
    obtain ⟨h, d, rfl, hg, HI⟩ := hrel
    obtain ⟨A, c, B, e, e1, e2⟩ := HI.out.1.at'.node.form
    have hN := HI.out.1.at'.node.blk
    rw [e1, e2] at hN
    have hri := HI.out.1.at'.node.its
    rw [e1] at hri
    have hrk := HI.out.1.at'.node.kids
    rw [e2] at hrk
    have hlf := leaf_any d.n d.kids.length e _ B wr hN
    have hmost := HI.out.1.bal.most
    obtain ⟨n, hn⟩ : ∃ n, d.its.length = n + 1 := ⟨d.its.length - 1, by have := HI.out.2.1; omega⟩
    have hn2 : n ≤ 200 := by have := H0.out.2.2.1; omega
    have hw1 : IntKind.i64.wrap (n : Int) = (n : Int) := by rw [IntKind.wrap_i64]; omega
    have hw3 : IntKind.i64.wrap ((n : Int) + 2 - 1) = (n : Int) + 1 := by rw [IntKind.wrap_i64]; omega
    have hw2 : IntKind.i64.wrap ((n : Int) + 1) = (n : Int) + 1 := by rw [IntKind.wrap_i64]; omega
    rw [hn] at hN hri
    cases h with
    | zero =>
      have hk0 : d.kids = [] := HI.out.1.bal.1
      rw [show decide (d.kids.length = 0) = true by rw [hk0]; rfl] at hlf
      have HLF := Lib.hid hlf
      obtain ⟨g, rfl, m0, m1⟩ := hri.cellI (j := n) (by omega)
      obtain ⟨l, x, r, hx, hxl, hxr⟩ := list_cut (show n < d.its.length by omega)
      have hr0 : r = [] := List.eq_nil_of_length_eq_zero (by omega)
      subst hr0
      rw [show d.its.getD n default = x by rw [hx, ← hxl]; simp [List.getD_eq_getElem?_getD]] at m0 m1
      have hl0 : n < n + 1 := by omega
      have hl1 : (n : Int) < (n : Int) + 1 := by omega
      obtain ⟨nx, hnx⟩ : ∃ nx, nx = x.k.length := ⟨_, rfl⟩
      rw [← hnx] at m0
      have p0 := hN.cell 0
      have z0 := HI.out.2.2.2.2.cell 0
      have z1 := HI.out.2.2.2.2.cell 1
      have z0f := HI.out.2.2.2.2.frozen 0
      have z1f := HI.out.2.2.2.2.frozen 1
      simp only [List.getElem?_toArray, List.getElem?_cons_zero, List.getElem?_cons_succ] at p0 z0 z1
      have HX := Lib.hid (And.intro hx hnx)
      clear hlf hk0 hN hri hrk e1 e2 hx hnx hxl hxr hn hmost
      go_upto_region 3 with (go_at_call 30; (with_reducible refine HLF.out.mono ?_); rintro e w2 ⟨rfl, rfl⟩; dsimp only)
      go_still_tail 12, (by kernel_rfl)
      change wpList _ _ _ _ _ wr.drew
      go_wp2
      have kk := ((HI.out.2.2.2.2.set_ 0 (.slice x.A nx x.c)).set_ 1 (.int .i64 x.v)).drew
      have hbb : Below w.heap.size w ((wr.setCell ⟨w.heap.size, 0, none⟩ (.slice x.A nx x.c)).setCell ⟨w.heap.size, 1, none⟩ (.int .i64 x.v)).drew := below_drewN ((HI.out.2.2.2.1.setCell (p := ⟨w.heap.size, 0, none⟩) (Nat.le_refl _) _).setCell (p := ⟨w.heap.size, 1, none⟩) (Nat.le_refl _) _) 1
      have t0 := kk.cell 0
      have t1 := kk.cell 1
      simp only [Array.getElem?_setIfInBounds] at t0 t1
      simp at t0 t1
      obtain ⟨r, hr⟩ := HI.out.2.2.1
      have hfl : flat h0 d0 = (r ++ l) ++ [x] := by rw [hr]; show r ++ d.its = _; rw [HX.out.1]; simp
      clear kk
      refine bodyPost_ret (v := .agg #[.slice x.A nx x.c, .int .i64 x.v]) (by simp [results, Try.f40, go_sem, t0, t1]) rfl ⟨x, r ++ l, hfl, by rw [HX.out.2], hbb⟩
    | succ h =>
      have hb : d.kids.length = d.its.length + 1 := HI.out.1.bal.1
      rw [show decide (d.kids.length = 0) = false from decide_eq_false (by omega)] at hlf
      have HLF := Lib.hid hlf
      obtain ⟨ch, k2, hpl, hki⟩ := place_at HI.out.1.bal (i := n + 1) (by omega)
      have hk2 : k2 = [] := by
        have h1 := congrArg List.length hpl.kids
        simp at h1
        exact List.eq_nil_of_length_eq_zero (by omega)
      have hkl : d.kids.length = n + 2 := by omega
      rw [hkl] at hN hrk
      obtain ⟨gK, rfl, ck0⟩ := hrk.cellP (j := n + 1) (by omega)
      rw [show (d.kids.map Nd.n).getD (n + 1) 0 = ch.n by rw [List.getD_eq_getElem?_getD, List.getElem?_map, hki]; rfl] at ck0
      have p1 := hN.cell 1
      simp only [List.getElem?_toArray, List.getElem?_cons_zero, List.getElem?_cons_succ] at p1
      have hl0 : n + 1 < n + 2 := by omega
      have hl1 : (n : Int) + 1 < (n : Int) + 2 := by omega
      have hl2 : (0 : Int) ≤ (n : Int) + 1 := by omega
      have hl3 : ((n : Int) + 1).toNat = n + 1 := by omega
      have HPL := Lib.hid (And.intro hpl (And.intro hk2 hn))
      clear hlf hb hN hri hrk e1 e2 hpl hki hkl hk2 hn hmost
      go_upto_region 2 with (go_at_call 30; (with_reducible refine HLF.out.mono ?_); rintro e w2 ⟨rfl, rfl⟩; dsimp only)
      go_still_tail 12, (by kernel_rfl)
      change wpList _ _ _ _ _ wr.drew
      go_wp2_with fail
      go_roundg h
      case measure => omega
      case rel =>
        have hbd : Below wr.heap.size wr wr.drew := below_drewN (Below.refl _ _) 1
        have ac := HI.out.1.kid HPL.out.1.its HPL.out.1.kids HPL.out.1.len
        have hl := HI.out.1.kidLen HPL.out.1.kids
        refine ⟨h, ch, rfl, Nat.le_refl _, Lib.hid ⟨ac.on hbd, by have := H0.out.2.2.1; omega, ?_, below_drewN HI.out.2.2.2.1 1, HI.out.2.2.2.2.drew⟩⟩
        obtain ⟨r, hr⟩ := HI.out.2.2.1
        rw [hr, flat_mid HPL.out.1.its HPL.out.1.kids HPL.out.1.len, HPL.out.2.1]
        exact ⟨_, by rw [List.drop_of_length_le (by have := HPL.out.2.2; omega)]; simp [sufL]; rw [← List.append_assoc]⟩
end Go.Proofs.Ytgjcomnljonffaa.Tlv
