/- The document's first rune of a text (blazonref01.Next): the walk. -/
import Derived.Test.YtniaijgejljjbaaGreatY07
namespace Go.Proofs.YtniaijgejljjbaaGreat.Utf
open Go.RowKit
set_option linter.unusedVariables false
theorem ret_rn {f : Nat → Int} {L : Nat} {n r : Int} (hn : nxN f L = n) (hr : nxR f L = r) : Ending.returned (.tuple #[.int .i32 r, .int .i64 n]) = .returned (.tuple #[.int .i32 (nxR f L), .int .i64 (nxN f L)]) := by
 rw [hn, hr]
theorem quiet_left {P : Program} {f : FuncId} {args : Array Value} {w : World} {n : Nat} {v : Value}
   (h : Calls P f args (w.drewN n) fun e w' => e = .returned v ∧ w.drewN n = w') : Calls P f args (w.drewN n) fun e w'' => e = .returned v ∧ ∃ m, w'' = w.drewN m :=
 h.mono fun _ _ ⟨he, hm⟩ => ⟨he, n, hm.symm⟩
theorem below_drewN {B : Nat} {a w : World} (h : Below B a w) (n : Nat) : Below B a (w.drewN n) := ⟨h.os, h.tape, h.output, h.size, h.block⟩
theorem conv_new_drew2 (l : List Int) (W : World) (X : Obj) :
   (convert 42 9 (.slice (some ⟨W.heap.size + 1, 0, none⟩) l.length l.length)).run Tryz.prog ((W.alloc X).alloc (.cells (l.map (Value.int .u8)).toArray 5)).drew =
     .ok (.string (mkS l)) ((W.alloc X).alloc (.cells (l.map (Value.int .u8)).toArray 5)).drew := by
 have := conv_new_drew l (W.alloc X)
 rwa [show (W.alloc X).heap.size = W.heap.size + 1 from by simp] at this
theorem nx_range (f : Nat → Int) (L : Nat) : 0 ≤ nxN f L ∧ nxN f L ≤ 4 ∧ nxN f L ≤ L := by
 unfold nxN
 repeat' split
 all_goals omega
theorem nxR_0 {f : Nat → Int} {L : Nat} (h : nxN f L = 0) : nxR f L = 0 := by unfold nxR; rw [h]; rfl
theorem nxR_1 {f : Nat → Int} {L : Nat} (h : nxN f L = 1) : nxR f L = f 0 := by unfold nxR; rw [h]; rfl
theorem nxR_2 {f : Nat → Int} {L : Nat} (h : nxN f L = 2) : nxR f L = q2 f := by unfold nxR; rw [h, q2_eq]; rfl
theorem nxR_3 {f : Nat → Int} {L : Nat} (h : nxN f L = 3) : nxR f L = q3 f := by unfold nxR; rw [h, q3_eq]; rfl
theorem nxR_4 {f : Nat → Int} {L : Nat} (h : nxN f L = 4) : nxR f L = q4 f := by unfold nxR; rw [h, q4_eq]; rfl
theorem may_of_nx2 {f : Nat → Int} {L : Nat} (h : nxN f L = 2) : mayB (v2 f) = true := by
 refine may_of_size ?_
 unfold nxN at h
 repeat' split at h
 all_goals first | omega | (rename_i hx; have := hx.2.2; omega)
theorem may_of_nx3 {f : Nat → Int} {L : Nat} (h : nxN f L = 3) : mayB (v3 f) = true := by
 refine may_of_size ?_
 unfold nxN at h
 repeat' split at h
 all_goals first | omega | (rename_i hx; have := hx.2.2.2; omega)
theorem may_of_nx4 {f : Nat → Int} {L : Nat} (h : nxN f L = 4) : mayB (v4 f) = true := by
 refine may_of_size ?_
 unfold nxN at h
 repeat' split at h
 all_goals first | omega | (rename_i hx; have := hx.2.2.2.2; omega)
set_option maxHeartbeats 8000000 in
theorem refNext_any (s : ByteArray) (w : World) (h1 : s.size ≤ 9223372036854775807) :
   Calls Tryz.prog 89 #[.string s] w fun e w' => e = .returned (.tuple #[.int .i32 (nxR (bt s) s.size), .int .i64 (nxN (bt s) s.size)]) ∧ Below w.heap.size w w' := by
 have hr := nx_range (bt s) s.size
 go_enter Tryz.func89, Tryz.ntmps89
 go_wp2
 go_loopw [4] (fun n wr => ∃ k : Int, n = .int .i64 k ∧ 1 ≤ k ∧ k ≤ 5 ∧ (nxN (bt s) s.size = 0 ∨ k ≤ nxN (bt s) s.size) ∧ Below w.heap.size w wr) (fun n _ => (5 - intOf n).toNat)
 case atStart => exact ⟨1, rfl, by omega, by omega, by omega, Below.refl _ _⟩
 case round =>
   obtain ⟨k, rfl, hk1, hk5, hno, hb⟩ := hrel
   by_cases hL : k ≤ (s.size : Int)
   rotate_left
   · have Hno := Lib.hid (show nxN (bt s) s.size = 0 by omega)
     clear hno hr
     by_cases h5 : k ≤ 4
     all_goals
       go_wp2
       go_ret2
       exact ⟨ret_rn Hno.out (nxR_0 Hno.out), hb⟩
   by_cases h5 : k = 5
   · subst h5
     have Hno := Lib.hid (show nxN (bt s) s.size = 0 by omega)
     clear hno hr
     go_wp2
     go_ret2
     exact ⟨ret_rn Hno.out (nxR_0 Hno.out), hb⟩
   have h4 : k = 1 ∨ k = 2 ∨ k = 3 ∨ k = 4 := by omega
   rcases h4 with rfl | rfl | rfl | rfl
   · clear h5
     have u0 : (s[0].toNat : Int) ≤ 255 := by have := s[0].toNat_lt; omega
     have z0 : 0 ≤ (s[0].toNat : Int) := by omega
     have hq : bt s 0 = (s[0].toNat : Int) := (bt_of (by omega)).symm
     have hmm := fun W => refMay_any (s[0].toNat : Int) W
     have hm : mayB (bt s 0) = true := by have := bt_lo s 0; have := bt_hi s 0; unfold mayB; simp; omega
     have hpp := fun W => put_any (s[0].toNat : Int) W (by rw [← hq]; exact hm)
     have hh := hit1 s (by omega)
     rw [← hq, hm, hq] at hmm
     rw [hq] at hh
     have hcv := conv_new_drew (putI (s[0].toNat : Int))
     generalize putI (s[0].toNat : Int) = l at *
     have Hp := Lib.hid hpp
     have Hm := Lib.hid hmm
     by_cases e : nxN (bt s) s.size = 1
     · have ht : ((mkS l).toList == (s.extract 0 1).toList) = true := eqB_true (hh.2 e)
       have Hr : Hid (nxR (bt s) s.size = (s[0].toNat : Int)) := Lib.hid (by rw [nxR_1 e, hq])
       have He := Lib.hid e
       clear hpp hmm hm hno hh e hq hr
       go_wp2
       refine wp_loop_rounds 2 ?_; rw [rounds_succ]
       go_wp2
       rw [rounds_succ]
       go_wp2
       go_region_with (first
               | (go_at_call 95; refine (Hm.out _).mono ?_; rintro e w' ⟨rfl, rfl⟩)
               | (go_at_call 96; refine (Hp.out _).mono ?_; rintro e w' ⟨rfl, rfl⟩))
       go_wp2
       go_ret2
       refine ⟨ret_rn He.out Hr.out, ?_⟩; (first | exact hb | (repeat (first | exact hb | refine Below.drew ?_ | refine below_drewN ?_ _ | (refine Below.alloc ?_ (by have := hb.size; simp; omega) _))))
     · have ht : ((mkS l).toList == (s.extract 0 1).toList) = false := eqB_false (fun h => e (hh.1 h))
       have Hno : Hid (nxN (bt s) s.size = 0 ∨ 2 ≤ nxN (bt s) s.size) := Lib.hid (by omega)
       clear hpp hmm hm hno hh e hq hr
       go_wp2
       refine wp_loop_rounds 2 ?_; rw [rounds_succ]
       go_wp2
       rw [rounds_succ]
       go_wp2
       go_region_with (first
               | (go_at_call 95; refine (Hm.out _).mono ?_; rintro e w' ⟨rfl, rfl⟩)
               | (go_at_call 96; refine (Hp.out _).mono ?_; rintro e w' ⟨rfl, rfl⟩))
       go_wp2
       go_roundw
       case rel => refine ⟨2, rfl, by omega, by omega, Hno.out, ?_⟩; (first | exact hb | (repeat (first | exact hb | refine Below.drew ?_ | refine below_drewN ?_ _ | (refine Below.alloc ?_ (by have := hb.size; simp; omega) _))))
       case measure => simp [intOf]
   · clear h5
     have u0 : (s[0].toNat : Int) ≤ 255 := by have := s[0].toNat_lt; omega
     have z0 : 0 ≤ (s[0].toNat : Int) := by omega
     have u1 : (s[1].toNat : Int) ≤ 255 := by have := s[1].toNat_lt; omega
     have z1 : 0 ≤ (s[1].toNat : Int) := by omega
     have hq : q2 (bt s) = ((64 : Int) * ((s[0].toNat : Int) % (32 : Int)) + (s[1].toNat : Int) % (64 : Int)) := by unfold q2; rw [← bt_of (s := s) (i := 0) (by omega), ← bt_of (s := s) (i := 1) (by omega)]
     have hmm := fun W => refMay_any ((64 : Int) * ((s[0].toNat : Int) % (32 : Int)) + (s[1].toNat : Int) % (64 : Int)) W
     cases hm : mayB (q2 (bt s))
     · have Hno : Hid (nxN (bt s) s.size = 0 ∨ 3 ≤ nxN (bt s) s.size) := by
         by_cases e : nxN (bt s) s.size = 2
         · exact absurd (may_of_nx2 e) (by rw [← q2_eq, hm]; simp)
         · exact Lib.hid (by omega)
       rw [← hq, hm, hq] at hmm
       have Hm := Lib.hid hmm
       clear hmm hm hno hq hr
       go_wp2
       refine wp_loop_rounds 3 ?_; rw [rounds_succ]
       go_wp2
       rw [rounds_succ]
       go_wp2
       rw [rounds_succ]
       go_wp2
       go_quiet ((go_at_call 95; exact quiet_left (Hm.out _)))
       go_wp2
       go_roundw
       case rel => refine ⟨3, rfl, by omega, by omega, Hno.out, ?_⟩; (first | exact hb | (repeat (first | exact hb | refine Below.drew ?_ | refine below_drewN ?_ _ | (refine Below.alloc ?_ (by have := hb.size; simp; omega) _))))
       case measure => simp [intOf]
     · have hpp := fun W => put_any ((64 : Int) * ((s[0].toNat : Int) % (32 : Int)) + (s[1].toNat : Int) % (64 : Int)) W (by rw [← hq]; exact hm)
       have hh := hit2 s (by omega) hm
       rw [← hq, hm, hq] at hmm
       rw [hq] at hh
       have hcv := conv_new_drew2 (putI ((64 : Int) * ((s[0].toNat : Int) % (32 : Int)) + (s[1].toNat : Int) % (64 : Int)))
       generalize putI ((64 : Int) * ((s[0].toNat : Int) % (32 : Int)) + (s[1].toNat : Int) % (64 : Int)) = l at *
       have Hp := Lib.hid hpp
       have Hm := Lib.hid hmm
       by_cases e : nxN (bt s) s.size = 2
       · have ht : ((mkS l).toList == (s.extract 0 2).toList) = true := eqB_true (hh.2 e)
         have Hr : Hid (nxR (bt s) s.size = ((64 : Int) * ((s[0].toNat : Int) % (32 : Int)) + (s[1].toNat : Int) % (64 : Int))) := Lib.hid (by rw [nxR_2 e, hq])
         have He := Lib.hid e
         clear hpp hmm hm hno hh e hq hr
         go_wp2
         refine wp_loop_rounds 3 ?_; rw [rounds_succ]
         go_wp2
         rw [rounds_succ]
         go_wp2
         rw [rounds_succ]
         go_wp2
         go_region_with (first
                 | (go_at_call 95; refine (Hm.out _).mono ?_; rintro e w' ⟨rfl, rfl⟩)
                 | (go_at_call 96; refine (Hp.out _).mono ?_; rintro e w' ⟨rfl, rfl⟩))
         go_wp2
         go_ret2
         refine ⟨ret_rn He.out Hr.out, ?_⟩; (first | exact hb | (repeat (first | exact hb | refine Below.drew ?_ | refine below_drewN ?_ _ | (refine Below.alloc ?_ (by have := hb.size; simp; omega) _))))
       · have ht : ((mkS l).toList == (s.extract 0 2).toList) = false := eqB_false (fun h => e (hh.1 h))
         have Hno : Hid (nxN (bt s) s.size = 0 ∨ 3 ≤ nxN (bt s) s.size) := Lib.hid (by omega)
         clear hpp hmm hm hno hh e hq hr
         go_wp2
         refine wp_loop_rounds 3 ?_; rw [rounds_succ]
         go_wp2
         rw [rounds_succ]
         go_wp2
         rw [rounds_succ]
         go_wp2
         go_region_with (first
                 | (go_at_call 95; refine (Hm.out _).mono ?_; rintro e w' ⟨rfl, rfl⟩)
                 | (go_at_call 96; refine (Hp.out _).mono ?_; rintro e w' ⟨rfl, rfl⟩))
         go_wp2
         go_roundw
         case rel => refine ⟨3, rfl, by omega, by omega, Hno.out, ?_⟩; (first | exact hb | (repeat (first | exact hb | refine Below.drew ?_ | refine below_drewN ?_ _ | (refine Below.alloc ?_ (by have := hb.size; simp; omega) _))))
         case measure => simp [intOf]
   · clear h5
     have u0 : (s[0].toNat : Int) ≤ 255 := by have := s[0].toNat_lt; omega
     have z0 : 0 ≤ (s[0].toNat : Int) := by omega
     have u1 : (s[1].toNat : Int) ≤ 255 := by have := s[1].toNat_lt; omega
     have z1 : 0 ≤ (s[1].toNat : Int) := by omega
     have u2 : (s[2].toNat : Int) ≤ 255 := by have := s[2].toNat_lt; omega
     have z2 : 0 ≤ (s[2].toNat : Int) := by omega
     have hq : q3 (bt s) = ((64 : Int) * ((64 : Int) * ((s[0].toNat : Int) % (16 : Int)) + (s[1].toNat : Int) % (64 : Int)) + (s[2].toNat : Int) % (64 : Int)) := by unfold q3; rw [← bt_of (s := s) (i := 0) (by omega), ← bt_of (s := s) (i := 1) (by omega), ← bt_of (s := s) (i := 2) (by omega)]
     have hmm := fun W => refMay_any ((64 : Int) * ((64 : Int) * ((s[0].toNat : Int) % (16 : Int)) + (s[1].toNat : Int) % (64 : Int)) + (s[2].toNat : Int) % (64 : Int)) W
     cases hm : mayB (q3 (bt s))
     · have Hno : Hid (nxN (bt s) s.size = 0 ∨ 4 ≤ nxN (bt s) s.size) := by
         by_cases e : nxN (bt s) s.size = 3
         · exact absurd (may_of_nx3 e) (by rw [← q3_eq, hm]; simp)
         · exact Lib.hid (by omega)
       rw [← hq, hm, hq] at hmm
       have Hm := Lib.hid hmm
       clear hmm hm hno hq hr
       go_wp2
       refine wp_loop_rounds 4 ?_; rw [rounds_succ]
       go_wp2
       rw [rounds_succ]
       go_wp2
       rw [rounds_succ]
       go_wp2
       rw [rounds_succ]
       go_wp2
       go_quiet ((go_at_call 95; exact quiet_left (Hm.out _)))
       go_wp2
       go_roundw
       case rel => refine ⟨4, rfl, by omega, by omega, Hno.out, ?_⟩; (first | exact hb | (repeat (first | exact hb | refine Below.drew ?_ | refine below_drewN ?_ _ | (refine Below.alloc ?_ (by have := hb.size; simp; omega) _))))
       case measure => simp [intOf]
     · have hpp := fun W => put_any ((64 : Int) * ((64 : Int) * ((s[0].toNat : Int) % (16 : Int)) + (s[1].toNat : Int) % (64 : Int)) + (s[2].toNat : Int) % (64 : Int)) W (by rw [← hq]; exact hm)
       have hh := hit3 s (by omega) hm
       rw [← hq, hm, hq] at hmm
       rw [hq] at hh
       have hcv := conv_new_drew2 (putI ((64 : Int) * ((64 : Int) * ((s[0].toNat : Int) % (16 : Int)) + (s[1].toNat : Int) % (64 : Int)) + (s[2].toNat : Int) % (64 : Int)))
       generalize putI ((64 : Int) * ((64 : Int) * ((s[0].toNat : Int) % (16 : Int)) + (s[1].toNat : Int) % (64 : Int)) + (s[2].toNat : Int) % (64 : Int)) = l at *
       have Hp := Lib.hid hpp
       have Hm := Lib.hid hmm
       by_cases e : nxN (bt s) s.size = 3
       · have ht : ((mkS l).toList == (s.extract 0 3).toList) = true := eqB_true (hh.2 e)
         have Hr : Hid (nxR (bt s) s.size = ((64 : Int) * ((64 : Int) * ((s[0].toNat : Int) % (16 : Int)) + (s[1].toNat : Int) % (64 : Int)) + (s[2].toNat : Int) % (64 : Int))) := Lib.hid (by rw [nxR_3 e, hq])
         have He := Lib.hid e
         clear hpp hmm hm hno hh e hq hr
         go_wp2
         refine wp_loop_rounds 4 ?_; rw [rounds_succ]
         go_wp2
         rw [rounds_succ]
         go_wp2
         rw [rounds_succ]
         go_wp2
         rw [rounds_succ]
         go_wp2
         go_region_with (first
                 | (go_at_call 95; refine (Hm.out _).mono ?_; rintro e w' ⟨rfl, rfl⟩)
                 | (go_at_call 96; refine (Hp.out _).mono ?_; rintro e w' ⟨rfl, rfl⟩))
         go_wp2
         go_ret2
         refine ⟨ret_rn He.out Hr.out, ?_⟩; (first | exact hb | (repeat (first | exact hb | refine Below.drew ?_ | refine below_drewN ?_ _ | (refine Below.alloc ?_ (by have := hb.size; simp; omega) _))))
       · have ht : ((mkS l).toList == (s.extract 0 3).toList) = false := eqB_false (fun h => e (hh.1 h))
         have Hno : Hid (nxN (bt s) s.size = 0 ∨ 4 ≤ nxN (bt s) s.size) := Lib.hid (by omega)
         clear hpp hmm hm hno hh e hq hr
         go_wp2
         refine wp_loop_rounds 4 ?_; rw [rounds_succ]
         go_wp2
         rw [rounds_succ]
         go_wp2
         rw [rounds_succ]
         go_wp2
         rw [rounds_succ]
         go_wp2
         go_region_with (first
                 | (go_at_call 95; refine (Hm.out _).mono ?_; rintro e w' ⟨rfl, rfl⟩)
                 | (go_at_call 96; refine (Hp.out _).mono ?_; rintro e w' ⟨rfl, rfl⟩))
         go_wp2
         go_roundw
         case rel => refine ⟨4, rfl, by omega, by omega, Hno.out, ?_⟩; (first | exact hb | (repeat (first | exact hb | refine Below.drew ?_ | refine below_drewN ?_ _ | (refine Below.alloc ?_ (by have := hb.size; simp; omega) _))))
         case measure => simp [intOf]
   · clear h5
     have u0 : (s[0].toNat : Int) ≤ 255 := by have := s[0].toNat_lt; omega
     have z0 : 0 ≤ (s[0].toNat : Int) := by omega
     have u1 : (s[1].toNat : Int) ≤ 255 := by have := s[1].toNat_lt; omega
     have z1 : 0 ≤ (s[1].toNat : Int) := by omega
     have u2 : (s[2].toNat : Int) ≤ 255 := by have := s[2].toNat_lt; omega
     have z2 : 0 ≤ (s[2].toNat : Int) := by omega
     have u3 : (s[3].toNat : Int) ≤ 255 := by have := s[3].toNat_lt; omega
     have z3 : 0 ≤ (s[3].toNat : Int) := by omega
     have hq : q4 (bt s) = ((64 : Int) * ((64 : Int) * ((64 : Int) * ((s[0].toNat : Int) % (8 : Int)) + (s[1].toNat : Int) % (64 : Int)) + (s[2].toNat : Int) % (64 : Int)) + (s[3].toNat : Int) % (64 : Int)) := by unfold q4; rw [← bt_of (s := s) (i := 0) (by omega), ← bt_of (s := s) (i := 1) (by omega), ← bt_of (s := s) (i := 2) (by omega), ← bt_of (s := s) (i := 3) (by omega)]
     have hmm := fun W => refMay_any ((64 : Int) * ((64 : Int) * ((64 : Int) * ((s[0].toNat : Int) % (8 : Int)) + (s[1].toNat : Int) % (64 : Int)) + (s[2].toNat : Int) % (64 : Int)) + (s[3].toNat : Int) % (64 : Int)) W
     cases hm : mayB (q4 (bt s))
     · have Hno : Hid (nxN (bt s) s.size = 0 ∨ 5 ≤ nxN (bt s) s.size) := by
         by_cases e : nxN (bt s) s.size = 4
         · exact absurd (may_of_nx4 e) (by rw [← q4_eq, hm]; simp)
         · exact Lib.hid (by omega)
       rw [← hq, hm, hq] at hmm
       have Hm := Lib.hid hmm
       clear hmm hm hno hq hr
       go_wp2
       refine wp_loop_rounds 5 ?_; rw [rounds_succ]
       go_wp2
       rw [rounds_succ]
       go_wp2
       rw [rounds_succ]
       go_wp2
       rw [rounds_succ]
       go_wp2
       rw [rounds_succ]
       go_wp2
       go_quiet ((go_at_call 95; exact quiet_left (Hm.out _)))
       go_wp2
       go_roundw
       case rel => refine ⟨5, rfl, by omega, by omega, Hno.out, ?_⟩; (first | exact hb | (repeat (first | exact hb | refine Below.drew ?_ | refine below_drewN ?_ _ | (refine Below.alloc ?_ (by have := hb.size; simp; omega) _))))
       case measure => simp [intOf]
     · have hpp := fun W => put_any ((64 : Int) * ((64 : Int) * ((64 : Int) * ((s[0].toNat : Int) % (8 : Int)) + (s[1].toNat : Int) % (64 : Int)) + (s[2].toNat : Int) % (64 : Int)) + (s[3].toNat : Int) % (64 : Int)) W (by rw [← hq]; exact hm)
       have hh := hit4 s (by omega) hm
       rw [← hq, hm, hq] at hmm
       rw [hq] at hh
       have hcv := conv_new_drew2 (putI ((64 : Int) * ((64 : Int) * ((64 : Int) * ((s[0].toNat : Int) % (8 : Int)) + (s[1].toNat : Int) % (64 : Int)) + (s[2].toNat : Int) % (64 : Int)) + (s[3].toNat : Int) % (64 : Int)))
       generalize putI ((64 : Int) * ((64 : Int) * ((64 : Int) * ((s[0].toNat : Int) % (8 : Int)) + (s[1].toNat : Int) % (64 : Int)) + (s[2].toNat : Int) % (64 : Int)) + (s[3].toNat : Int) % (64 : Int)) = l at *
       have Hp := Lib.hid hpp
       have Hm := Lib.hid hmm
       by_cases e : nxN (bt s) s.size = 4
       · have ht : ((mkS l).toList == (s.extract 0 4).toList) = true := eqB_true (hh.2 e)
         have Hr : Hid (nxR (bt s) s.size = ((64 : Int) * ((64 : Int) * ((64 : Int) * ((s[0].toNat : Int) % (8 : Int)) + (s[1].toNat : Int) % (64 : Int)) + (s[2].toNat : Int) % (64 : Int)) + (s[3].toNat : Int) % (64 : Int))) := Lib.hid (by rw [nxR_4 e, hq])
         have He := Lib.hid e
         clear hpp hmm hm hno hh e hq hr
         go_wp2
         refine wp_loop_rounds 5 ?_; rw [rounds_succ]
         go_wp2
         rw [rounds_succ]
         go_wp2
         rw [rounds_succ]
         go_wp2
         rw [rounds_succ]
         go_wp2
         rw [rounds_succ]
         go_wp2
         go_region_with (first
                 | (go_at_call 95; refine (Hm.out _).mono ?_; rintro e w' ⟨rfl, rfl⟩)
                 | (go_at_call 96; refine (Hp.out _).mono ?_; rintro e w' ⟨rfl, rfl⟩))
         go_wp2
         go_ret2
         refine ⟨ret_rn He.out Hr.out, ?_⟩; (first | exact hb | (repeat (first | exact hb | refine Below.drew ?_ | refine below_drewN ?_ _ | (refine Below.alloc ?_ (by have := hb.size; simp; omega) _))))
       · have ht : ((mkS l).toList == (s.extract 0 4).toList) = false := eqB_false (fun h => e (hh.1 h))
         have Hno : Hid (nxN (bt s) s.size = 0 ∨ 5 ≤ nxN (bt s) s.size) := Lib.hid (by omega)
         clear hpp hmm hm hno hh e hq hr
         go_wp2
         refine wp_loop_rounds 5 ?_; rw [rounds_succ]
         go_wp2
         rw [rounds_succ]
         go_wp2
         rw [rounds_succ]
         go_wp2
         rw [rounds_succ]
         go_wp2
         rw [rounds_succ]
         go_wp2
         go_region_with (first
                 | (go_at_call 95; refine (Hm.out _).mono ?_; rintro e w' ⟨rfl, rfl⟩)
                 | (go_at_call 96; refine (Hp.out _).mono ?_; rintro e w' ⟨rfl, rfl⟩))
         go_wp2
         go_roundw
         case rel => refine ⟨5, rfl, by omega, by omega, Hno.out, ?_⟩; (first | exact hb | (repeat (first | exact hb | refine Below.drew ?_ | refine below_drewN ?_ _ | (refine Below.alloc ?_ (by have := hb.size; simp; omega) _))))
         case measure => simp [intOf]
end Go.Proofs.YtniaijgejljjbaaGreat.Utf
