/- utf.Next: a text's first rune, and how many bytes it has. -/
import Derived.Test.YtniaijgejljjbaaGreatY05
import Derived.Scope
import Derived.LoopTactic
import Derived.ScopeJumps
import Derived.Outline
namespace Go.Proofs.YtniaijgejljjbaaGreat.Utf
open Go.RowKit
set_option linter.unusedVariables false
def Frm (a : Act) : Prop := a.defers = [] ∧ a.tmps.size = 45
theorem none_end {w' : World} {R : Ending → World → Prop} {t : Array Value} (ht : t.size = 45)
   (h : R (.returned (.tuple #[.int .i32 0, .int .i64 0, .int .i64 5])) w') :
   bodyPost Tryz.prog Tryz.f100 R Exit.ret { tmps := ((t.setIfInBounds 2 (Value.int IntKind.i32 0)).setIfInBounds 3 (Value.int IntKind.i64 0)).setIfInBounds 4 (Value.int IntKind.i64 5), defers := [] } w' := by
 refine bodyPost_ret (v := .tuple #[.int .i32 0, .int .i64 0, .int .i64 5]) ?_ rfl h
 simp [results, Tryz.results100, Array.getD, ht]
theorem mark_no {u c : Int} (e : u = c) (h0 : 0 ≤ c) (h1 : c ≤ 255) (h : 128 ≤ c ∧ c ≤ 191) : (bits BinOp.and IntKind.u8 u 192 != 128) = false := by
 subst e; rw [and192 u h0 h1]; simp; omega
theorem mark_yes {u c : Int} (e : u = c) (h0 : 0 ≤ c) (h1 : c ≤ 255) (h : ¬ (128 ≤ c ∧ c ≤ 191)) : (bits BinOp.and IntKind.u8 u 192 != 128) = true := by
 subst e; rw [and192 u h0 h1]; simp; omega
set_option maxHeartbeats 400000 in
theorem next_empty (s : ByteArray) (w : World) (h0 : ¬ 0 < s.size) :
   Calls Tryz.prog 100 #[.string s] w fun e w' => e = .returned (.tuple #[.int .i32 0, .int .i64 0, .int .i64 5]) ∧ w = w' := by
 go_enter Tryz.func100, Tryz.ntmps100
 go_wp2
 refine wp_scope_jumps 0 (fun a' w' => w' = w ∧ Frm a') (fun _ _ => 0) rfl ?_ ?_
 · go_wp2_with (go_at_call 102; refine (head_none s _ h0).mono ?_; rintro e w' ⟨rfl, rfl⟩)
   go_step3
   exact ⟨rfl, rfl, rfl, rfl⟩
 · rintro ⟨t, d⟩ w' ⟨rfl, rfl, ht⟩
   go_wp2
   simp only [Exit.jump]
   exact none_end ht ⟨rfl, rfl⟩
set_option maxHeartbeats 400000 in
theorem next_head (s : ByteArray) (w : World) (h0 : 0 < s.size) (h1 : s.size ≤ 9223372036854775807) (h : hdN (bt s 0) = 0 ∨ (s.size : Int) < hdN (bt s 0)) :
   Calls Tryz.prog 100 #[.string s] w fun e w' => e = .returned (.tuple #[.int .i32 0, .int .i64 0, .int .i64 5]) ∧ w = w' := by
 have hh := fun W => head_any s W h0 h1
 rcases h with h | h
 · rw [h] at hh
   have Hh := Lib.hid hh
   clear hh h
   go_enter Tryz.func100, Tryz.ntmps100
   go_wp2
   refine wp_scope_jumps 0 (fun a' w' => w' = w ∧ Frm a') (fun _ _ => 0) rfl ?_ ?_
   · go_wp2_with (go_at_call 102; refine (Hh.out _).mono ?_; rintro e w' ⟨rfl, rfl⟩)
     go_step3
     exact ⟨rfl, rfl, rfl, rfl⟩
   · rintro ⟨t, d⟩ w' ⟨rfl, rfl, ht⟩
     go_wp2
     simp only [Exit.jump]
     exact none_end ht ⟨rfl, rfl⟩
 · generalize hdN (bt s 0) = n at h hh
   have Hh := Lib.hid hh
   clear hh
   have hn : ((n : Int) == 0) = false := by simp; omega
   go_enter Tryz.func100, Tryz.ntmps100
   go_wp2
   refine wp_scope_jumps 0 (fun a' w' => w' = w ∧ Frm a') (fun _ _ => 0) rfl ?_ ?_
   · go_wp2_with (go_at_call 102; refine (Hh.out _).mono ?_; rintro e w' ⟨rfl, rfl⟩)
     go_step3
     exact ⟨rfl, rfl, rfl, rfl⟩
   · rintro ⟨t, d⟩ w' ⟨rfl, rfl, ht⟩
     go_wp2
     simp only [Exit.jump]
     exact none_end ht ⟨rfl, rfl⟩
def v2 (f : Nat → Int) : Int := f 0 % 32 * 64 + f 1 % 64
def v3 (f : Nat → Int) : Int := (f 0 % 16 * 64 + f 1 % 64) * 64 + f 2 % 64
def v4 (f : Nat → Int) : Int := ((f 0 % 8 * 64 + f 1 % 64) * 64 + f 2 % 64) * 64 + f 3 % 64
abbrev cn (b : Int) : Prop := 128 ≤ b ∧ b ≤ 191
set_option maxHeartbeats 400000 in
theorem next_one (s : ByteArray) (w : World) (h0 : 0 < s.size) (h1 : s.size ≤ 9223372036854775807) (ha : bt s 0 ≤ 127) :
   Calls Tryz.prog 100 #[.string s] w fun e w' => e = .returned (.tuple #[.int .i32 (bt s 0), .int .i64 1, .int .i64 0]) ∧ w = w' := by
 have hh := fun W => head_any s W h0 h1
 have e1 : hdN (bt s 0) = 1 := by unfold hdN; repeat' split <;> omega
 have e2 : hdR (bt s 0) = bt s 0 := by unfold hdR; repeat' split <;> omega
 rw [e1, e2] at hh
 have hl := bt_lo s 0
 have hz := fun W => size_any (bt s 0) W
 have e3 : sizeI (bt s 0) = 1 := by unfold sizeI; rw [if_neg (by unfold mayB; simp; omega), if_pos ha]
 rw [e3] at hz
 generalize bt s 0 = a at *
 clear e1 e2 e3
 have Hh := Lib.hid hh
 have Hz := Lib.hid hz
 clear hh hz
 go_enter Tryz.func100, Tryz.ntmps100
 go_wp2
 refine wp_scope_jumps 0 (fun _ _ => False) (fun _ _ => 0) rfl ?_ ?_
 · go_wp2_with (go_at_call 102; refine (Hh.out _).mono ?_; rintro e w' ⟨rfl, rfl⟩)
   refine wp_loop_rounds 1 ?_; rw [rounds_succ]
   go_wp2_with (go_at_call 103; refine (Hz.out _).mono ?_; rintro e w' ⟨rfl, rfl⟩)
   simp only [Exit.jump]
   go_ret3
   exact ⟨rfl, rfl⟩
 · exact fun _ _ h => h.elim
set_option maxHeartbeats 400000 in
theorem next_2_no1 (s : ByteArray) (w : World) (h1 : s.size ≤ 9223372036854775807) (h2 : 2 ≤ s.size) (h3 : 192 ≤ bt s 0) (h4 : bt s 0 ≤ 223) (c1 : ¬ cn (bt s 1)) :
   Calls Tryz.prog 100 #[.string s] w fun e w' => e = .returned (.tuple #[.int .i32 0, .int .i64 0, .int .i64 5]) ∧ w = w' := by
 have hh := fun W => head_any s W (by omega) h1
 have e1 : hdN (bt s 0) = 2 := by unfold hdN; repeat' split <;> omega
 have e2 : hdR (bt s 0) = bt s 0 % 32 := by unfold hdR; repeat' split <;> omega
 rw [e1, e2] at hh
 have u1 : (s[1].toNat : Int) ≤ 255 := by have := s[1].toNat_lt; omega
 have t1 := mark_yes (bt_of (s := s) (i := 1) (by omega)) (bt_lo s 1) (bt_hi s 1) c1
 clear c1
 generalize bt s 0 = a at *
 clear e1 e2
 have Hh := Lib.hid hh
 clear hh
 go_enter Tryz.func100, Tryz.ntmps100
 go_wp2
 refine wp_scope_jumps 0 (fun a' w' => w' = w ∧ Frm a') (fun _ _ => 0) rfl ?_ ?_
 · go_wp2_with (go_at_call 102; refine (Hh.out _).mono ?_; rintro e w' ⟨rfl, rfl⟩)
   refine wp_loop_rounds 2 ?_; rw [rounds_succ]
   go_wp2
   go_step3
   exact ⟨rfl, rfl, rfl, rfl⟩
 · rintro ⟨t, d⟩ w' ⟨rfl, rfl, ht⟩
   go_wp2
   simp only [Exit.jump]
   exact none_end ht ⟨rfl, rfl⟩
set_option maxHeartbeats 400000 in
theorem next_2_ok (s : ByteArray) (w : World) (h1 : s.size ≤ 9223372036854775807) (h2 : 2 ≤ s.size) (h3 : 192 ≤ bt s 0) (h4 : bt s 0 ≤ 223) (c1 : cn (bt s 1)) (hz : sizeI (v2 (bt s)) = 2) :
   Calls Tryz.prog 100 #[.string s] w fun e w' => e = .returned (.tuple #[.int .i32 (v2 (bt s)), .int .i64 2, .int .i64 0]) ∧ w = w' := by
 have hh := fun W => head_any s W (by omega) h1
 have e1 : hdN (bt s 0) = 2 := by unfold hdN; repeat' split <;> omega
 have e2 : hdR (bt s 0) = bt s 0 % 32 := by unfold hdR; repeat' split <;> omega
 rw [e1, e2] at hh
 have u1 : (s[1].toNat : Int) ≤ 255 := by have := s[1].toNat_lt; omega
 have t1 := mark_no (bt_of (s := s) (i := 1) (by omega)) (bt_lo s 1) (bt_hi s 1) c1
 clear c1
 have hv : v2 (bt s) = bt s 0 % (32 : Int) * (64 : Int) + (s[1].toNat : Int) % (64 : Int) := by unfold v2; rw [← bt_of (s := s) (i := 1) (by omega)]
 have hsz := fun W => size_any (v2 (bt s)) W
 rw [hz, hv] at hsz
 rw [hv]
 clear hz hv
 generalize bt s 0 = a at *
 clear e1 e2
 have Hh := Lib.hid hh
 have Hz := Lib.hid hsz
 clear hh hsz
 go_enter Tryz.func100, Tryz.ntmps100
 go_wp2
 refine wp_scope_jumps 0 (fun _ _ => False) (fun _ _ => 0) rfl ?_ ?_
 · go_wp2_with (go_at_call 102; refine (Hh.out _).mono ?_; rintro e w' ⟨rfl, rfl⟩)
   refine wp_loop_rounds 2 ?_; rw [rounds_succ]
   go_wp2
   rw [rounds_succ]
   go_wp2_with (go_at_call 103; refine (Hz.out _).mono ?_; rintro e w' ⟨rfl, rfl⟩)
   simp only [Exit.jump]
   go_ret3
   exact ⟨rfl, rfl⟩
 · exact fun _ _ h => h.elim
set_option maxHeartbeats 400000 in
theorem next_2_size (s : ByteArray) (w : World) (h1 : s.size ≤ 9223372036854775807) (h2 : 2 ≤ s.size) (h3 : 192 ≤ bt s 0) (h4 : bt s 0 ≤ 223) (c1 : cn (bt s 1)) (hz : sizeI (v2 (bt s)) ≠ 2) :
   Calls Tryz.prog 100 #[.string s] w fun e w' => e = .returned (.tuple #[.int .i32 0, .int .i64 0, .int .i64 5]) ∧ w = w' := by
 have hh := fun W => head_any s W (by omega) h1
 have e1 : hdN (bt s 0) = 2 := by unfold hdN; repeat' split <;> omega
 have e2 : hdR (bt s 0) = bt s 0 % 32 := by unfold hdR; repeat' split <;> omega
 rw [e1, e2] at hh
 have u1 : (s[1].toNat : Int) ≤ 255 := by have := s[1].toNat_lt; omega
 have t1 := mark_no (bt_of (s := s) (i := 1) (by omega)) (bt_lo s 1) (bt_hi s 1) c1
 clear c1
 have hv : v2 (bt s) = bt s 0 % (32 : Int) * (64 : Int) + (s[1].toNat : Int) % (64 : Int) := by unfold v2; rw [← bt_of (s := s) (i := 1) (by omega)]
 have hsz := fun W => size_any (v2 (bt s)) W
 have hk : (sizeI (v2 (bt s)) != 2) = true := by simpa using hz
 generalize sizeI (v2 (bt s)) = z at *
 rw [hv] at hsz
 clear hz hv
 generalize bt s 0 = a at *
 clear e1 e2
 have Hh := Lib.hid hh
 have Hz := Lib.hid hsz
 clear hh hsz
 go_enter Tryz.func100, Tryz.ntmps100
 go_wp2
 refine wp_scope_jumps 0 (fun a' w' => w' = w ∧ Frm a') (fun _ _ => 0) rfl ?_ ?_
 · go_wp2_with (go_at_call 102; refine (Hh.out _).mono ?_; rintro e w' ⟨rfl, rfl⟩)
   refine wp_loop_rounds 2 ?_; rw [rounds_succ]
   go_wp2
   rw [rounds_succ]
   go_wp2_with (go_at_call 103; refine (Hz.out _).mono ?_; rintro e w' ⟨rfl, rfl⟩)
   go_step3
   exact ⟨rfl, rfl, rfl, rfl⟩
 · rintro ⟨t, d⟩ w' ⟨rfl, rfl, ht⟩
   go_wp2
   simp only [Exit.jump]
   exact none_end ht ⟨rfl, rfl⟩
set_option maxHeartbeats 400000 in
theorem next_3_no1 (s : ByteArray) (w : World) (h1 : s.size ≤ 9223372036854775807) (h2 : 3 ≤ s.size) (h3 : 224 ≤ bt s 0) (h4 : bt s 0 ≤ 239) (c1 : ¬ cn (bt s 1)) :
   Calls Tryz.prog 100 #[.string s] w fun e w' => e = .returned (.tuple #[.int .i32 0, .int .i64 0, .int .i64 5]) ∧ w = w' := by
 have hh := fun W => head_any s W (by omega) h1
 have e1 : hdN (bt s 0) = 3 := by unfold hdN; repeat' split <;> omega
 have e2 : hdR (bt s 0) = bt s 0 % 16 := by unfold hdR; repeat' split <;> omega
 rw [e1, e2] at hh
 have u1 : (s[1].toNat : Int) ≤ 255 := by have := s[1].toNat_lt; omega
 have u2 : (s[2].toNat : Int) ≤ 255 := by have := s[2].toNat_lt; omega
 have t1 := mark_yes (bt_of (s := s) (i := 1) (by omega)) (bt_lo s 1) (bt_hi s 1) c1
 clear c1
 generalize bt s 0 = a at *
 clear e1 e2
 have Hh := Lib.hid hh
 clear hh
 go_enter Tryz.func100, Tryz.ntmps100
 go_wp2
 refine wp_scope_jumps 0 (fun a' w' => w' = w ∧ Frm a') (fun _ _ => 0) rfl ?_ ?_
 · go_wp2_with (go_at_call 102; refine (Hh.out _).mono ?_; rintro e w' ⟨rfl, rfl⟩)
   refine wp_loop_rounds 3 ?_; rw [rounds_succ]
   go_wp2
   go_step3
   exact ⟨rfl, rfl, rfl, rfl⟩
 · rintro ⟨t, d⟩ w' ⟨rfl, rfl, ht⟩
   go_wp2
   simp only [Exit.jump]
   exact none_end ht ⟨rfl, rfl⟩
set_option maxHeartbeats 400000 in
theorem next_3_no2 (s : ByteArray) (w : World) (h1 : s.size ≤ 9223372036854775807) (h2 : 3 ≤ s.size) (h3 : 224 ≤ bt s 0) (h4 : bt s 0 ≤ 239) (c1 : cn (bt s 1)) (c2 : ¬ cn (bt s 2)) :
   Calls Tryz.prog 100 #[.string s] w fun e w' => e = .returned (.tuple #[.int .i32 0, .int .i64 0, .int .i64 5]) ∧ w = w' := by
 have hh := fun W => head_any s W (by omega) h1
 have e1 : hdN (bt s 0) = 3 := by unfold hdN; repeat' split <;> omega
 have e2 : hdR (bt s 0) = bt s 0 % 16 := by unfold hdR; repeat' split <;> omega
 rw [e1, e2] at hh
 have u1 : (s[1].toNat : Int) ≤ 255 := by have := s[1].toNat_lt; omega
 have u2 : (s[2].toNat : Int) ≤ 255 := by have := s[2].toNat_lt; omega
 have t1 := mark_no (bt_of (s := s) (i := 1) (by omega)) (bt_lo s 1) (bt_hi s 1) c1
 have t2 := mark_yes (bt_of (s := s) (i := 2) (by omega)) (bt_lo s 2) (bt_hi s 2) c2
 clear c1 c2
 generalize bt s 0 = a at *
 clear e1 e2
 have Hh := Lib.hid hh
 clear hh
 go_enter Tryz.func100, Tryz.ntmps100
 go_wp2
 refine wp_scope_jumps 0 (fun a' w' => w' = w ∧ Frm a') (fun _ _ => 0) rfl ?_ ?_
 · go_wp2_with (go_at_call 102; refine (Hh.out _).mono ?_; rintro e w' ⟨rfl, rfl⟩)
   refine wp_loop_rounds 3 ?_; rw [rounds_succ]
   go_wp2
   rw [rounds_succ]
   go_wp2
   go_step3
   exact ⟨rfl, rfl, rfl, rfl⟩
 · rintro ⟨t, d⟩ w' ⟨rfl, rfl, ht⟩
   go_wp2
   simp only [Exit.jump]
   exact none_end ht ⟨rfl, rfl⟩
set_option maxHeartbeats 400000 in
theorem next_3_ok (s : ByteArray) (w : World) (h1 : s.size ≤ 9223372036854775807) (h2 : 3 ≤ s.size) (h3 : 224 ≤ bt s 0) (h4 : bt s 0 ≤ 239) (c1 : cn (bt s 1)) (c2 : cn (bt s 2)) (hz : sizeI (v3 (bt s)) = 3) :
   Calls Tryz.prog 100 #[.string s] w fun e w' => e = .returned (.tuple #[.int .i32 (v3 (bt s)), .int .i64 3, .int .i64 0]) ∧ w = w' := by
 have hh := fun W => head_any s W (by omega) h1
 have e1 : hdN (bt s 0) = 3 := by unfold hdN; repeat' split <;> omega
 have e2 : hdR (bt s 0) = bt s 0 % 16 := by unfold hdR; repeat' split <;> omega
 rw [e1, e2] at hh
 have u1 : (s[1].toNat : Int) ≤ 255 := by have := s[1].toNat_lt; omega
 have u2 : (s[2].toNat : Int) ≤ 255 := by have := s[2].toNat_lt; omega
 have t1 := mark_no (bt_of (s := s) (i := 1) (by omega)) (bt_lo s 1) (bt_hi s 1) c1
 have t2 := mark_no (bt_of (s := s) (i := 2) (by omega)) (bt_lo s 2) (bt_hi s 2) c2
 clear c1 c2
 have hv : v3 (bt s) = (bt s 0 % (16 : Int) * (64 : Int) + (s[1].toNat : Int) % (64 : Int)) * (64 : Int) + (s[2].toNat : Int) % (64 : Int) := by unfold v3; rw [← bt_of (s := s) (i := 1) (by omega), ← bt_of (s := s) (i := 2) (by omega)]
 have hsz := fun W => size_any (v3 (bt s)) W
 rw [hz, hv] at hsz
 rw [hv]
 clear hz hv
 generalize bt s 0 = a at *
 clear e1 e2
 have Hh := Lib.hid hh
 have Hz := Lib.hid hsz
 clear hh hsz
 go_enter Tryz.func100, Tryz.ntmps100
 go_wp2
 refine wp_scope_jumps 0 (fun _ _ => False) (fun _ _ => 0) rfl ?_ ?_
 · go_wp2_with (go_at_call 102; refine (Hh.out _).mono ?_; rintro e w' ⟨rfl, rfl⟩)
   refine wp_loop_rounds 3 ?_; rw [rounds_succ]
   go_wp2
   rw [rounds_succ]
   go_wp2_with (go_at_call 103; refine (Hz.out _).mono ?_; rintro e w' ⟨rfl, rfl⟩)
   rw [rounds_succ]
   go_wp2_with (go_at_call 103; refine (Hz.out _).mono ?_; rintro e w' ⟨rfl, rfl⟩)
   simp only [Exit.jump]
   go_ret3
   exact ⟨rfl, rfl⟩
 · exact fun _ _ h => h.elim
set_option maxHeartbeats 400000 in
theorem next_3_size (s : ByteArray) (w : World) (h1 : s.size ≤ 9223372036854775807) (h2 : 3 ≤ s.size) (h3 : 224 ≤ bt s 0) (h4 : bt s 0 ≤ 239) (c1 : cn (bt s 1)) (c2 : cn (bt s 2)) (hz : sizeI (v3 (bt s)) ≠ 3) :
   Calls Tryz.prog 100 #[.string s] w fun e w' => e = .returned (.tuple #[.int .i32 0, .int .i64 0, .int .i64 5]) ∧ w = w' := by
 have hh := fun W => head_any s W (by omega) h1
 have e1 : hdN (bt s 0) = 3 := by unfold hdN; repeat' split <;> omega
 have e2 : hdR (bt s 0) = bt s 0 % 16 := by unfold hdR; repeat' split <;> omega
 rw [e1, e2] at hh
 have u1 : (s[1].toNat : Int) ≤ 255 := by have := s[1].toNat_lt; omega
 have u2 : (s[2].toNat : Int) ≤ 255 := by have := s[2].toNat_lt; omega
 have t1 := mark_no (bt_of (s := s) (i := 1) (by omega)) (bt_lo s 1) (bt_hi s 1) c1
 have t2 := mark_no (bt_of (s := s) (i := 2) (by omega)) (bt_lo s 2) (bt_hi s 2) c2
 clear c1 c2
 have hv : v3 (bt s) = (bt s 0 % (16 : Int) * (64 : Int) + (s[1].toNat : Int) % (64 : Int)) * (64 : Int) + (s[2].toNat : Int) % (64 : Int) := by unfold v3; rw [← bt_of (s := s) (i := 1) (by omega), ← bt_of (s := s) (i := 2) (by omega)]
 have hsz := fun W => size_any (v3 (bt s)) W
 have hk : (sizeI (v3 (bt s)) != 3) = true := by simpa using hz
 generalize sizeI (v3 (bt s)) = z at *
 rw [hv] at hsz
 clear hz hv
 generalize bt s 0 = a at *
 clear e1 e2
 have Hh := Lib.hid hh
 have Hz := Lib.hid hsz
 clear hh hsz
 go_enter Tryz.func100, Tryz.ntmps100
 go_wp2
 refine wp_scope_jumps 0 (fun a' w' => w' = w ∧ Frm a') (fun _ _ => 0) rfl ?_ ?_
 · go_wp2_with (go_at_call 102; refine (Hh.out _).mono ?_; rintro e w' ⟨rfl, rfl⟩)
   refine wp_loop_rounds 3 ?_; rw [rounds_succ]
   go_wp2
   rw [rounds_succ]
   go_wp2_with (go_at_call 103; refine (Hz.out _).mono ?_; rintro e w' ⟨rfl, rfl⟩)
   rw [rounds_succ]
   go_wp2_with (go_at_call 103; refine (Hz.out _).mono ?_; rintro e w' ⟨rfl, rfl⟩)
   go_step3
   exact ⟨rfl, rfl, rfl, rfl⟩
 · rintro ⟨t, d⟩ w' ⟨rfl, rfl, ht⟩
   go_wp2
   simp only [Exit.jump]
   exact none_end ht ⟨rfl, rfl⟩
set_option maxHeartbeats 400000 in
theorem next_4_no1 (s : ByteArray) (w : World) (h1 : s.size ≤ 9223372036854775807) (h2 : 4 ≤ s.size) (h3 : 240 ≤ bt s 0) (h4 : bt s 0 ≤ 247) (c1 : ¬ cn (bt s 1)) :
   Calls Tryz.prog 100 #[.string s] w fun e w' => e = .returned (.tuple #[.int .i32 0, .int .i64 0, .int .i64 5]) ∧ w = w' := by
 have hh := fun W => head_any s W (by omega) h1
 have e1 : hdN (bt s 0) = 4 := by unfold hdN; repeat' split <;> omega
 have e2 : hdR (bt s 0) = bt s 0 % 8 := by unfold hdR; repeat' split <;> omega
 rw [e1, e2] at hh
 have u1 : (s[1].toNat : Int) ≤ 255 := by have := s[1].toNat_lt; omega
 have u2 : (s[2].toNat : Int) ≤ 255 := by have := s[2].toNat_lt; omega
 have u3 : (s[3].toNat : Int) ≤ 255 := by have := s[3].toNat_lt; omega
 have t1 := mark_yes (bt_of (s := s) (i := 1) (by omega)) (bt_lo s 1) (bt_hi s 1) c1
 clear c1
 generalize bt s 0 = a at *
 clear e1 e2
 have Hh := Lib.hid hh
 clear hh
 go_enter Tryz.func100, Tryz.ntmps100
 go_wp2
 refine wp_scope_jumps 0 (fun a' w' => w' = w ∧ Frm a') (fun _ _ => 0) rfl ?_ ?_
 · go_wp2_with (go_at_call 102; refine (Hh.out _).mono ?_; rintro e w' ⟨rfl, rfl⟩)
   refine wp_loop_rounds 4 ?_; rw [rounds_succ]
   go_wp2
   go_step3
   exact ⟨rfl, rfl, rfl, rfl⟩
 · rintro ⟨t, d⟩ w' ⟨rfl, rfl, ht⟩
   go_wp2
   simp only [Exit.jump]
   exact none_end ht ⟨rfl, rfl⟩
set_option maxHeartbeats 400000 in
theorem next_4_no2 (s : ByteArray) (w : World) (h1 : s.size ≤ 9223372036854775807) (h2 : 4 ≤ s.size) (h3 : 240 ≤ bt s 0) (h4 : bt s 0 ≤ 247) (c1 : cn (bt s 1)) (c2 : ¬ cn (bt s 2)) :
   Calls Tryz.prog 100 #[.string s] w fun e w' => e = .returned (.tuple #[.int .i32 0, .int .i64 0, .int .i64 5]) ∧ w = w' := by
 have hh := fun W => head_any s W (by omega) h1
 have e1 : hdN (bt s 0) = 4 := by unfold hdN; repeat' split <;> omega
 have e2 : hdR (bt s 0) = bt s 0 % 8 := by unfold hdR; repeat' split <;> omega
 rw [e1, e2] at hh
 have u1 : (s[1].toNat : Int) ≤ 255 := by have := s[1].toNat_lt; omega
 have u2 : (s[2].toNat : Int) ≤ 255 := by have := s[2].toNat_lt; omega
 have u3 : (s[3].toNat : Int) ≤ 255 := by have := s[3].toNat_lt; omega
 have t1 := mark_no (bt_of (s := s) (i := 1) (by omega)) (bt_lo s 1) (bt_hi s 1) c1
 have t2 := mark_yes (bt_of (s := s) (i := 2) (by omega)) (bt_lo s 2) (bt_hi s 2) c2
 clear c1 c2
 generalize bt s 0 = a at *
 clear e1 e2
 have Hh := Lib.hid hh
 clear hh
 go_enter Tryz.func100, Tryz.ntmps100
 go_wp2
 refine wp_scope_jumps 0 (fun a' w' => w' = w ∧ Frm a') (fun _ _ => 0) rfl ?_ ?_
 · go_wp2_with (go_at_call 102; refine (Hh.out _).mono ?_; rintro e w' ⟨rfl, rfl⟩)
   refine wp_loop_rounds 4 ?_; rw [rounds_succ]
   go_wp2
   rw [rounds_succ]
   go_wp2
   go_step3
   exact ⟨rfl, rfl, rfl, rfl⟩
 · rintro ⟨t, d⟩ w' ⟨rfl, rfl, ht⟩
   go_wp2
   simp only [Exit.jump]
   exact none_end ht ⟨rfl, rfl⟩
set_option maxHeartbeats 400000 in
theorem next_4_no3 (s : ByteArray) (w : World) (h1 : s.size ≤ 9223372036854775807) (h2 : 4 ≤ s.size) (h3 : 240 ≤ bt s 0) (h4 : bt s 0 ≤ 247) (c1 : cn (bt s 1)) (c2 : cn (bt s 2)) (c3 : ¬ cn (bt s 3)) :
   Calls Tryz.prog 100 #[.string s] w fun e w' => e = .returned (.tuple #[.int .i32 0, .int .i64 0, .int .i64 5]) ∧ w = w' := by
 have hh := fun W => head_any s W (by omega) h1
 have e1 : hdN (bt s 0) = 4 := by unfold hdN; repeat' split <;> omega
 have e2 : hdR (bt s 0) = bt s 0 % 8 := by unfold hdR; repeat' split <;> omega
 rw [e1, e2] at hh
 have u1 : (s[1].toNat : Int) ≤ 255 := by have := s[1].toNat_lt; omega
 have u2 : (s[2].toNat : Int) ≤ 255 := by have := s[2].toNat_lt; omega
 have u3 : (s[3].toNat : Int) ≤ 255 := by have := s[3].toNat_lt; omega
 have t1 := mark_no (bt_of (s := s) (i := 1) (by omega)) (bt_lo s 1) (bt_hi s 1) c1
 have t2 := mark_no (bt_of (s := s) (i := 2) (by omega)) (bt_lo s 2) (bt_hi s 2) c2
 have t3 := mark_yes (bt_of (s := s) (i := 3) (by omega)) (bt_lo s 3) (bt_hi s 3) c3
 clear c1 c2 c3
 generalize bt s 0 = a at *
 clear e1 e2
 have Hh := Lib.hid hh
 clear hh
 go_enter Tryz.func100, Tryz.ntmps100
 go_wp2
 refine wp_scope_jumps 0 (fun a' w' => w' = w ∧ Frm a') (fun _ _ => 0) rfl ?_ ?_
 · go_wp2_with (go_at_call 102; refine (Hh.out _).mono ?_; rintro e w' ⟨rfl, rfl⟩)
   refine wp_loop_rounds 4 ?_; rw [rounds_succ]
   go_wp2
   rw [rounds_succ]
   go_wp2
   rw [rounds_succ]
   go_wp2
   go_step3
   exact ⟨rfl, rfl, rfl, rfl⟩
 · rintro ⟨t, d⟩ w' ⟨rfl, rfl, ht⟩
   go_wp2
   simp only [Exit.jump]
   exact none_end ht ⟨rfl, rfl⟩
set_option maxHeartbeats 400000 in
theorem next_4_ok (s : ByteArray) (w : World) (h1 : s.size ≤ 9223372036854775807) (h2 : 4 ≤ s.size) (h3 : 240 ≤ bt s 0) (h4 : bt s 0 ≤ 247) (c1 : cn (bt s 1)) (c2 : cn (bt s 2)) (c3 : cn (bt s 3)) (hz : sizeI (v4 (bt s)) = 4) :
   Calls Tryz.prog 100 #[.string s] w fun e w' => e = .returned (.tuple #[.int .i32 (v4 (bt s)), .int .i64 4, .int .i64 0]) ∧ w = w' := by
 have hh := fun W => head_any s W (by omega) h1
 have e1 : hdN (bt s 0) = 4 := by unfold hdN; repeat' split <;> omega
 have e2 : hdR (bt s 0) = bt s 0 % 8 := by unfold hdR; repeat' split <;> omega
 rw [e1, e2] at hh
 have u1 : (s[1].toNat : Int) ≤ 255 := by have := s[1].toNat_lt; omega
 have u2 : (s[2].toNat : Int) ≤ 255 := by have := s[2].toNat_lt; omega
 have u3 : (s[3].toNat : Int) ≤ 255 := by have := s[3].toNat_lt; omega
 have t1 := mark_no (bt_of (s := s) (i := 1) (by omega)) (bt_lo s 1) (bt_hi s 1) c1
 have t2 := mark_no (bt_of (s := s) (i := 2) (by omega)) (bt_lo s 2) (bt_hi s 2) c2
 have t3 := mark_no (bt_of (s := s) (i := 3) (by omega)) (bt_lo s 3) (bt_hi s 3) c3
 clear c1 c2 c3
 have hv : v4 (bt s) = ((bt s 0 % (8 : Int) * (64 : Int) + (s[1].toNat : Int) % (64 : Int)) * (64 : Int) + (s[2].toNat : Int) % (64 : Int)) * (64 : Int) + (s[3].toNat : Int) % (64 : Int) := by unfold v4; rw [← bt_of (s := s) (i := 1) (by omega), ← bt_of (s := s) (i := 2) (by omega), ← bt_of (s := s) (i := 3) (by omega)]
 have hsz := fun W => size_any (v4 (bt s)) W
 rw [hz, hv] at hsz
 rw [hv]
 clear hz hv
 generalize bt s 0 = a at *
 clear e1 e2
 have Hh := Lib.hid hh
 have Hz := Lib.hid hsz
 clear hh hsz
 go_enter Tryz.func100, Tryz.ntmps100
 go_wp2
 refine wp_scope_jumps 0 (fun _ _ => False) (fun _ _ => 0) rfl ?_ ?_
 · go_wp2_with (go_at_call 102; refine (Hh.out _).mono ?_; rintro e w' ⟨rfl, rfl⟩)
   refine wp_loop_rounds 4 ?_; rw [rounds_succ]
   go_wp2
   rw [rounds_succ]
   go_wp2_with (go_at_call 103; refine (Hz.out _).mono ?_; rintro e w' ⟨rfl, rfl⟩)
   rw [rounds_succ]
   go_wp2_with (go_at_call 103; refine (Hz.out _).mono ?_; rintro e w' ⟨rfl, rfl⟩)
   rw [rounds_succ]
   go_wp2_with (go_at_call 103; refine (Hz.out _).mono ?_; rintro e w' ⟨rfl, rfl⟩)
   simp only [Exit.jump]
   go_ret3
   exact ⟨rfl, rfl⟩
 · exact fun _ _ h => h.elim
set_option maxHeartbeats 400000 in
theorem next_4_size (s : ByteArray) (w : World) (h1 : s.size ≤ 9223372036854775807) (h2 : 4 ≤ s.size) (h3 : 240 ≤ bt s 0) (h4 : bt s 0 ≤ 247) (c1 : cn (bt s 1)) (c2 : cn (bt s 2)) (c3 : cn (bt s 3)) (hz : sizeI (v4 (bt s)) ≠ 4) :
   Calls Tryz.prog 100 #[.string s] w fun e w' => e = .returned (.tuple #[.int .i32 0, .int .i64 0, .int .i64 5]) ∧ w = w' := by
 have hh := fun W => head_any s W (by omega) h1
 have e1 : hdN (bt s 0) = 4 := by unfold hdN; repeat' split <;> omega
 have e2 : hdR (bt s 0) = bt s 0 % 8 := by unfold hdR; repeat' split <;> omega
 rw [e1, e2] at hh
 have u1 : (s[1].toNat : Int) ≤ 255 := by have := s[1].toNat_lt; omega
 have u2 : (s[2].toNat : Int) ≤ 255 := by have := s[2].toNat_lt; omega
 have u3 : (s[3].toNat : Int) ≤ 255 := by have := s[3].toNat_lt; omega
 have t1 := mark_no (bt_of (s := s) (i := 1) (by omega)) (bt_lo s 1) (bt_hi s 1) c1
 have t2 := mark_no (bt_of (s := s) (i := 2) (by omega)) (bt_lo s 2) (bt_hi s 2) c2
 have t3 := mark_no (bt_of (s := s) (i := 3) (by omega)) (bt_lo s 3) (bt_hi s 3) c3
 clear c1 c2 c3
 have hv : v4 (bt s) = ((bt s 0 % (8 : Int) * (64 : Int) + (s[1].toNat : Int) % (64 : Int)) * (64 : Int) + (s[2].toNat : Int) % (64 : Int)) * (64 : Int) + (s[3].toNat : Int) % (64 : Int) := by unfold v4; rw [← bt_of (s := s) (i := 1) (by omega), ← bt_of (s := s) (i := 2) (by omega), ← bt_of (s := s) (i := 3) (by omega)]
 have hsz := fun W => size_any (v4 (bt s)) W
 have hk : (sizeI (v4 (bt s)) != 4) = true := by simpa using hz
 generalize sizeI (v4 (bt s)) = z at *
 rw [hv] at hsz
 clear hz hv
 generalize bt s 0 = a at *
 clear e1 e2
 have Hh := Lib.hid hh
 have Hz := Lib.hid hsz
 clear hh hsz
 go_enter Tryz.func100, Tryz.ntmps100
 go_wp2
 refine wp_scope_jumps 0 (fun a' w' => w' = w ∧ Frm a') (fun _ _ => 0) rfl ?_ ?_
 · go_wp2_with (go_at_call 102; refine (Hh.out _).mono ?_; rintro e w' ⟨rfl, rfl⟩)
   refine wp_loop_rounds 4 ?_; rw [rounds_succ]
   go_wp2
   rw [rounds_succ]
   go_wp2_with (go_at_call 103; refine (Hz.out _).mono ?_; rintro e w' ⟨rfl, rfl⟩)
   rw [rounds_succ]
   go_wp2_with (go_at_call 103; refine (Hz.out _).mono ?_; rintro e w' ⟨rfl, rfl⟩)
   rw [rounds_succ]
   go_wp2_with (go_at_call 103; refine (Hz.out _).mono ?_; rintro e w' ⟨rfl, rfl⟩)
   go_step3
   exact ⟨rfl, rfl, rfl, rfl⟩
 · rintro ⟨t, d⟩ w' ⟨rfl, rfl, ht⟩
   go_wp2
   simp only [Exit.jump]
   exact none_end ht ⟨rfl, rfl⟩
def nxN (f : Nat → Int) (L : Nat) : Int :=
 if L = 0 then 0 else if f 0 ≤ 127 then 1 else if f 0 ≤ 191 then 0
 else if f 0 ≤ 223 then (if 2 ≤ L ∧ cn (f 1) ∧ sizeI (v2 f) = 2 then 2 else 0)
 else if f 0 ≤ 239 then (if 3 ≤ L ∧ cn (f 1) ∧ cn (f 2) ∧ sizeI (v3 f) = 3 then 3 else 0)
 else if f 0 ≤ 247 then (if 4 ≤ L ∧ cn (f 1) ∧ cn (f 2) ∧ cn (f 3) ∧ sizeI (v4 f) = 4 then 4 else 0) else 0
def nxR (f : Nat → Int) (L : Nat) : Int := if nxN f L = 1 then f 0 else if nxN f L = 2 then v2 f else if nxN f L = 3 then v3 f else if nxN f L = 4 then v4 f else 0
def nxE (n : Int) : Int := if n = 0 then 5 else 0
theorem nx_is {f : Nat → Int} {L : Nat} {n r e : Int} (h : nxN f L = n) (hr : nxR f L = r) (he : nxE n = e) {x : Ending} {w w' : World}
   (hx : x = .returned (.tuple #[.int .i32 r, .int .i64 n, .int .i64 e]) ∧ w = w') :
   x = .returned (.tuple #[.int .i32 (nxR f L), .int .i64 (nxN f L), .int .i64 (nxE (nxN f L))]) ∧ w = w' := by
 rw [h, hr, he]; exact hx
theorem nx_zero {f : Nat → Int} {L : Nat} (h : nxN f L = 0) {x : Ending} {w w' : World}
   (hx : x = .returned (.tuple #[.int .i32 0, .int .i64 0, .int .i64 5]) ∧ w = w') :
   x = .returned (.tuple #[.int .i32 (nxR f L), .int .i64 (nxN f L), .int .i64 (nxE (nxN f L))]) ∧ w = w' :=
 nx_is h (by unfold nxR; rw [h]; rfl) rfl hx
theorem next_any_utf (s : ByteArray) (w : World) (h1 : s.size ≤ 9223372036854775807) :
   Calls Tryz.prog 100 #[.string s] w fun e w' => e = .returned (.tuple #[.int .i32 (nxR (bt s) s.size), .int .i64 (nxN (bt s) s.size), .int .i64 (nxE (nxN (bt s) s.size))]) ∧ w = w' := by
 by_cases h0 : 0 < s.size
 rotate_left
 · exact (next_empty s w h0).mono fun _ _ hx => nx_zero (by unfold nxN; rw [if_pos (by omega)]) hx
 have hL : ¬ s.size = 0 := by omega
 by_cases a1 : bt s 0 ≤ 127
 · have hn : nxN (bt s) s.size = 1 := by unfold nxN; rw [if_neg hL, if_pos a1]
   exact (next_one s w h0 h1 a1).mono fun _ _ hx => nx_is hn (by unfold nxR; rw [if_pos hn]) rfl hx
 by_cases a2 : bt s 0 ≤ 191
 · have hn : nxN (bt s) s.size = 0 := by unfold nxN; rw [if_neg hL, if_neg a1, if_pos a2]
   exact (next_head s w h0 h1 (.inl (by unfold hdN; rw [if_neg a1, if_pos a2]))).mono fun _ _ hx => nx_zero hn hx
 by_cases a3 : bt s 0 ≤ 223
 · by_cases hl : 2 ≤ s.size
   rotate_left
   · exact (next_head s w h0 h1 (.inr (by unfold hdN; rw [if_neg a1, if_neg a2, if_pos a3]; omega))).mono fun _ _ hx => nx_zero (by unfold nxN; rw [if_neg hL, if_neg a1, if_neg a2, if_pos a3, if_neg (fun h => hl h.1)]) hx
   by_cases c1 : cn (bt s 1)
   rotate_left
   · exact (next_2_no1 s w h1 hl (by omega) a3 c1).mono fun _ _ hx => nx_zero (by unfold nxN; rw [if_neg hL, if_neg a1, if_neg a2, if_pos a3, if_neg (fun h => c1 h.2.1)]) hx
   by_cases hz : sizeI (v2 (bt s)) = 2
   rotate_left
   · exact (next_2_size s w h1 hl (by omega) a3 c1 hz).mono fun _ _ hx => nx_zero (by unfold nxN; rw [if_neg hL, if_neg a1, if_neg a2, if_pos a3, if_neg (fun h => hz h.2.2)]) hx
   have hn : nxN (bt s) s.size = 2 := by unfold nxN; rw [if_neg hL, if_neg a1, if_neg a2, if_pos a3, if_pos ⟨hl, c1, hz⟩]
   exact (next_2_ok s w h1 hl (by omega) a3 c1 hz).mono fun _ _ hx => nx_is hn (by unfold nxR; rw [hn]; rfl) rfl hx
 by_cases a4 : bt s 0 ≤ 239
 · by_cases hl : 3 ≤ s.size
   rotate_left
   · exact (next_head s w h0 h1 (.inr (by unfold hdN; rw [if_neg a1, if_neg a2, if_neg a3, if_pos a4]; omega))).mono fun _ _ hx => nx_zero (by unfold nxN; rw [if_neg hL, if_neg a1, if_neg a2, if_neg a3, if_pos a4, if_neg (fun h => hl h.1)]) hx
   by_cases c1 : cn (bt s 1)
   rotate_left
   · exact (next_3_no1 s w h1 hl (by omega) a4 c1).mono fun _ _ hx => nx_zero (by unfold nxN; rw [if_neg hL, if_neg a1, if_neg a2, if_neg a3, if_pos a4, if_neg (fun h => c1 h.2.1)]) hx
   by_cases c2 : cn (bt s 2)
   rotate_left
   · exact (next_3_no2 s w h1 hl (by omega) a4 c1 c2).mono fun _ _ hx => nx_zero (by unfold nxN; rw [if_neg hL, if_neg a1, if_neg a2, if_neg a3, if_pos a4, if_neg (fun h => c2 h.2.2.1)]) hx
   by_cases hz : sizeI (v3 (bt s)) = 3
   rotate_left
   · exact (next_3_size s w h1 hl (by omega) a4 c1 c2 hz).mono fun _ _ hx => nx_zero (by unfold nxN; rw [if_neg hL, if_neg a1, if_neg a2, if_neg a3, if_pos a4, if_neg (fun h => hz h.2.2.2)]) hx
   have hn : nxN (bt s) s.size = 3 := by unfold nxN; rw [if_neg hL, if_neg a1, if_neg a2, if_neg a3, if_pos a4, if_pos ⟨hl, c1, c2, hz⟩]
   exact (next_3_ok s w h1 hl (by omega) a4 c1 c2 hz).mono fun _ _ hx => nx_is hn (by unfold nxR; rw [hn]; rfl) rfl hx
 by_cases a5 : bt s 0 ≤ 247
 rotate_left
 · exact (next_head s w h0 h1 (.inl (by unfold hdN; rw [if_neg a1, if_neg a2, if_neg a3, if_neg a4, if_neg a5]))).mono fun _ _ hx => nx_zero (by unfold nxN; rw [if_neg hL, if_neg a1, if_neg a2, if_neg a3, if_neg a4, if_neg a5]) hx
 by_cases hl : 4 ≤ s.size
 rotate_left
 · exact (next_head s w h0 h1 (.inr (by unfold hdN; rw [if_neg a1, if_neg a2, if_neg a3, if_neg a4, if_pos a5]; omega))).mono fun _ _ hx => nx_zero (by unfold nxN; rw [if_neg hL, if_neg a1, if_neg a2, if_neg a3, if_neg a4, if_pos a5, if_neg (fun h => hl h.1)]) hx
 by_cases c1 : cn (bt s 1)
 rotate_left
 · exact (next_4_no1 s w h1 hl (by omega) a5 c1).mono fun _ _ hx => nx_zero (by unfold nxN; rw [if_neg hL, if_neg a1, if_neg a2, if_neg a3, if_neg a4, if_pos a5, if_neg (fun h => c1 h.2.1)]) hx
 by_cases c2 : cn (bt s 2)
 rotate_left
 · exact (next_4_no2 s w h1 hl (by omega) a5 c1 c2).mono fun _ _ hx => nx_zero (by unfold nxN; rw [if_neg hL, if_neg a1, if_neg a2, if_neg a3, if_neg a4, if_pos a5, if_neg (fun h => c2 h.2.2.1)]) hx
 by_cases c3 : cn (bt s 3)
 rotate_left
 · exact (next_4_no3 s w h1 hl (by omega) a5 c1 c2 c3).mono fun _ _ hx => nx_zero (by unfold nxN; rw [if_neg hL, if_neg a1, if_neg a2, if_neg a3, if_neg a4, if_pos a5, if_neg (fun h => c3 h.2.2.2.1)]) hx
 by_cases hz : sizeI (v4 (bt s)) = 4
 rotate_left
 · exact (next_4_size s w h1 hl (by omega) a5 c1 c2 c3 hz).mono fun _ _ hx => nx_zero (by unfold nxN; rw [if_neg hL, if_neg a1, if_neg a2, if_neg a3, if_neg a4, if_pos a5, if_neg (fun h => hz h.2.2.2.2)]) hx
 have hn : nxN (bt s) s.size = 4 := by unfold nxN; rw [if_neg hL, if_neg a1, if_neg a2, if_neg a3, if_neg a4, if_pos a5, if_pos ⟨hl, c1, c2, c3, hz⟩]
 exact (next_4_ok s w h1 hl (by omega) a5 c1 c2 c3 hz).mono fun _ _ hx => nx_is hn (by unfold nxR; rw [hn]; rfl) rfl hx
end Go.Proofs.YtniaijgejljjbaaGreat.Utf
