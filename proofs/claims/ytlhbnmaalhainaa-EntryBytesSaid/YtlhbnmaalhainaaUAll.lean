/- The small functions of layer 1: which numbers are runes, how many bytes they have, and which bytes these are. -/
import Derived.Test.YtlhbnmaalhainaaProg
import Derived.WalkKit
import Derived.ProofKit
import Derived.Below
import Derived.BigQuiet
import Derived.Deep.QuietTactic
import Derived.IntWalk
import Derived.Lib.Hide
import Derived.Scope
import Derived.LoopTactic
import Derived.ScopeJumps
import Derived.Outline
import Derived.RegionTactic
import Derived.Deep.RegionWith
import Derived.Deep.RegionHeld3
import Derived.StillTailTactics
import Derived.Deep.DeepCutAuto
import Derived.LoopN
import Derived.OwnWalk

namespace Go.Proofs.Ytlhbnmaalhainaa.Utf
open Go.RowKit
set_option linter.unusedVariables false

def mayB (r : Int) : Bool := decide (0 ≤ r ∧ r ≤ 1114111 ∧ (r < 55296 ∨ 57343 < r))
def sizeI (r : Int) : Int := if mayB r = false then 0 else if r ≤ 127 then 1 else if r ≤ 2047 then 2 else if r ≤ 65535 then 3 else 4

theorem ret_bool {a b : Bool} (h : a = b) : Ending.returned (.bool a) = .returned (.bool b) := by rw [h]
theorem ret_int {k : IntKind} {a b : Int} (h : a = b) : Ending.returned (.int k a) = .returned (.int k b) := by rw [h]

set_option maxHeartbeats 400000 in
theorem refMay_any (r : Int) (w : World) :
    Calls Try.prog 105 #[.int .i32 r] w fun e w' => e = .returned (.bool (mayB r)) ∧ w = w' := by
  go_enter Try.func105, Try.ntmps105
  go_wp2
  all_goals go_ret
  all_goals exact ⟨ret_bool (by rw [Bool.eq_iff_iff]; unfold mayB; simp; omega), rfl⟩

set_option maxHeartbeats 400000 in
theorem may_any (r : Int) (w : World) :
    Calls Try.prog 112 #[.int .i32 r] w fun e w' => e = .returned (.bool (mayB r)) ∧ w = w' := by
  go_enter Try.func112, Try.ntmps112
  go_wp2
  all_goals go_ret
  all_goals exact ⟨ret_bool (by rw [Bool.eq_iff_iff]; unfold mayB; simp; omega), rfl⟩

set_option maxHeartbeats 400000 in
theorem size_any (r : Int) (w : World) :
    Calls Try.prog 104 #[.int .i32 r] w fun e w' => e = .returned (.int .i64 (sizeI r)) ∧ w = w' := by
  cases hm : mayB r
  · have Hm := Lib.hid hm
    have hmay : ∀ W, Calls Try.prog 112 #[.int .i32 r] W fun e w' => e = .returned (.bool false) ∧ W = w' := fun W => by have := may_any r W; rwa [hm] at this
    clear hm
    have Hmay := Lib.hid hmay
    clear hmay
    go_enter Try.func104, Try.ntmps104
    go_wp2_with (go_at_call 112; refine (Hmay.out _).mono ?_; rintro e w' ⟨rfl, rfl⟩)
    go_ret
    exact ⟨ret_int (by rw [sizeI, if_pos Hm.out]), rfl⟩
  · have Hm := Lib.hid hm
    have hmay : ∀ W, Calls Try.prog 112 #[.int .i32 r] W fun e w' => e = .returned (.bool true) ∧ W = w' := fun W => by have := may_any r W; rwa [hm] at this
    clear hm
    have Hmay := Lib.hid hmay
    clear hmay
    go_enter Try.func104, Try.ntmps104
    go_wp2_with (go_at_call 112; refine (Hmay.out _).mono ?_; rintro e w' ⟨rfl, rfl⟩)
    all_goals go_ret
    all_goals exact ⟨ret_int (by rw [sizeI, if_neg (by rw [Hm.out]; simp)]; repeat (first | rw [if_pos (by assumption)] | rw [if_neg (by omega)] | rfl)), rfl⟩

/-- The byte at a place, as a number; 0 where none is. -/
def bt (s : ByteArray) (i : Nat) : Int := ((s.data.getD i 0).toNat : Int)
theorem bt_of {s : ByteArray} {i : Nat} (h : i < s.size) : (s[i].toNat : Int) = bt s i := by
  unfold bt
  have h' : i < s.data.size := h
  have e : s.data.getD i 0 = s.data[i] := by simp [Array.getD, h]
  rw [e]
  rfl
theorem bt_lo (s : ByteArray) (i : Nat) : 0 ≤ bt s i := by unfold bt; omega
theorem bt_hi (s : ByteArray) (i : Nat) : bt s i ≤ 255 := by unfold bt; have := (s.data.getD i 0).toNat_lt; omega
theorem and_224 : ∀ n : Fin 256, bits BinOp.and IntKind.u8 (n.val : Int) 224 = 32 * ((n.val : Int) / 32) := by decide +kernel
theorem and_240 : ∀ n : Fin 256, bits BinOp.and IntKind.u8 (n.val : Int) 240 = 16 * ((n.val : Int) / 16) := by decide +kernel
theorem and_248 : ∀ n : Fin 256, bits BinOp.and IntKind.u8 (n.val : Int) 248 = 8 * ((n.val : Int) / 8) := by decide +kernel
theorem and_192 : ∀ n : Fin 256, bits BinOp.and IntKind.u8 (n.val : Int) 192 = 64 * ((n.val : Int) / 64) := by decide +kernel
theorem and224 (b : Int) (h0 : 0 ≤ b) (h1 : b ≤ 255) : bits BinOp.and IntKind.u8 b 224 = 32 * (b / 32) := by
  have := and_224 ⟨b.toNat, by omega⟩; simp only [Int.toNat_of_nonneg h0] at this; exact this
theorem and240 (b : Int) (h0 : 0 ≤ b) (h1 : b ≤ 255) : bits BinOp.and IntKind.u8 b 240 = 16 * (b / 16) := by
  have := and_240 ⟨b.toNat, by omega⟩; simp only [Int.toNat_of_nonneg h0] at this; exact this
theorem and248 (b : Int) (h0 : 0 ≤ b) (h1 : b ≤ 255) : bits BinOp.and IntKind.u8 b 248 = 8 * (b / 8) := by
  have := and_248 ⟨b.toNat, by omega⟩; simp only [Int.toNat_of_nonneg h0] at this; exact this
theorem and192 (b : Int) (h0 : 0 ≤ b) (h1 : b ≤ 255) : bits BinOp.and IntKind.u8 b 192 = 64 * (b / 64) := by
  have := and_192 ⟨b.toNat, by omega⟩; simp only [Int.toNat_of_nonneg h0] at this; exact this

/-- How many bytes a first byte tells of, and the bits that it has. -/
def hdN (b : Int) : Int := if b ≤ 127 then 1 else if b ≤ 191 then 0 else if b ≤ 223 then 2 else if b ≤ 239 then 3 else if b ≤ 247 then 4 else 0
def hdR (b : Int) : Int := if b ≤ 127 then b else if b ≤ 191 then 0 else if b ≤ 223 then b % 32 else if b ≤ 239 then b % 16 else if b ≤ 247 then b % 8 else 0

theorem ne_of_pos {s : ByteArray} (h : 0 < s.size) : (!s.toList.isEmpty) = true ∧ s.toList.isEmpty = false := by
  have h2 : s.toList.isEmpty = false := by
    rw [← decide_eq_emptyBytes s, decide_eq_false_iff_not]
    rintro rfl
    exact absurd h (by decide)
  simp [h2]
theorem eq_of_zero {s : ByteArray} (h : ¬ 0 < s.size) : (!s.toList.isEmpty) = false ∧ s.toList.isEmpty = true := by
  have h2 : s.toList.isEmpty = true := by
    rw [← decide_eq_emptyBytes s, decide_eq_true_iff]
    apply ByteArray.ext
    apply Array.eq_empty_of_size_eq_zero
    have : s.data.size = s.size := rfl
    omega
  simp [h2]

theorem ret_hd {n n' r r' : Int} (hn : n = n') (hr : r = r') : Ending.returned (.tuple #[.int .i64 n, .int .i32 r]) = .returned (.tuple #[.int .i64 n', .int .i32 r']) := by rw [hn, hr]
theorem hd1 {b c : Int} (e : b = c) (g1 : b ≤ 127) : Ending.returned (.tuple #[.int .i64 1, .int .i32 b]) = .returned (.tuple #[.int .i64 (hdN c), .int .i32 (hdR c)]) := by
  subst e; exact ret_hd (by unfold hdN; rw [if_pos g1]) (by unfold hdR; rw [if_pos g1])
theorem hd2 {b c : Int} (e : b = c) (h0 : 0 ≤ b) (h1 : b ≤ 255) (g1 : 127 < b) (g2 : (bits BinOp.and IntKind.u8 b 224 == 192) = true) : Ending.returned (.tuple #[.int .i64 2, .int .i32 (b % 32)]) = .returned (.tuple #[.int .i64 (hdN c), .int .i32 (hdR c)]) := by
  subst e; rw [and224 b h0 h1, beq_iff_eq] at g2
  exact ret_hd (by unfold hdN; rw [if_neg (by omega), if_neg (by omega), if_pos (by omega)]) (by unfold hdR; rw [if_neg (by omega), if_neg (by omega), if_pos (by omega)])
theorem hd3 {b c : Int} (e : b = c) (h0 : 0 ≤ b) (h1 : b ≤ 255) (g1 : 127 < b) (g3 : (bits BinOp.and IntKind.u8 b 240 == 224) = true) : Ending.returned (.tuple #[.int .i64 3, .int .i32 (b % 16)]) = .returned (.tuple #[.int .i64 (hdN c), .int .i32 (hdR c)]) := by
  subst e; rw [and240 b h0 h1, beq_iff_eq] at g3
  exact ret_hd (by unfold hdN; rw [if_neg (by omega), if_neg (by omega), if_neg (by omega), if_pos (by omega)]) (by unfold hdR; rw [if_neg (by omega), if_neg (by omega), if_neg (by omega), if_pos (by omega)])
theorem hd4 {b c : Int} (e : b = c) (h0 : 0 ≤ b) (h1 : b ≤ 255) (g1 : 127 < b) (g4 : (bits BinOp.and IntKind.u8 b 248 == 240) = true) : Ending.returned (.tuple #[.int .i64 4, .int .i32 (b % 8)]) = .returned (.tuple #[.int .i64 (hdN c), .int .i32 (hdR c)]) := by
  subst e; rw [and248 b h0 h1, beq_iff_eq] at g4
  exact ret_hd (by unfold hdN; rw [if_neg (by omega), if_neg (by omega), if_neg (by omega), if_neg (by omega), if_pos (by omega)]) (by unfold hdR; rw [if_neg (by omega), if_neg (by omega), if_neg (by omega), if_neg (by omega), if_pos (by omega)])
theorem hd0 {b c : Int} (e : b = c) (h0 : 0 ≤ b) (h1 : b ≤ 255) (g1 : 127 < b) (g2 : (bits BinOp.and IntKind.u8 b 224 == 192) = false) (g3 : (bits BinOp.and IntKind.u8 b 240 == 224) = false) (g4 : (bits BinOp.and IntKind.u8 b 248 == 240) = false) :
    Ending.returned (.tuple #[.int .i64 0, .int .i32 0]) = .returned (.tuple #[.int .i64 (hdN c), .int .i32 (hdR c)]) := by
  subst e
  rw [and224 b h0 h1, beq_eq_false_iff_ne] at g2
  rw [and240 b h0 h1, beq_eq_false_iff_ne] at g3
  rw [and248 b h0 h1, beq_eq_false_iff_ne] at g4
  exact ret_hd (by unfold hdN; repeat' split <;> omega) (by unfold hdR; repeat' split <;> omega)

set_option maxHeartbeats 400000 in
theorem head_any (s : ByteArray) (w : World) (h0 : 0 < s.size) (h1 : s.size ≤ 9223372036854775807) :
    Calls Try.prog 103 #[.string s] w fun e w' => e = .returned (.tuple #[.int .i64 (hdN (bt s 0)), .int .i32 (hdR (bt s 0))]) ∧ w = w' := by
  obtain ⟨hs, hs2⟩ := ne_of_pos h0
  have hb := bt_hi s 0
  have hb' : (s[0].toNat : Int) ≤ 255 := by rw [bt_of h0]; exact hb
  have hl' : 0 ≤ (s[0].toNat : Int) := by rw [bt_of h0]; exact bt_lo s 0
  have B := Lib.hid (bt_of h0)
  go_enter Try.func103, Try.ntmps103
  go_wp2
  all_goals go_ret2
  · exact ⟨hd1 B.out (by assumption), rfl⟩
  · exact ⟨hd2 B.out hl' hb' (by assumption) (by assumption), rfl⟩
  · exact ⟨hd3 B.out hl' hb' (by assumption) (by assumption), rfl⟩
  · exact ⟨hd4 B.out hl' hb' (by assumption) (by assumption), rfl⟩
  · exact ⟨hd0 B.out hl' hb' (by assumption) (by assumption) (by assumption) (by assumption), rfl⟩

theorem head_none (s : ByteArray) (w : World) (h0 : ¬ 0 < s.size) :
    Calls Try.prog 103 #[.string s] w fun e w' => e = .returned (.tuple #[.int .i64 0, .int .i32 0]) ∧ w = w' := by
  obtain ⟨hs, hs2⟩ := eq_of_zero h0
  go_enter Try.func103, Try.ntmps103
  go_wp2
  go_ret2
  exact ⟨rfl, rfl⟩
end Go.Proofs.Ytlhbnmaalhainaa.Utf

namespace Go.Proofs.Ytlhbnmaalhainaa.Utf
open Go.RowKit
set_option linter.unusedVariables false

/-- What a jump to 'none' leaves: the rest answers 0, 0 and ErrUTF, whatever the slots hold. -/
def Frm (a : Act) : Prop := a.defers = [] ∧ a.tmps.size = 45

theorem none_end {w' : World} {R : Ending → World → Prop} {t : Array Value} (ht : t.size = 45)
    (h : R (.returned (.tuple #[.int .i32 0, .int .i64 0, .int .i64 5])) w') :
    bodyPost Try.prog Try.f84 R Exit.ret { tmps := ((t.setIfInBounds 2 (Value.int IntKind.i32 0)).setIfInBounds 3 (Value.int IntKind.i64 0)).setIfInBounds 4 (Value.int IntKind.i64 5), defers := [] } w' := by
  refine bodyPost_ret (v := .tuple #[.int .i32 0, .int .i64 0, .int .i64 5]) ?_ rfl h
  simp [results, Try.results84, Array.getD, ht]

theorem mark_no {u c : Int} (e : u = c) (h0 : 0 ≤ c) (h1 : c ≤ 255) (h : 128 ≤ c ∧ c ≤ 191) : (bits BinOp.and IntKind.u8 u 192 != 128) = false := by
  subst e; rw [and192 u h0 h1]; simp; omega
theorem mark_yes {u c : Int} (e : u = c) (h0 : 0 ≤ c) (h1 : c ≤ 255) (h : ¬ (128 ≤ c ∧ c ≤ 191)) : (bits BinOp.and IntKind.u8 u 192 != 128) = true := by
  subst e; rw [and192 u h0 h1]; simp; omega

set_option maxHeartbeats 400000 in
theorem next_empty (s : ByteArray) (w : World) (h0 : ¬ 0 < s.size) :
    Calls Try.prog 84 #[.string s] w fun e w' => e = .returned (.tuple #[.int .i32 0, .int .i64 0, .int .i64 5]) ∧ w = w' := by
  go_enter Try.func84, Try.ntmps84
  go_wp2
  refine wp_scope_jumps 0 (fun a' w' => w' = w ∧ Frm a') (fun _ _ => 0) rfl ?_ ?_
  · go_wp2_with (go_at_call 103; refine (head_none s _ h0).mono ?_; rintro e w' ⟨rfl, rfl⟩)
    go_step3
    exact ⟨rfl, rfl, rfl, rfl⟩
  · rintro ⟨t, d⟩ w' ⟨rfl, rfl, ht⟩
    go_wp2
    simp only [Exit.jump]
    exact none_end ht ⟨rfl, rfl⟩


set_option maxHeartbeats 400000 in
theorem next_head (s : ByteArray) (w : World) (h0 : 0 < s.size) (h1 : s.size ≤ 9223372036854775807) (h : hdN (bt s 0) = 0 ∨ (s.size : Int) < hdN (bt s 0)) :
    Calls Try.prog 84 #[.string s] w fun e w' => e = .returned (.tuple #[.int .i32 0, .int .i64 0, .int .i64 5]) ∧ w = w' := by
  have hh := fun W => head_any s W h0 h1
  rcases h with h | h
  · rw [h] at hh
    have Hh := Lib.hid hh
    clear hh h
    go_enter Try.func84, Try.ntmps84
    go_wp2
    refine wp_scope_jumps 0 (fun a' w' => w' = w ∧ Frm a') (fun _ _ => 0) rfl ?_ ?_
    · go_wp2_with (go_at_call 103; refine (Hh.out _).mono ?_; rintro e w' ⟨rfl, rfl⟩)
      go_step3
      exact ⟨rfl, rfl, rfl, rfl⟩
    · rintro ⟨t, d⟩ w' ⟨rfl, rfl, ht⟩
      go_wp2
      simp only [Exit.jump]
      exact none_end ht ⟨rfl, rfl⟩
  · generalize hdN (bt s 0) = n at h hh
    have Hh := Lib.hid hh
    clear hh
    have hn : ((n : Int) == 0) = false := by simp; omega
    go_enter Try.func84, Try.ntmps84
    go_wp2
    refine wp_scope_jumps 0 (fun a' w' => w' = w ∧ Frm a') (fun _ _ => 0) rfl ?_ ?_
    · go_wp2_with (go_at_call 103; refine (Hh.out _).mono ?_; rintro e w' ⟨rfl, rfl⟩)
      go_step3
      exact ⟨rfl, rfl, rfl, rfl⟩
    · rintro ⟨t, d⟩ w' ⟨rfl, rfl, ht⟩
      go_wp2
      simp only [Exit.jump]
      exact none_end ht ⟨rfl, rfl⟩

/-- What the bytes at the places f, of which there are L, begin with: how many bytes; the number. -/
def v2 (f : Nat → Int) : Int := f 0 % 32 * 64 + f 1 % 64
def v3 (f : Nat → Int) : Int := (f 0 % 16 * 64 + f 1 % 64) * 64 + f 2 % 64
def v4 (f : Nat → Int) : Int := ((f 0 % 8 * 64 + f 1 % 64) * 64 + f 2 % 64) * 64 + f 3 % 64
abbrev cn (b : Int) : Prop := 128 ≤ b ∧ b ≤ 191

set_option maxHeartbeats 400000 in
theorem next_one (s : ByteArray) (w : World) (h0 : 0 < s.size) (h1 : s.size ≤ 9223372036854775807) (ha : bt s 0 ≤ 127) :
    Calls Try.prog 84 #[.string s] w fun e w' => e = .returned (.tuple #[.int .i32 (bt s 0), .int .i64 1, .int .i64 0]) ∧ w = w' := by
  have hh := fun W => head_any s W h0 h1
  have e1 : hdN (bt s 0) = 1 := by unfold hdN; repeat' split <;> omega
  have e2 : hdR (bt s 0) = bt s 0 := by unfold hdR; repeat' split <;> omega
  rw [e1, e2] at hh
  have hl := bt_lo s 0
  have hz := fun W => size_any (bt s 0) W
  have e3 : sizeI (bt s 0) = 1 := by unfold sizeI; rw [if_neg (by unfold mayB; simp; omega), if_pos ha]
  rw [e3] at hz
  generalize bt s 0 = a at *
  clear e1 e2 e3
  have Hh := Lib.hid hh
  have Hz := Lib.hid hz
  clear hh hz
  go_enter Try.func84, Try.ntmps84
  go_wp2
  refine wp_scope_jumps 0 (fun _ _ => False) (fun _ _ => 0) rfl ?_ ?_
  · go_wp2_with (go_at_call 103; refine (Hh.out _).mono ?_; rintro e w' ⟨rfl, rfl⟩)
    refine wp_loop_rounds 1 ?_; rw [rounds_succ]
    go_wp2_with (go_at_call 104; refine (Hz.out _).mono ?_; rintro e w' ⟨rfl, rfl⟩)
    simp only [Exit.jump]
    go_ret3
    exact ⟨rfl, rfl⟩
  · exact fun _ _ h => h.elim

set_option maxHeartbeats 400000 in
theorem next_2_no1 (s : ByteArray) (w : World) (h1 : s.size ≤ 9223372036854775807) (h2 : 2 ≤ s.size) (h3 : 192 ≤ bt s 0) (h4 : bt s 0 ≤ 223) (c1 : ¬ cn (bt s 1)) :
    Calls Try.prog 84 #[.string s] w fun e w' => e = .returned (.tuple #[.int .i32 0, .int .i64 0, .int .i64 5]) ∧ w = w' := by
  have hh := fun W => head_any s W (by omega) h1
  have e1 : hdN (bt s 0) = 2 := by unfold hdN; repeat' split <;> omega
  have e2 : hdR (bt s 0) = bt s 0 % 32 := by unfold hdR; repeat' split <;> omega
  rw [e1, e2] at hh
  have u1 : (s[1].toNat : Int) ≤ 255 := by have := s[1].toNat_lt; omega
  have t1 := mark_yes (bt_of (s := s) (i := 1) (by omega)) (bt_lo s 1) (bt_hi s 1) c1
  clear c1
  generalize bt s 0 = a at *
  clear e1 e2
  have Hh := Lib.hid hh
  clear hh
  go_enter Try.func84, Try.ntmps84
  go_wp2
  refine wp_scope_jumps 0 (fun a' w' => w' = w ∧ Frm a') (fun _ _ => 0) rfl ?_ ?_
  · go_wp2_with (go_at_call 103; refine (Hh.out _).mono ?_; rintro e w' ⟨rfl, rfl⟩)
    refine wp_loop_rounds 2 ?_; rw [rounds_succ]
    go_wp2
    go_step3
    exact ⟨rfl, rfl, rfl, rfl⟩
  · rintro ⟨t, d⟩ w' ⟨rfl, rfl, ht⟩
    go_wp2
    simp only [Exit.jump]
    exact none_end ht ⟨rfl, rfl⟩

set_option maxHeartbeats 400000 in
theorem next_2_ok (s : ByteArray) (w : World) (h1 : s.size ≤ 9223372036854775807) (h2 : 2 ≤ s.size) (h3 : 192 ≤ bt s 0) (h4 : bt s 0 ≤ 223) (c1 : cn (bt s 1)) (hz : sizeI (v2 (bt s)) = 2) :
    Calls Try.prog 84 #[.string s] w fun e w' => e = .returned (.tuple #[.int .i32 (v2 (bt s)), .int .i64 2, .int .i64 0]) ∧ w = w' := by
  have hh := fun W => head_any s W (by omega) h1
  have e1 : hdN (bt s 0) = 2 := by unfold hdN; repeat' split <;> omega
  have e2 : hdR (bt s 0) = bt s 0 % 32 := by unfold hdR; repeat' split <;> omega
  rw [e1, e2] at hh
  have u1 : (s[1].toNat : Int) ≤ 255 := by have := s[1].toNat_lt; omega
  have t1 := mark_no (bt_of (s := s) (i := 1) (by omega)) (bt_lo s 1) (bt_hi s 1) c1
  clear c1
  have hv : v2 (bt s) = bt s 0 % (32 : Int) * (64 : Int) + (s[1].toNat : Int) % (64 : Int) := by unfold v2; rw [← bt_of (s := s) (i := 1) (by omega)]
  have hsz := fun W => size_any (v2 (bt s)) W
  rw [hz, hv] at hsz
  rw [hv]
  clear hz hv
  generalize bt s 0 = a at *
  clear e1 e2
  have Hh := Lib.hid hh
  have Hz := Lib.hid hsz
  clear hh hsz
  go_enter Try.func84, Try.ntmps84
  go_wp2
  refine wp_scope_jumps 0 (fun _ _ => False) (fun _ _ => 0) rfl ?_ ?_
  · go_wp2_with (go_at_call 103; refine (Hh.out _).mono ?_; rintro e w' ⟨rfl, rfl⟩)
    refine wp_loop_rounds 2 ?_; rw [rounds_succ]
    go_wp2
    rw [rounds_succ]
    go_wp2_with (go_at_call 104; refine (Hz.out _).mono ?_; rintro e w' ⟨rfl, rfl⟩)
    simp only [Exit.jump]
    go_ret3
    exact ⟨rfl, rfl⟩
  · exact fun _ _ h => h.elim

set_option maxHeartbeats 400000 in
theorem next_2_size (s : ByteArray) (w : World) (h1 : s.size ≤ 9223372036854775807) (h2 : 2 ≤ s.size) (h3 : 192 ≤ bt s 0) (h4 : bt s 0 ≤ 223) (c1 : cn (bt s 1)) (hz : sizeI (v2 (bt s)) ≠ 2) :
    Calls Try.prog 84 #[.string s] w fun e w' => e = .returned (.tuple #[.int .i32 0, .int .i64 0, .int .i64 5]) ∧ w = w' := by
  have hh := fun W => head_any s W (by omega) h1
  have e1 : hdN (bt s 0) = 2 := by unfold hdN; repeat' split <;> omega
  have e2 : hdR (bt s 0) = bt s 0 % 32 := by unfold hdR; repeat' split <;> omega
  rw [e1, e2] at hh
  have u1 : (s[1].toNat : Int) ≤ 255 := by have := s[1].toNat_lt; omega
  have t1 := mark_no (bt_of (s := s) (i := 1) (by omega)) (bt_lo s 1) (bt_hi s 1) c1
  clear c1
  have hv : v2 (bt s) = bt s 0 % (32 : Int) * (64 : Int) + (s[1].toNat : Int) % (64 : Int) := by unfold v2; rw [← bt_of (s := s) (i := 1) (by omega)]
  have hsz := fun W => size_any (v2 (bt s)) W
  have hk : (sizeI (v2 (bt s)) != 2) = true := by simpa using hz
  generalize sizeI (v2 (bt s)) = z at *
  rw [hv] at hsz
  clear hz hv
  generalize bt s 0 = a at *
  clear e1 e2
  have Hh := Lib.hid hh
  have Hz := Lib.hid hsz
  clear hh hsz
  go_enter Try.func84, Try.ntmps84
  go_wp2
  refine wp_scope_jumps 0 (fun a' w' => w' = w ∧ Frm a') (fun _ _ => 0) rfl ?_ ?_
  · go_wp2_with (go_at_call 103; refine (Hh.out _).mono ?_; rintro e w' ⟨rfl, rfl⟩)
    refine wp_loop_rounds 2 ?_; rw [rounds_succ]
    go_wp2
    rw [rounds_succ]
    go_wp2_with (go_at_call 104; refine (Hz.out _).mono ?_; rintro e w' ⟨rfl, rfl⟩)
    go_step3
    exact ⟨rfl, rfl, rfl, rfl⟩
  · rintro ⟨t, d⟩ w' ⟨rfl, rfl, ht⟩
    go_wp2
    simp only [Exit.jump]
    exact none_end ht ⟨rfl, rfl⟩

set_option maxHeartbeats 400000 in
theorem next_3_no1 (s : ByteArray) (w : World) (h1 : s.size ≤ 9223372036854775807) (h2 : 3 ≤ s.size) (h3 : 224 ≤ bt s 0) (h4 : bt s 0 ≤ 239) (c1 : ¬ cn (bt s 1)) :
    Calls Try.prog 84 #[.string s] w fun e w' => e = .returned (.tuple #[.int .i32 0, .int .i64 0, .int .i64 5]) ∧ w = w' := by
  have hh := fun W => head_any s W (by omega) h1
  have e1 : hdN (bt s 0) = 3 := by unfold hdN; repeat' split <;> omega
  have e2 : hdR (bt s 0) = bt s 0 % 16 := by unfold hdR; repeat' split <;> omega
  rw [e1, e2] at hh
  have u1 : (s[1].toNat : Int) ≤ 255 := by have := s[1].toNat_lt; omega
  have u2 : (s[2].toNat : Int) ≤ 255 := by have := s[2].toNat_lt; omega
  have t1 := mark_yes (bt_of (s := s) (i := 1) (by omega)) (bt_lo s 1) (bt_hi s 1) c1
  clear c1
  generalize bt s 0 = a at *
  clear e1 e2
  have Hh := Lib.hid hh
  clear hh
  go_enter Try.func84, Try.ntmps84
  go_wp2
  refine wp_scope_jumps 0 (fun a' w' => w' = w ∧ Frm a') (fun _ _ => 0) rfl ?_ ?_
  · go_wp2_with (go_at_call 103; refine (Hh.out _).mono ?_; rintro e w' ⟨rfl, rfl⟩)
    refine wp_loop_rounds 3 ?_; rw [rounds_succ]
    go_wp2
    go_step3
    exact ⟨rfl, rfl, rfl, rfl⟩
  · rintro ⟨t, d⟩ w' ⟨rfl, rfl, ht⟩
    go_wp2
    simp only [Exit.jump]
    exact none_end ht ⟨rfl, rfl⟩

set_option maxHeartbeats 400000 in
theorem next_3_no2 (s : ByteArray) (w : World) (h1 : s.size ≤ 9223372036854775807) (h2 : 3 ≤ s.size) (h3 : 224 ≤ bt s 0) (h4 : bt s 0 ≤ 239) (c1 : cn (bt s 1)) (c2 : ¬ cn (bt s 2)) :
    Calls Try.prog 84 #[.string s] w fun e w' => e = .returned (.tuple #[.int .i32 0, .int .i64 0, .int .i64 5]) ∧ w = w' := by
  have hh := fun W => head_any s W (by omega) h1
  have e1 : hdN (bt s 0) = 3 := by unfold hdN; repeat' split <;> omega
  have e2 : hdR (bt s 0) = bt s 0 % 16 := by unfold hdR; repeat' split <;> omega
  rw [e1, e2] at hh
  have u1 : (s[1].toNat : Int) ≤ 255 := by have := s[1].toNat_lt; omega
  have u2 : (s[2].toNat : Int) ≤ 255 := by have := s[2].toNat_lt; omega
  have t1 := mark_no (bt_of (s := s) (i := 1) (by omega)) (bt_lo s 1) (bt_hi s 1) c1
  have t2 := mark_yes (bt_of (s := s) (i := 2) (by omega)) (bt_lo s 2) (bt_hi s 2) c2
  clear c1 c2
  generalize bt s 0 = a at *
  clear e1 e2
  have Hh := Lib.hid hh
  clear hh
  go_enter Try.func84, Try.ntmps84
  go_wp2
  refine wp_scope_jumps 0 (fun a' w' => w' = w ∧ Frm a') (fun _ _ => 0) rfl ?_ ?_
  · go_wp2_with (go_at_call 103; refine (Hh.out _).mono ?_; rintro e w' ⟨rfl, rfl⟩)
    refine wp_loop_rounds 3 ?_; rw [rounds_succ]
    go_wp2
    rw [rounds_succ]
    go_wp2
    go_step3
    exact ⟨rfl, rfl, rfl, rfl⟩
  · rintro ⟨t, d⟩ w' ⟨rfl, rfl, ht⟩
    go_wp2
    simp only [Exit.jump]
    exact none_end ht ⟨rfl, rfl⟩

set_option maxHeartbeats 400000 in
theorem next_3_ok (s : ByteArray) (w : World) (h1 : s.size ≤ 9223372036854775807) (h2 : 3 ≤ s.size) (h3 : 224 ≤ bt s 0) (h4 : bt s 0 ≤ 239) (c1 : cn (bt s 1)) (c2 : cn (bt s 2)) (hz : sizeI (v3 (bt s)) = 3) :
    Calls Try.prog 84 #[.string s] w fun e w' => e = .returned (.tuple #[.int .i32 (v3 (bt s)), .int .i64 3, .int .i64 0]) ∧ w = w' := by
  have hh := fun W => head_any s W (by omega) h1
  have e1 : hdN (bt s 0) = 3 := by unfold hdN; repeat' split <;> omega
  have e2 : hdR (bt s 0) = bt s 0 % 16 := by unfold hdR; repeat' split <;> omega
  rw [e1, e2] at hh
  have u1 : (s[1].toNat : Int) ≤ 255 := by have := s[1].toNat_lt; omega
  have u2 : (s[2].toNat : Int) ≤ 255 := by have := s[2].toNat_lt; omega
  have t1 := mark_no (bt_of (s := s) (i := 1) (by omega)) (bt_lo s 1) (bt_hi s 1) c1
  have t2 := mark_no (bt_of (s := s) (i := 2) (by omega)) (bt_lo s 2) (bt_hi s 2) c2
  clear c1 c2
  have hv : v3 (bt s) = (bt s 0 % (16 : Int) * (64 : Int) + (s[1].toNat : Int) % (64 : Int)) * (64 : Int) + (s[2].toNat : Int) % (64 : Int) := by unfold v3; rw [← bt_of (s := s) (i := 1) (by omega), ← bt_of (s := s) (i := 2) (by omega)]
  have hsz := fun W => size_any (v3 (bt s)) W
  rw [hz, hv] at hsz
  rw [hv]
  clear hz hv
  generalize bt s 0 = a at *
  clear e1 e2
  have Hh := Lib.hid hh
  have Hz := Lib.hid hsz
  clear hh hsz
  go_enter Try.func84, Try.ntmps84
  go_wp2
  refine wp_scope_jumps 0 (fun _ _ => False) (fun _ _ => 0) rfl ?_ ?_
  · go_wp2_with (go_at_call 103; refine (Hh.out _).mono ?_; rintro e w' ⟨rfl, rfl⟩)
    refine wp_loop_rounds 3 ?_; rw [rounds_succ]
    go_wp2
    rw [rounds_succ]
    go_wp2_with (go_at_call 104; refine (Hz.out _).mono ?_; rintro e w' ⟨rfl, rfl⟩)
    rw [rounds_succ]
    go_wp2_with (go_at_call 104; refine (Hz.out _).mono ?_; rintro e w' ⟨rfl, rfl⟩)
    simp only [Exit.jump]
    go_ret3
    exact ⟨rfl, rfl⟩
  · exact fun _ _ h => h.elim

set_option maxHeartbeats 400000 in
theorem next_3_size (s : ByteArray) (w : World) (h1 : s.size ≤ 9223372036854775807) (h2 : 3 ≤ s.size) (h3 : 224 ≤ bt s 0) (h4 : bt s 0 ≤ 239) (c1 : cn (bt s 1)) (c2 : cn (bt s 2)) (hz : sizeI (v3 (bt s)) ≠ 3) :
    Calls Try.prog 84 #[.string s] w fun e w' => e = .returned (.tuple #[.int .i32 0, .int .i64 0, .int .i64 5]) ∧ w = w' := by
  have hh := fun W => head_any s W (by omega) h1
  have e1 : hdN (bt s 0) = 3 := by unfold hdN; repeat' split <;> omega
  have e2 : hdR (bt s 0) = bt s 0 % 16 := by unfold hdR; repeat' split <;> omega
  rw [e1, e2] at hh
  have u1 : (s[1].toNat : Int) ≤ 255 := by have := s[1].toNat_lt; omega
  have u2 : (s[2].toNat : Int) ≤ 255 := by have := s[2].toNat_lt; omega
  have t1 := mark_no (bt_of (s := s) (i := 1) (by omega)) (bt_lo s 1) (bt_hi s 1) c1
  have t2 := mark_no (bt_of (s := s) (i := 2) (by omega)) (bt_lo s 2) (bt_hi s 2) c2
  clear c1 c2
  have hv : v3 (bt s) = (bt s 0 % (16 : Int) * (64 : Int) + (s[1].toNat : Int) % (64 : Int)) * (64 : Int) + (s[2].toNat : Int) % (64 : Int) := by unfold v3; rw [← bt_of (s := s) (i := 1) (by omega), ← bt_of (s := s) (i := 2) (by omega)]
  have hsz := fun W => size_any (v3 (bt s)) W
  have hk : (sizeI (v3 (bt s)) != 3) = true := by simpa using hz
  generalize sizeI (v3 (bt s)) = z at *
  rw [hv] at hsz
  clear hz hv
  generalize bt s 0 = a at *
  clear e1 e2
  have Hh := Lib.hid hh
  have Hz := Lib.hid hsz
  clear hh hsz
  go_enter Try.func84, Try.ntmps84
  go_wp2
  refine wp_scope_jumps 0 (fun a' w' => w' = w ∧ Frm a') (fun _ _ => 0) rfl ?_ ?_
  · go_wp2_with (go_at_call 103; refine (Hh.out _).mono ?_; rintro e w' ⟨rfl, rfl⟩)
    refine wp_loop_rounds 3 ?_; rw [rounds_succ]
    go_wp2
    rw [rounds_succ]
    go_wp2_with (go_at_call 104; refine (Hz.out _).mono ?_; rintro e w' ⟨rfl, rfl⟩)
    rw [rounds_succ]
    go_wp2_with (go_at_call 104; refine (Hz.out _).mono ?_; rintro e w' ⟨rfl, rfl⟩)
    go_step3
    exact ⟨rfl, rfl, rfl, rfl⟩
  · rintro ⟨t, d⟩ w' ⟨rfl, rfl, ht⟩
    go_wp2
    simp only [Exit.jump]
    exact none_end ht ⟨rfl, rfl⟩

set_option maxHeartbeats 400000 in
theorem next_4_no1 (s : ByteArray) (w : World) (h1 : s.size ≤ 9223372036854775807) (h2 : 4 ≤ s.size) (h3 : 240 ≤ bt s 0) (h4 : bt s 0 ≤ 247) (c1 : ¬ cn (bt s 1)) :
    Calls Try.prog 84 #[.string s] w fun e w' => e = .returned (.tuple #[.int .i32 0, .int .i64 0, .int .i64 5]) ∧ w = w' := by
  have hh := fun W => head_any s W (by omega) h1
  have e1 : hdN (bt s 0) = 4 := by unfold hdN; repeat' split <;> omega
  have e2 : hdR (bt s 0) = bt s 0 % 8 := by unfold hdR; repeat' split <;> omega
  rw [e1, e2] at hh
  have u1 : (s[1].toNat : Int) ≤ 255 := by have := s[1].toNat_lt; omega
  have u2 : (s[2].toNat : Int) ≤ 255 := by have := s[2].toNat_lt; omega
  have u3 : (s[3].toNat : Int) ≤ 255 := by have := s[3].toNat_lt; omega
  have t1 := mark_yes (bt_of (s := s) (i := 1) (by omega)) (bt_lo s 1) (bt_hi s 1) c1
  clear c1
  generalize bt s 0 = a at *
  clear e1 e2
  have Hh := Lib.hid hh
  clear hh
  go_enter Try.func84, Try.ntmps84
  go_wp2
  refine wp_scope_jumps 0 (fun a' w' => w' = w ∧ Frm a') (fun _ _ => 0) rfl ?_ ?_
  · go_wp2_with (go_at_call 103; refine (Hh.out _).mono ?_; rintro e w' ⟨rfl, rfl⟩)
    refine wp_loop_rounds 4 ?_; rw [rounds_succ]
    go_wp2
    go_step3
    exact ⟨rfl, rfl, rfl, rfl⟩
  · rintro ⟨t, d⟩ w' ⟨rfl, rfl, ht⟩
    go_wp2
    simp only [Exit.jump]
    exact none_end ht ⟨rfl, rfl⟩

set_option maxHeartbeats 400000 in
theorem next_4_no2 (s : ByteArray) (w : World) (h1 : s.size ≤ 9223372036854775807) (h2 : 4 ≤ s.size) (h3 : 240 ≤ bt s 0) (h4 : bt s 0 ≤ 247) (c1 : cn (bt s 1)) (c2 : ¬ cn (bt s 2)) :
    Calls Try.prog 84 #[.string s] w fun e w' => e = .returned (.tuple #[.int .i32 0, .int .i64 0, .int .i64 5]) ∧ w = w' := by
  have hh := fun W => head_any s W (by omega) h1
  have e1 : hdN (bt s 0) = 4 := by unfold hdN; repeat' split <;> omega
  have e2 : hdR (bt s 0) = bt s 0 % 8 := by unfold hdR; repeat' split <;> omega
  rw [e1, e2] at hh
  have u1 : (s[1].toNat : Int) ≤ 255 := by have := s[1].toNat_lt; omega
  have u2 : (s[2].toNat : Int) ≤ 255 := by have := s[2].toNat_lt; omega
  have u3 : (s[3].toNat : Int) ≤ 255 := by have := s[3].toNat_lt; omega
  have t1 := mark_no (bt_of (s := s) (i := 1) (by omega)) (bt_lo s 1) (bt_hi s 1) c1
  have t2 := mark_yes (bt_of (s := s) (i := 2) (by omega)) (bt_lo s 2) (bt_hi s 2) c2
  clear c1 c2
  generalize bt s 0 = a at *
  clear e1 e2
  have Hh := Lib.hid hh
  clear hh
  go_enter Try.func84, Try.ntmps84
  go_wp2
  refine wp_scope_jumps 0 (fun a' w' => w' = w ∧ Frm a') (fun _ _ => 0) rfl ?_ ?_
  · go_wp2_with (go_at_call 103; refine (Hh.out _).mono ?_; rintro e w' ⟨rfl, rfl⟩)
    refine wp_loop_rounds 4 ?_; rw [rounds_succ]
    go_wp2
    rw [rounds_succ]
    go_wp2
    go_step3
    exact ⟨rfl, rfl, rfl, rfl⟩
  · rintro ⟨t, d⟩ w' ⟨rfl, rfl, ht⟩
    go_wp2
    simp only [Exit.jump]
    exact none_end ht ⟨rfl, rfl⟩

set_option maxHeartbeats 400000 in
theorem next_4_no3 (s : ByteArray) (w : World) (h1 : s.size ≤ 9223372036854775807) (h2 : 4 ≤ s.size) (h3 : 240 ≤ bt s 0) (h4 : bt s 0 ≤ 247) (c1 : cn (bt s 1)) (c2 : cn (bt s 2)) (c3 : ¬ cn (bt s 3)) :
    Calls Try.prog 84 #[.string s] w fun e w' => e = .returned (.tuple #[.int .i32 0, .int .i64 0, .int .i64 5]) ∧ w = w' := by
  have hh := fun W => head_any s W (by omega) h1
  have e1 : hdN (bt s 0) = 4 := by unfold hdN; repeat' split <;> omega
  have e2 : hdR (bt s 0) = bt s 0 % 8 := by unfold hdR; repeat' split <;> omega
  rw [e1, e2] at hh
  have u1 : (s[1].toNat : Int) ≤ 255 := by have := s[1].toNat_lt; omega
  have u2 : (s[2].toNat : Int) ≤ 255 := by have := s[2].toNat_lt; omega
  have u3 : (s[3].toNat : Int) ≤ 255 := by have := s[3].toNat_lt; omega
  have t1 := mark_no (bt_of (s := s) (i := 1) (by omega)) (bt_lo s 1) (bt_hi s 1) c1
  have t2 := mark_no (bt_of (s := s) (i := 2) (by omega)) (bt_lo s 2) (bt_hi s 2) c2
  have t3 := mark_yes (bt_of (s := s) (i := 3) (by omega)) (bt_lo s 3) (bt_hi s 3) c3
  clear c1 c2 c3
  generalize bt s 0 = a at *
  clear e1 e2
  have Hh := Lib.hid hh
  clear hh
  go_enter Try.func84, Try.ntmps84
  go_wp2
  refine wp_scope_jumps 0 (fun a' w' => w' = w ∧ Frm a') (fun _ _ => 0) rfl ?_ ?_
  · go_wp2_with (go_at_call 103; refine (Hh.out _).mono ?_; rintro e w' ⟨rfl, rfl⟩)
    refine wp_loop_rounds 4 ?_; rw [rounds_succ]
    go_wp2
    rw [rounds_succ]
    go_wp2
    rw [rounds_succ]
    go_wp2
    go_step3
    exact ⟨rfl, rfl, rfl, rfl⟩
  · rintro ⟨t, d⟩ w' ⟨rfl, rfl, ht⟩
    go_wp2
    simp only [Exit.jump]
    exact none_end ht ⟨rfl, rfl⟩

set_option maxHeartbeats 400000 in
theorem next_4_ok (s : ByteArray) (w : World) (h1 : s.size ≤ 9223372036854775807) (h2 : 4 ≤ s.size) (h3 : 240 ≤ bt s 0) (h4 : bt s 0 ≤ 247) (c1 : cn (bt s 1)) (c2 : cn (bt s 2)) (c3 : cn (bt s 3)) (hz : sizeI (v4 (bt s)) = 4) :
    Calls Try.prog 84 #[.string s] w fun e w' => e = .returned (.tuple #[.int .i32 (v4 (bt s)), .int .i64 4, .int .i64 0]) ∧ w = w' := by
  have hh := fun W => head_any s W (by omega) h1
  have e1 : hdN (bt s 0) = 4 := by unfold hdN; repeat' split <;> omega
  have e2 : hdR (bt s 0) = bt s 0 % 8 := by unfold hdR; repeat' split <;> omega
  rw [e1, e2] at hh
  have u1 : (s[1].toNat : Int) ≤ 255 := by have := s[1].toNat_lt; omega
  have u2 : (s[2].toNat : Int) ≤ 255 := by have := s[2].toNat_lt; omega
  have u3 : (s[3].toNat : Int) ≤ 255 := by have := s[3].toNat_lt; omega
  have t1 := mark_no (bt_of (s := s) (i := 1) (by omega)) (bt_lo s 1) (bt_hi s 1) c1
  have t2 := mark_no (bt_of (s := s) (i := 2) (by omega)) (bt_lo s 2) (bt_hi s 2) c2
  have t3 := mark_no (bt_of (s := s) (i := 3) (by omega)) (bt_lo s 3) (bt_hi s 3) c3
  clear c1 c2 c3
  have hv : v4 (bt s) = ((bt s 0 % (8 : Int) * (64 : Int) + (s[1].toNat : Int) % (64 : Int)) * (64 : Int) + (s[2].toNat : Int) % (64 : Int)) * (64 : Int) + (s[3].toNat : Int) % (64 : Int) := by unfold v4; rw [← bt_of (s := s) (i := 1) (by omega), ← bt_of (s := s) (i := 2) (by omega), ← bt_of (s := s) (i := 3) (by omega)]
  have hsz := fun W => size_any (v4 (bt s)) W
  rw [hz, hv] at hsz
  rw [hv]
  clear hz hv
  generalize bt s 0 = a at *
  clear e1 e2
  have Hh := Lib.hid hh
  have Hz := Lib.hid hsz
  clear hh hsz
  go_enter Try.func84, Try.ntmps84
  go_wp2
  refine wp_scope_jumps 0 (fun _ _ => False) (fun _ _ => 0) rfl ?_ ?_
  · go_wp2_with (go_at_call 103; refine (Hh.out _).mono ?_; rintro e w' ⟨rfl, rfl⟩)
    refine wp_loop_rounds 4 ?_; rw [rounds_succ]
    go_wp2
    rw [rounds_succ]
    go_wp2_with (go_at_call 104; refine (Hz.out _).mono ?_; rintro e w' ⟨rfl, rfl⟩)
    rw [rounds_succ]
    go_wp2_with (go_at_call 104; refine (Hz.out _).mono ?_; rintro e w' ⟨rfl, rfl⟩)
    rw [rounds_succ]
    go_wp2_with (go_at_call 104; refine (Hz.out _).mono ?_; rintro e w' ⟨rfl, rfl⟩)
    simp only [Exit.jump]
    go_ret3
    exact ⟨rfl, rfl⟩
  · exact fun _ _ h => h.elim

set_option maxHeartbeats 400000 in
theorem next_4_size (s : ByteArray) (w : World) (h1 : s.size ≤ 9223372036854775807) (h2 : 4 ≤ s.size) (h3 : 240 ≤ bt s 0) (h4 : bt s 0 ≤ 247) (c1 : cn (bt s 1)) (c2 : cn (bt s 2)) (c3 : cn (bt s 3)) (hz : sizeI (v4 (bt s)) ≠ 4) :
    Calls Try.prog 84 #[.string s] w fun e w' => e = .returned (.tuple #[.int .i32 0, .int .i64 0, .int .i64 5]) ∧ w = w' := by
  have hh := fun W => head_any s W (by omega) h1
  have e1 : hdN (bt s 0) = 4 := by unfold hdN; repeat' split <;> omega
  have e2 : hdR (bt s 0) = bt s 0 % 8 := by unfold hdR; repeat' split <;> omega
  rw [e1, e2] at hh
  have u1 : (s[1].toNat : Int) ≤ 255 := by have := s[1].toNat_lt; omega
  have u2 : (s[2].toNat : Int) ≤ 255 := by have := s[2].toNat_lt; omega
  have u3 : (s[3].toNat : Int) ≤ 255 := by have := s[3].toNat_lt; omega
  have t1 := mark_no (bt_of (s := s) (i := 1) (by omega)) (bt_lo s 1) (bt_hi s 1) c1
  have t2 := mark_no (bt_of (s := s) (i := 2) (by omega)) (bt_lo s 2) (bt_hi s 2) c2
  have t3 := mark_no (bt_of (s := s) (i := 3) (by omega)) (bt_lo s 3) (bt_hi s 3) c3
  clear c1 c2 c3
  have hv : v4 (bt s) = ((bt s 0 % (8 : Int) * (64 : Int) + (s[1].toNat : Int) % (64 : Int)) * (64 : Int) + (s[2].toNat : Int) % (64 : Int)) * (64 : Int) + (s[3].toNat : Int) % (64 : Int) := by unfold v4; rw [← bt_of (s := s) (i := 1) (by omega), ← bt_of (s := s) (i := 2) (by omega), ← bt_of (s := s) (i := 3) (by omega)]
  have hsz := fun W => size_any (v4 (bt s)) W
  have hk : (sizeI (v4 (bt s)) != 4) = true := by simpa using hz
  generalize sizeI (v4 (bt s)) = z at *
  rw [hv] at hsz
  clear hz hv
  generalize bt s 0 = a at *
  clear e1 e2
  have Hh := Lib.hid hh
  have Hz := Lib.hid hsz
  clear hh hsz
  go_enter Try.func84, Try.ntmps84
  go_wp2
  refine wp_scope_jumps 0 (fun a' w' => w' = w ∧ Frm a') (fun _ _ => 0) rfl ?_ ?_
  · go_wp2_with (go_at_call 103; refine (Hh.out _).mono ?_; rintro e w' ⟨rfl, rfl⟩)
    refine wp_loop_rounds 4 ?_; rw [rounds_succ]
    go_wp2
    rw [rounds_succ]
    go_wp2_with (go_at_call 104; refine (Hz.out _).mono ?_; rintro e w' ⟨rfl, rfl⟩)
    rw [rounds_succ]
    go_wp2_with (go_at_call 104; refine (Hz.out _).mono ?_; rintro e w' ⟨rfl, rfl⟩)
    rw [rounds_succ]
    go_wp2_with (go_at_call 104; refine (Hz.out _).mono ?_; rintro e w' ⟨rfl, rfl⟩)
    go_step3
    exact ⟨rfl, rfl, rfl, rfl⟩
  · rintro ⟨t, d⟩ w' ⟨rfl, rfl, ht⟩
    go_wp2
    simp only [Exit.jump]
    exact none_end ht ⟨rfl, rfl⟩

/-- What a text begins with, by its bytes f, of which there are L: how many bytes the rune has (0: it begins with none), the rune, the error. -/
def nxN (f : Nat → Int) (L : Nat) : Int :=
  if L = 0 then 0 else if f 0 ≤ 127 then 1 else if f 0 ≤ 191 then 0
  else if f 0 ≤ 223 then (if 2 ≤ L ∧ cn (f 1) ∧ sizeI (v2 f) = 2 then 2 else 0)
  else if f 0 ≤ 239 then (if 3 ≤ L ∧ cn (f 1) ∧ cn (f 2) ∧ sizeI (v3 f) = 3 then 3 else 0)
  else if f 0 ≤ 247 then (if 4 ≤ L ∧ cn (f 1) ∧ cn (f 2) ∧ cn (f 3) ∧ sizeI (v4 f) = 4 then 4 else 0) else 0
def nxR (f : Nat → Int) (L : Nat) : Int := if nxN f L = 1 then f 0 else if nxN f L = 2 then v2 f else if nxN f L = 3 then v3 f else if nxN f L = 4 then v4 f else 0
def nxE (n : Int) : Int := if n = 0 then 5 else 0

theorem nx_is {f : Nat → Int} {L : Nat} {n r e : Int} (h : nxN f L = n) (hr : nxR f L = r) (he : nxE n = e) {x : Ending} {w w' : World}
    (hx : x = .returned (.tuple #[.int .i32 r, .int .i64 n, .int .i64 e]) ∧ w = w') :
    x = .returned (.tuple #[.int .i32 (nxR f L), .int .i64 (nxN f L), .int .i64 (nxE (nxN f L))]) ∧ w = w' := by
  rw [h, hr, he]; exact hx

theorem nx_zero {f : Nat → Int} {L : Nat} (h : nxN f L = 0) {x : Ending} {w w' : World}
    (hx : x = .returned (.tuple #[.int .i32 0, .int .i64 0, .int .i64 5]) ∧ w = w') :
    x = .returned (.tuple #[.int .i32 (nxR f L), .int .i64 (nxN f L), .int .i64 (nxE (nxN f L))]) ∧ w = w' :=
  nx_is h (by unfold nxR; rw [h]; rfl) rfl hx

/-- THE CONTRACT of utf.Next. -/
theorem next_any_utf (s : ByteArray) (w : World) (h1 : s.size ≤ 9223372036854775807) :
    Calls Try.prog 84 #[.string s] w fun e w' => e = .returned (.tuple #[.int .i32 (nxR (bt s) s.size), .int .i64 (nxN (bt s) s.size), .int .i64 (nxE (nxN (bt s) s.size))]) ∧ w = w' := by
  by_cases h0 : 0 < s.size
  rotate_left
  · exact (next_empty s w h0).mono fun _ _ hx => nx_zero (by unfold nxN; rw [if_pos (by omega)]) hx
  have hL : ¬ s.size = 0 := by omega
  by_cases a1 : bt s 0 ≤ 127
  · have hn : nxN (bt s) s.size = 1 := by unfold nxN; rw [if_neg hL, if_pos a1]
    exact (next_one s w h0 h1 a1).mono fun _ _ hx => nx_is hn (by unfold nxR; rw [if_pos hn]) rfl hx
  by_cases a2 : bt s 0 ≤ 191
  · have hn : nxN (bt s) s.size = 0 := by unfold nxN; rw [if_neg hL, if_neg a1, if_pos a2]
    exact (next_head s w h0 h1 (.inl (by unfold hdN; rw [if_neg a1, if_pos a2]))).mono fun _ _ hx => nx_zero hn hx
  by_cases a3 : bt s 0 ≤ 223
  · by_cases hl : 2 ≤ s.size
    rotate_left
    · exact (next_head s w h0 h1 (.inr (by unfold hdN; rw [if_neg a1, if_neg a2, if_pos a3]; omega))).mono fun _ _ hx => nx_zero (by unfold nxN; rw [if_neg hL, if_neg a1, if_neg a2, if_pos a3, if_neg (fun h => hl h.1)]) hx
    by_cases c1 : cn (bt s 1)
    rotate_left
    · exact (next_2_no1 s w h1 hl (by omega) a3 c1).mono fun _ _ hx => nx_zero (by unfold nxN; rw [if_neg hL, if_neg a1, if_neg a2, if_pos a3, if_neg (fun h => c1 h.2.1)]) hx
    by_cases hz : sizeI (v2 (bt s)) = 2
    rotate_left
    · exact (next_2_size s w h1 hl (by omega) a3 c1 hz).mono fun _ _ hx => nx_zero (by unfold nxN; rw [if_neg hL, if_neg a1, if_neg a2, if_pos a3, if_neg (fun h => hz h.2.2)]) hx
    have hn : nxN (bt s) s.size = 2 := by unfold nxN; rw [if_neg hL, if_neg a1, if_neg a2, if_pos a3, if_pos ⟨hl, c1, hz⟩]
    exact (next_2_ok s w h1 hl (by omega) a3 c1 hz).mono fun _ _ hx => nx_is hn (by unfold nxR; rw [hn]; rfl) rfl hx
  by_cases a4 : bt s 0 ≤ 239
  · by_cases hl : 3 ≤ s.size
    rotate_left
    · exact (next_head s w h0 h1 (.inr (by unfold hdN; rw [if_neg a1, if_neg a2, if_neg a3, if_pos a4]; omega))).mono fun _ _ hx => nx_zero (by unfold nxN; rw [if_neg hL, if_neg a1, if_neg a2, if_neg a3, if_pos a4, if_neg (fun h => hl h.1)]) hx
    by_cases c1 : cn (bt s 1)
    rotate_left
    · exact (next_3_no1 s w h1 hl (by omega) a4 c1).mono fun _ _ hx => nx_zero (by unfold nxN; rw [if_neg hL, if_neg a1, if_neg a2, if_neg a3, if_pos a4, if_neg (fun h => c1 h.2.1)]) hx
    by_cases c2 : cn (bt s 2)
    rotate_left
    · exact (next_3_no2 s w h1 hl (by omega) a4 c1 c2).mono fun _ _ hx => nx_zero (by unfold nxN; rw [if_neg hL, if_neg a1, if_neg a2, if_neg a3, if_pos a4, if_neg (fun h => c2 h.2.2.1)]) hx
    by_cases hz : sizeI (v3 (bt s)) = 3
    rotate_left
    · exact (next_3_size s w h1 hl (by omega) a4 c1 c2 hz).mono fun _ _ hx => nx_zero (by unfold nxN; rw [if_neg hL, if_neg a1, if_neg a2, if_neg a3, if_pos a4, if_neg (fun h => hz h.2.2.2)]) hx
    have hn : nxN (bt s) s.size = 3 := by unfold nxN; rw [if_neg hL, if_neg a1, if_neg a2, if_neg a3, if_pos a4, if_pos ⟨hl, c1, c2, hz⟩]
    exact (next_3_ok s w h1 hl (by omega) a4 c1 c2 hz).mono fun _ _ hx => nx_is hn (by unfold nxR; rw [hn]; rfl) rfl hx
  by_cases a5 : bt s 0 ≤ 247
  rotate_left
  · exact (next_head s w h0 h1 (.inl (by unfold hdN; rw [if_neg a1, if_neg a2, if_neg a3, if_neg a4, if_neg a5]))).mono fun _ _ hx => nx_zero (by unfold nxN; rw [if_neg hL, if_neg a1, if_neg a2, if_neg a3, if_neg a4, if_neg a5]) hx
  by_cases hl : 4 ≤ s.size
  rotate_left
  · exact (next_head s w h0 h1 (.inr (by unfold hdN; rw [if_neg a1, if_neg a2, if_neg a3, if_neg a4, if_pos a5]; omega))).mono fun _ _ hx => nx_zero (by unfold nxN; rw [if_neg hL, if_neg a1, if_neg a2, if_neg a3, if_neg a4, if_pos a5, if_neg (fun h => hl h.1)]) hx
  by_cases c1 : cn (bt s 1)
  rotate_left
  · exact (next_4_no1 s w h1 hl (by omega) a5 c1).mono fun _ _ hx => nx_zero (by unfold nxN; rw [if_neg hL, if_neg a1, if_neg a2, if_neg a3, if_neg a4, if_pos a5, if_neg (fun h => c1 h.2.1)]) hx
  by_cases c2 : cn (bt s 2)
  rotate_left
  · exact (next_4_no2 s w h1 hl (by omega) a5 c1 c2).mono fun _ _ hx => nx_zero (by unfold nxN; rw [if_neg hL, if_neg a1, if_neg a2, if_neg a3, if_neg a4, if_pos a5, if_neg (fun h => c2 h.2.2.1)]) hx
  by_cases c3 : cn (bt s 3)
  rotate_left
  · exact (next_4_no3 s w h1 hl (by omega) a5 c1 c2 c3).mono fun _ _ hx => nx_zero (by unfold nxN; rw [if_neg hL, if_neg a1, if_neg a2, if_neg a3, if_neg a4, if_pos a5, if_neg (fun h => c3 h.2.2.2.1)]) hx
  by_cases hz : sizeI (v4 (bt s)) = 4
  rotate_left
  · exact (next_4_size s w h1 hl (by omega) a5 c1 c2 c3 hz).mono fun _ _ hx => nx_zero (by unfold nxN; rw [if_neg hL, if_neg a1, if_neg a2, if_neg a3, if_neg a4, if_pos a5, if_neg (fun h => hz h.2.2.2.2)]) hx
  have hn : nxN (bt s) s.size = 4 := by unfold nxN; rw [if_neg hL, if_neg a1, if_neg a2, if_neg a3, if_neg a4, if_pos a5, if_pos ⟨hl, c1, c2, c3, hz⟩]
  exact (next_4_ok s w h1 hl (by omega) a5 c1 c2 c3 hz).mono fun _ _ hx => nx_is hn (by unfold nxR; rw [hn]; rfl) rfl hx

end Go.Proofs.Ytlhbnmaalhainaa.Utf

namespace Go.Proofs.Ytlhbnmaalhainaa.Utf
open Go.RowKit
set_option linter.unusedVariables false

/-- A rune's bytes, as numbers. -/
def putI (r : Int) : List Int :=
  if r ≤ 127 then [r] else if r ≤ 2047 then [192 + r / 64, 128 + r % 64]
  else if r ≤ 65535 then [224 + r / 4096, 128 + r / 64 % 64, 128 + r % 64]
  else [240 + r / 262144, 128 + r / 4096 % 64, 128 + r / 64 % 64, 128 + r % 64]

theorem ret_put {w : World} {n : Nat} {cs : Array Value} {l : List Int} (hl : l.length = n) (hc : (l.map (Value.int .u8)).toArray = cs) {w' : World} (hw : w.alloc (.cells cs 5) = w') :
    Ending.returned (.slice (some ⟨w.heap.size, 0, none⟩) n n) = .returned (.slice (some ⟨w.heap.size, 0, none⟩) l.length l.length) ∧ w.alloc (.cells (l.map (Value.int .u8)).toArray 5) = w' := by
  rw [hl, hc]; exact ⟨rfl, hw⟩

set_option maxHeartbeats 400000 in
theorem put_any (r : Int) (w : World) (hm : mayB r = true) :
    Calls Try.prog 106 #[.int .i32 r] w fun e w' => e = .returned (.slice (some ⟨w.heap.size, 0, none⟩) (putI r).length (putI r).length) ∧ w.alloc (.cells ((putI r).map (Value.int .u8)).toArray 5) = w' := by
  have h : 0 ≤ r ∧ r ≤ 1114111 := by unfold mayB at hm; simp at hm; omega
  obtain ⟨h0, h1⟩ := h
  clear hm
  by_cases a1 : r ≤ 127
  · have e : putI r = [r] := by unfold putI; rw [if_pos a1]
    rw [e]; clear e
    go_enter Try.func106, Try.ntmps106
    go_wp2
    go_ret
    exact ⟨rfl, rfl⟩
  by_cases a2 : r ≤ 2047
  · have e : putI r = [192 + r / 64, 128 + r % 64] := by unfold putI; rw [if_neg a1, if_pos a2]
    rw [e]; clear e
    go_enter Try.func106, Try.ntmps106
    go_wp2
    go_ret
    exact ⟨rfl, rfl⟩
  by_cases a3 : r ≤ 65535
  · have e : putI r = [224 + r / 4096, 128 + r / 64 % 64, 128 + r % 64] := by unfold putI; rw [if_neg a1, if_neg a2, if_pos a3]
    rw [e]; clear e
    go_enter Try.func106, Try.ntmps106
    go_wp2
    go_ret
    exact ⟨rfl, rfl⟩
  · have e : putI r = [240 + r / 262144, 128 + r / 4096 % 64, 128 + r / 64 % 64, 128 + r % 64] := by unfold putI; rw [if_neg a1, if_neg a2, if_neg a3]
    rw [e]; clear e
    go_enter Try.func106, Try.ntmps106
    go_wp2
    go_ret
    exact ⟨rfl, rfl⟩
end Go.Proofs.Ytlhbnmaalhainaa.Utf

namespace Go.Proofs.Ytlhbnmaalhainaa.Utf
open Go.RowKit
set_option linter.unusedVariables false

/-- The text of bytes that are given as numbers. -/
def mkS (l : List Int) : ByteArray := l.foldl (fun r n => r.push (UInt8.ofNat n.toNat)) ByteArray.empty

theorem conv_of (W : World) (a : Addr) (cap : Nat) (l : List Int) (h : ∀ j v, (l.map (Value.int .u8))[j]? = some v → W.cell? (a.add j) = some v) :
    (convert 33 9 (.slice (some a) l.length cap)).run Try.prog W = .ok (.string (mkS l)) W := by
  rw [run_convert_bytes_string (P := Try.prog) W 33 9 5 (some a) _ _ Try.underlying33 Try.underlying5 Try.underlying9]
  refine run_bytesToString W a l.length cap l ?_
  have := run_loadCells_list (P := Try.prog) (w := W) a (l.map (Value.int .u8)) h
  simpa using this

theorem conv_new_drew (l : List Int) (W : World) :
    (convert 33 9 (.slice (some ⟨W.heap.size, 0, none⟩) l.length l.length)).run Try.prog (W.alloc (.cells (l.map (Value.int .u8)).toArray 5)).drew =
      .ok (.string (mkS l)) (W.alloc (.cells (l.map (Value.int .u8)).toArray 5)).drew := by
  refine conv_of _ _ _ l fun j v hj => ?_
  rw [show (⟨W.heap.size, 0, none⟩ : Addr).add j = ⟨W.heap.size, j, none⟩ from by unfold Addr.add; by_cases h : j = 0 <;> simp [h]]
  show (W.alloc _).cell? _ = _
  rw [World.cell?_alloc_at _ _ _ _ rfl]
  simpa using hj

theorem mkS_data (l : List Int) : (mkS l).data.toList = l.map (fun n => UInt8.ofNat n.toNat) := by
  have key : ∀ (l : List Int) (b : ByteArray), (l.foldl (fun r n => r.push (UInt8.ofNat n.toNat)) b).data.toList = b.data.toList ++ l.map (fun n => UInt8.ofNat n.toNat) := by
    intro l
    induction l with
    | nil => intro b; simp
    | cons x t ih => intro b; rw [List.foldl_cons, ih]; simp [ByteArray.push]
  have := key l ByteArray.empty
  simpa [mkS] using this
theorem mkS_size (l : List Int) : (mkS l).size = l.length := by
  have h : (mkS l).size = (mkS l).data.toList.length := by simp
  rw [h, mkS_data]; simp
theorem bt_mkS (l : List Int) (hl : ∀ x ∈ l, 0 ≤ x ∧ x ≤ 255) (i : Nat) (hi : i < l.length) : bt (mkS l) i = l[i] := by
  have hd : i < (mkS l).data.size := by have := mkS_size l; show i < (mkS l).size; omega
  have h1 : (mkS l).data.toList[i]? = some (UInt8.ofNat l[i].toNat) := by rw [mkS_data]; simp [hi]
  have h2 : (mkS l).data.getD i 0 = UInt8.ofNat l[i].toNat := by
    rw [Array.getD_eq_getD_getElem?, ← Array.getElem?_toList, h1]; rfl
  have := hl l[i] (List.getElem_mem hi)
  unfold bt
  rw [h2, UInt8.toNat_ofNat']
  omega
theorem ba_ext {a b : ByteArray} (hs : a.size = b.size) (h : ∀ i, i < a.size → bt a i = bt b i) : a = b := by
  apply ByteArray.ext
  apply Array.ext
  · exact hs
  · intro i hi hj
    have := h i hi
    unfold bt at this
    have e1 : a.data.getD i 0 = a.data[i] := by rw [Array.getD_eq_getD_getElem?, Array.getElem?_eq_getElem hi]; rfl
    have e2 : b.data.getD i 0 = b.data[i] := by rw [Array.getD_eq_getD_getElem?, Array.getElem?_eq_getElem hj]; rfl
    rw [e1, e2] at this
    exact UInt8.toNat_inj.1 (by omega)
theorem eqB_true {a b : ByteArray} (h : a = b) : (a.toList == b.toList) = true := by rw [h]; simp
theorem toList_inj {a b : ByteArray} (h : a.toList = b.toList) : a = b := by
  have : ∀ x : ByteArray, x.toList = x.data.toList := fun x => ByteArray.toList_eq x
  rw [this, this] at h
  exact ByteArray.ext (Array.toList_inj.1 h)
theorem eqB_false {a b : ByteArray} (h : a ≠ b) : (a.toList == b.toList) = false := by
  rw [beq_eq_false_iff_ne]; exact fun e => h (toList_inj e)
theorem bt_extract (s : ByteArray) (a e i : Nat) (he : e ≤ s.size) (hi : a + i < e) : bt (s.extract a e) i = bt s (a + i) := by
  have hd : (s.extract a e).data = s.data.extract a e := by simp
  have hs : s.data.size = s.size := rfl
  unfold bt
  rw [hd, Array.getD_eq_getD_getElem?, Array.getD_eq_getD_getElem?, Array.getElem?_extract]
  rw [if_pos (by omega)]
theorem size_extract (s : ByteArray) (n : Nat) (hn : n ≤ s.size) : (s.extract 0 n).size = n := by simp; omega

theorem putI_len {r : Int} (hm : mayB r = true) : ((putI r).length : Int) = sizeI r := by
  have h : ¬ mayB r = false := by rw [hm]; simp
  by_cases a1 : r ≤ 127
  · unfold sizeI putI; rw [if_neg h, if_pos a1, if_pos a1]; rfl
  by_cases a2 : r ≤ 2047
  · unfold sizeI putI; rw [if_neg h, if_neg a1, if_neg a1, if_pos a2, if_pos a2]; rfl
  by_cases a3 : r ≤ 65535
  · unfold sizeI putI; rw [if_neg h, if_neg a1, if_neg a1, if_neg a2, if_neg a2, if_pos a3, if_pos a3]; rfl
  · unfold sizeI putI; rw [if_neg h, if_neg a1, if_neg a1, if_neg a2, if_neg a2, if_neg a3, if_neg a3]; rfl
theorem putI_range {r : Int} (hm : mayB r = true) : ∀ x ∈ putI r, 0 ≤ x ∧ x ≤ 255 := by
  have h : 0 ≤ r ∧ r ≤ 1114111 := by unfold mayB at hm; simp at hm; omega
  unfold putI
  repeat' split
  all_goals simp only [List.mem_cons, List.not_mem_nil, or_false, forall_eq_or_imp, forall_eq]
  all_goals omega

/-- What the document reckons of the first n bytes. -/
def q2 (f : Nat → Int) : Int := 64 * (f 0 % 32) + f 1 % 64
def q3 (f : Nat → Int) : Int := 64 * (64 * (f 0 % 16) + f 1 % 64) + f 2 % 64
def q4 (f : Nat → Int) : Int := 64 * (64 * (64 * (f 0 % 8) + f 1 % 64) + f 2 % 64) + f 3 % 64
theorem q2_eq (f : Nat → Int) : q2 f = v2 f := by unfold q2 v2; omega
theorem q3_eq (f : Nat → Int) : q3 f = v3 f := by unfold q3 v3; omega
theorem q4_eq (f : Nat → Int) : q4 f = v4 f := by unfold q4 v4; omega

theorem mk_eq_iff (s : ByteArray) (n : Nat) (hn : n ≤ s.size) (l : List Int) (hl : ∀ x ∈ l, 0 ≤ x ∧ x ≤ 255) :
    mkS l = s.extract 0 n ↔ l.length = n ∧ ∀ i (h : i < l.length), l[i] = bt s i := by
  constructor
  · intro h
    have hz : l.length = n := by rw [← mkS_size, h, size_extract s n hn]
    refine ⟨hz, fun i hi => ?_⟩
    rw [← bt_mkS l hl i hi, h, bt_extract s 0 n i hn (by omega), Nat.zero_add]
  · rintro ⟨hz, h⟩
    refine ba_ext (by rw [mkS_size, size_extract s n hn, hz]) fun i hi => ?_
    rw [mkS_size] at hi
    rw [bt_mkS l hl i hi, h i hi, bt_extract s 0 n i hn (by omega), Nat.zero_add]

theorem may_of_size {r : Int} (h : sizeI r ≠ 0) : mayB r = true := by
  cases hm : mayB r
  · exact absurd (by unfold sizeI; rw [if_pos hm]) h
  · rfl

/-- The document's reckoning hits just at the number of bytes that utf.Next tells. -/
theorem hit1 (s : ByteArray) (hL : 1 ≤ s.size) : mkS (putI (bt s 0)) = s.extract 0 1 ↔ nxN (bt s) s.size = 1 := by
  have hm : mayB (bt s 0) = true := by have := bt_lo s 0; have := bt_hi s 0; unfold mayB; simp; omega
  rw [mk_eq_iff s 1 hL _ (putI_range hm)]
  constructor
  · rintro ⟨h, _⟩
    unfold nxN
    rw [if_neg (by omega)]
    by_cases a1 : bt s 0 ≤ 127
    · rw [if_pos a1]
    · unfold putI at h; rw [if_neg a1] at h
      repeat' split at h
      all_goals simp at h
  · intro h
    have a1 : bt s 0 ≤ 127 := by
      by_cases a1 : bt s 0 ≤ 127
      · exact a1
      · unfold nxN at h; rw [if_neg (by omega), if_neg a1] at h
        repeat' split at h
        all_goals omega
    unfold putI
    rw [if_pos a1]
    exact ⟨rfl, fun i h => by simp at h; subst h; rfl⟩

theorem hit2 (s : ByteArray) (hL : 2 ≤ s.size) (hm : mayB (q2 (bt s)) = true) : mkS (putI (q2 (bt s))) = s.extract 0 2 ↔ nxN (bt s) s.size = 2 := by
  rw [q2_eq] at hm ⊢
  rw [mk_eq_iff s 2 hL _ (putI_range hm)]
  have hz := putI_len hm
  have l0 := bt_lo s 0
  have g0 := bt_hi s 0
  have l1 := bt_lo s 1
  have g1 := bt_hi s 1
  have key : sizeI (v2 (bt s)) = 2 → (128 ≤ v2 (bt s) ∧ v2 (bt s) ≤ 2047) ∧ putI (v2 (bt s)) = [192 + v2 (bt s) / 64, 128 + v2 (bt s) % 64] := by
    intro h
    have hb : 128 ≤ v2 (bt s) ∧ v2 (bt s) ≤ 2047 := by
      unfold sizeI at h; rw [if_neg (by rw [hm]; simp)] at h
      repeat' split at h
      all_goals omega
    exact ⟨hb, by unfold putI; rw [if_neg (by omega), if_pos (by omega)]⟩
  constructor
  · rintro ⟨h, hi⟩
    have hs : sizeI (v2 (bt s)) = 2 := by rw [← hz, h]; rfl
    obtain ⟨hb, hp⟩ := key hs
    have e0 : (putI (v2 (bt s)))[0]'(by rw [h]; omega) = bt s 0 := hi 0 (by rw [h]; omega)
    have e1 : (putI (v2 (bt s)))[1]'(by rw [h]; omega) = bt s 1 := hi 1 (by rw [h]; omega)
    simp only [hp, List.getElem_cons_zero, List.getElem_cons_succ] at e0 e1
    have hv : v2 (bt s) = v2 (bt s) := rfl
    conv at hv => rhs; unfold v2
    unfold nxN
    rw [if_neg (by omega)]
    rw [if_neg (by omega), if_neg (by omega), if_pos (by omega)]
    rw [if_pos ⟨hL, ⟨by omega, by omega⟩, hs⟩]
  · intro h
    have hc : 192 ≤ bt s 0 ∧ bt s 0 ≤ 223 ∧ cn (bt s 1) ∧ sizeI (v2 (bt s)) = 2 := by
      unfold nxN at h
      rw [if_neg (by omega)] at h
      repeat' split at h
      all_goals first | omega | (rename_i hx; exact ⟨by omega, by omega, hx.2⟩)
    obtain ⟨c0, c0', c1, hs⟩ := hc
    obtain ⟨hb, hp⟩ := key hs
    have hv : v2 (bt s) = v2 (bt s) := rfl
    conv at hv => rhs; unfold v2
    rw [hp]
    refine ⟨rfl, fun i h => ?_⟩
    simp only [List.length_cons, List.length_nil] at h
    have hi : i = 0 ∨ i = 1 := by omega
    rcases hi with rfl | rfl
    all_goals simp only [List.getElem_cons_zero, List.getElem_cons_succ]
    all_goals omega

theorem hit3 (s : ByteArray) (hL : 3 ≤ s.size) (hm : mayB (q3 (bt s)) = true) : mkS (putI (q3 (bt s))) = s.extract 0 3 ↔ nxN (bt s) s.size = 3 := by
  rw [q3_eq] at hm ⊢
  rw [mk_eq_iff s 3 hL _ (putI_range hm)]
  have hz := putI_len hm
  have l0 := bt_lo s 0
  have g0 := bt_hi s 0
  have l1 := bt_lo s 1
  have g1 := bt_hi s 1
  have l2 := bt_lo s 2
  have g2 := bt_hi s 2
  have key : sizeI (v3 (bt s)) = 3 → (2048 ≤ v3 (bt s) ∧ v3 (bt s) ≤ 65535) ∧ putI (v3 (bt s)) = [224 + v3 (bt s) / 4096, 128 + v3 (bt s) / 64 % 64, 128 + v3 (bt s) % 64] := by
    intro h
    have hb : 2048 ≤ v3 (bt s) ∧ v3 (bt s) ≤ 65535 := by
      unfold sizeI at h; rw [if_neg (by rw [hm]; simp)] at h
      repeat' split at h
      all_goals omega
    exact ⟨hb, by unfold putI; rw [if_neg (by omega), if_neg (by omega), if_pos (by omega)]⟩
  constructor
  · rintro ⟨h, hi⟩
    have hs : sizeI (v3 (bt s)) = 3 := by rw [← hz, h]; rfl
    obtain ⟨hb, hp⟩ := key hs
    have e0 : (putI (v3 (bt s)))[0]'(by rw [h]; omega) = bt s 0 := hi 0 (by rw [h]; omega)
    have e1 : (putI (v3 (bt s)))[1]'(by rw [h]; omega) = bt s 1 := hi 1 (by rw [h]; omega)
    have e2 : (putI (v3 (bt s)))[2]'(by rw [h]; omega) = bt s 2 := hi 2 (by rw [h]; omega)
    simp only [hp, List.getElem_cons_zero, List.getElem_cons_succ] at e0 e1 e2
    have hv : v3 (bt s) = v3 (bt s) := rfl
    conv at hv => rhs; unfold v3
    unfold nxN
    rw [if_neg (by omega)]
    rw [if_neg (by omega), if_neg (by omega), if_neg (by omega), if_pos (by omega)]
    rw [if_pos ⟨hL, ⟨by omega, by omega⟩, ⟨by omega, by omega⟩, hs⟩]
  · intro h
    have hc : 224 ≤ bt s 0 ∧ bt s 0 ≤ 239 ∧ cn (bt s 1) ∧ cn (bt s 2) ∧ sizeI (v3 (bt s)) = 3 := by
      unfold nxN at h
      rw [if_neg (by omega)] at h
      repeat' split at h
      all_goals first | omega | (rename_i hx; exact ⟨by omega, by omega, hx.2⟩)
    obtain ⟨c0, c0', c1, c2, hs⟩ := hc
    obtain ⟨hb, hp⟩ := key hs
    have hv : v3 (bt s) = v3 (bt s) := rfl
    conv at hv => rhs; unfold v3
    rw [hp]
    refine ⟨rfl, fun i h => ?_⟩
    simp only [List.length_cons, List.length_nil] at h
    have hi : i = 0 ∨ i = 1 ∨ i = 2 := by omega
    rcases hi with rfl | rfl | rfl
    all_goals simp only [List.getElem_cons_zero, List.getElem_cons_succ]
    all_goals omega

theorem hit4 (s : ByteArray) (hL : 4 ≤ s.size) (hm : mayB (q4 (bt s)) = true) : mkS (putI (q4 (bt s))) = s.extract 0 4 ↔ nxN (bt s) s.size = 4 := by
  rw [q4_eq] at hm ⊢
  rw [mk_eq_iff s 4 hL _ (putI_range hm)]
  have hz := putI_len hm
  have l0 := bt_lo s 0
  have g0 := bt_hi s 0
  have l1 := bt_lo s 1
  have g1 := bt_hi s 1
  have l2 := bt_lo s 2
  have g2 := bt_hi s 2
  have l3 := bt_lo s 3
  have g3 := bt_hi s 3
  have key : sizeI (v4 (bt s)) = 4 → (65536 ≤ v4 (bt s)) ∧ putI (v4 (bt s)) = [240 + v4 (bt s) / 262144, 128 + v4 (bt s) / 4096 % 64, 128 + v4 (bt s) / 64 % 64, 128 + v4 (bt s) % 64] := by
    intro h
    have hb : 65536 ≤ v4 (bt s) := by
      unfold sizeI at h; rw [if_neg (by rw [hm]; simp)] at h
      repeat' split at h
      all_goals omega
    exact ⟨hb, by unfold putI; rw [if_neg (by omega), if_neg (by omega), if_neg (by omega)]⟩
  constructor
  · rintro ⟨h, hi⟩
    have hs : sizeI (v4 (bt s)) = 4 := by rw [← hz, h]; rfl
    obtain ⟨hb, hp⟩ := key hs
    have e0 : (putI (v4 (bt s)))[0]'(by rw [h]; omega) = bt s 0 := hi 0 (by rw [h]; omega)
    have e1 : (putI (v4 (bt s)))[1]'(by rw [h]; omega) = bt s 1 := hi 1 (by rw [h]; omega)
    have e2 : (putI (v4 (bt s)))[2]'(by rw [h]; omega) = bt s 2 := hi 2 (by rw [h]; omega)
    have e3 : (putI (v4 (bt s)))[3]'(by rw [h]; omega) = bt s 3 := hi 3 (by rw [h]; omega)
    simp only [hp, List.getElem_cons_zero, List.getElem_cons_succ] at e0 e1 e2 e3
    have hv : v4 (bt s) = v4 (bt s) := rfl
    conv at hv => rhs; unfold v4
    unfold nxN
    rw [if_neg (by omega)]
    rw [if_neg (by omega), if_neg (by omega), if_neg (by omega), if_neg (by omega), if_pos (by omega)]
    rw [if_pos ⟨hL, ⟨by omega, by omega⟩, ⟨by omega, by omega⟩, ⟨by omega, by omega⟩, hs⟩]
  · intro h
    have hc : 240 ≤ bt s 0 ∧ bt s 0 ≤ 247 ∧ cn (bt s 1) ∧ cn (bt s 2) ∧ cn (bt s 3) ∧ sizeI (v4 (bt s)) = 4 := by
      unfold nxN at h
      rw [if_neg (by omega)] at h
      repeat' split at h
      all_goals first | omega | (rename_i hx; exact ⟨by omega, by omega, hx.2⟩)
    obtain ⟨c0, c0', c1, c2, c3, hs⟩ := hc
    obtain ⟨hb, hp⟩ := key hs
    have hv : v4 (bt s) = v4 (bt s) := rfl
    conv at hv => rhs; unfold v4
    rw [hp]
    refine ⟨rfl, fun i h => ?_⟩
    simp only [List.length_cons, List.length_nil] at h
    have hi : i = 0 ∨ i = 1 ∨ i = 2 ∨ i = 3 := by omega
    rcases hi with rfl | rfl | rfl | rfl
    all_goals simp only [List.getElem_cons_zero, List.getElem_cons_succ]
    all_goals omega
end Go.Proofs.Ytlhbnmaalhainaa.Utf

namespace Go.Proofs.Ytlhbnmaalhainaa.Utf
open Go.RowKit
set_option linter.unusedVariables false

theorem ret_rn {f : Nat → Int} {L : Nat} {n r : Int} (hn : nxN f L = n) (hr : nxR f L = r) : Ending.returned (.tuple #[.int .i32 r, .int .i64 n]) = .returned (.tuple #[.int .i32 (nxR f L), .int .i64 (nxN f L)]) := by
  rw [hn, hr]
theorem quiet_left {P : Program} {f : FuncId} {args : Array Value} {w : World} {n : Nat} {v : Value}
    (h : Calls P f args (w.drewN n) fun e w' => e = .returned v ∧ w.drewN n = w') : Calls P f args (w.drewN n) fun e w'' => e = .returned v ∧ ∃ m, w'' = w.drewN m :=
  h.mono fun _ _ ⟨he, hm⟩ => ⟨he, n, hm.symm⟩
theorem below_drewN {B : Nat} {a w : World} (h : Below B a w) (n : Nat) : Below B a (w.drewN n) := ⟨h.os, h.tape, h.output, h.size, h.block⟩
theorem conv_new_drew2 (l : List Int) (W : World) (X : Obj) :
    (convert 33 9 (.slice (some ⟨W.heap.size + 1, 0, none⟩) l.length l.length)).run Try.prog ((W.alloc X).alloc (.cells (l.map (Value.int .u8)).toArray 5)).drew =
      .ok (.string (mkS l)) ((W.alloc X).alloc (.cells (l.map (Value.int .u8)).toArray 5)).drew := by
  have := conv_new_drew l (W.alloc X)
  rwa [show (W.alloc X).heap.size = W.heap.size + 1 from by simp] at this
theorem nx_range (f : Nat → Int) (L : Nat) : 0 ≤ nxN f L ∧ nxN f L ≤ 4 ∧ nxN f L ≤ L := by
  unfold nxN
  repeat' split
  all_goals omega
theorem nxR_0 {f : Nat → Int} {L : Nat} (h : nxN f L = 0) : nxR f L = 0 := by unfold nxR; rw [h]; rfl
theorem nxR_1 {f : Nat → Int} {L : Nat} (h : nxN f L = 1) : nxR f L = f 0 := by unfold nxR; rw [h]; rfl
theorem nxR_2 {f : Nat → Int} {L : Nat} (h : nxN f L = 2) : nxR f L = q2 f := by unfold nxR; rw [h, q2_eq]; rfl
theorem nxR_3 {f : Nat → Int} {L : Nat} (h : nxN f L = 3) : nxR f L = q3 f := by unfold nxR; rw [h, q3_eq]; rfl
theorem nxR_4 {f : Nat → Int} {L : Nat} (h : nxN f L = 4) : nxR f L = q4 f := by unfold nxR; rw [h, q4_eq]; rfl

theorem may_of_nx2 {f : Nat → Int} {L : Nat} (h : nxN f L = 2) : mayB (v2 f) = true := by
  refine may_of_size ?_
  unfold nxN at h
  repeat' split at h
  all_goals first | omega | (rename_i hx; have := hx.2.2; omega)
theorem may_of_nx3 {f : Nat → Int} {L : Nat} (h : nxN f L = 3) : mayB (v3 f) = true := by
  refine may_of_size ?_
  unfold nxN at h
  repeat' split at h
  all_goals first | omega | (rename_i hx; have := hx.2.2.2; omega)
theorem may_of_nx4 {f : Nat → Int} {L : Nat} (h : nxN f L = 4) : mayB (v4 f) = true := by
  refine may_of_size ?_
  unfold nxN at h
  repeat' split at h
  all_goals first | omega | (rename_i hx; have := hx.2.2.2.2; omega)

set_option maxHeartbeats 8000000 in
theorem refNext_any (s : ByteArray) (w : World) (h1 : s.size ≤ 9223372036854775807) :
    Calls Try.prog 85 #[.string s] w fun e w' => e = .returned (.tuple #[.int .i32 (nxR (bt s) s.size), .int .i64 (nxN (bt s) s.size)]) ∧ Below w.heap.size w w' := by
  have hr := nx_range (bt s) s.size
  go_enter Try.func85, Try.ntmps85
  go_wp2
  go_loopw [4] (fun n wr => ∃ k : Int, n = .int .i64 k ∧ 1 ≤ k ∧ k ≤ 5 ∧ (nxN (bt s) s.size = 0 ∨ k ≤ nxN (bt s) s.size) ∧ Below w.heap.size w wr) (fun n _ => (5 - intOf n).toNat)
  case atStart => exact ⟨1, rfl, by omega, by omega, by omega, Below.refl _ _⟩
  case round =>
    obtain ⟨k, rfl, hk1, hk5, hno, hb⟩ := hrel
    by_cases hL : k ≤ (s.size : Int)
    rotate_left
    · have Hno := Lib.hid (show nxN (bt s) s.size = 0 by omega)
      clear hno hr
      by_cases h5 : k ≤ 4
      all_goals
        go_wp2
        go_ret2
        exact ⟨ret_rn Hno.out (nxR_0 Hno.out), hb⟩
    by_cases h5 : k = 5
    · subst h5
      have Hno := Lib.hid (show nxN (bt s) s.size = 0 by omega)
      clear hno hr
      go_wp2
      go_ret2
      exact ⟨ret_rn Hno.out (nxR_0 Hno.out), hb⟩
    have h4 : k = 1 ∨ k = 2 ∨ k = 3 ∨ k = 4 := by omega
    rcases h4 with rfl | rfl | rfl | rfl
    · clear h5
      have u0 : (s[0].toNat : Int) ≤ 255 := by have := s[0].toNat_lt; omega
      have z0 : 0 ≤ (s[0].toNat : Int) := by omega
      have hq : bt s 0 = (s[0].toNat : Int) := (bt_of (by omega)).symm
      have hmm := fun W => refMay_any (s[0].toNat : Int) W
      have hm : mayB (bt s 0) = true := by have := bt_lo s 0; have := bt_hi s 0; unfold mayB; simp; omega
      have hpp := fun W => put_any (s[0].toNat : Int) W (by rw [← hq]; exact hm)
      have hh := hit1 s (by omega)
      rw [← hq, hm, hq] at hmm
      rw [hq] at hh
      have hcv := conv_new_drew (putI (s[0].toNat : Int))
      generalize putI (s[0].toNat : Int) = l at *
      have Hp := Lib.hid hpp
      have Hm := Lib.hid hmm
      by_cases e : nxN (bt s) s.size = 1
      · have ht : ((mkS l).toList == (s.extract 0 1).toList) = true := eqB_true (hh.2 e)
        have Hr : Hid (nxR (bt s) s.size = (s[0].toNat : Int)) := Lib.hid (by rw [nxR_1 e, hq])
        have He := Lib.hid e
        clear hpp hmm hm hno hh e hq hr
        go_wp2
        refine wp_loop_rounds 2 ?_; rw [rounds_succ]
        go_wp2
        rw [rounds_succ]
        go_wp2
        go_region_with (first
                | (go_at_call 105; refine (Hm.out _).mono ?_; rintro e w' ⟨rfl, rfl⟩)
                | (go_at_call 106; refine (Hp.out _).mono ?_; rintro e w' ⟨rfl, rfl⟩))
        go_wp2
        go_ret2
        refine ⟨ret_rn He.out Hr.out, ?_⟩; (first | exact hb | (repeat (first | exact hb | refine Below.drew ?_ | refine below_drewN ?_ _ | (refine Below.alloc ?_ (by have := hb.size; simp; omega) _))))
      · have ht : ((mkS l).toList == (s.extract 0 1).toList) = false := eqB_false (fun h => e (hh.1 h))
        have Hno : Hid (nxN (bt s) s.size = 0 ∨ 2 ≤ nxN (bt s) s.size) := Lib.hid (by omega)
        clear hpp hmm hm hno hh e hq hr
        go_wp2
        refine wp_loop_rounds 2 ?_; rw [rounds_succ]
        go_wp2
        rw [rounds_succ]
        go_wp2
        go_region_with (first
                | (go_at_call 105; refine (Hm.out _).mono ?_; rintro e w' ⟨rfl, rfl⟩)
                | (go_at_call 106; refine (Hp.out _).mono ?_; rintro e w' ⟨rfl, rfl⟩))
        go_wp2
        go_roundw
        case rel => refine ⟨2, rfl, by omega, by omega, Hno.out, ?_⟩; (first | exact hb | (repeat (first | exact hb | refine Below.drew ?_ | refine below_drewN ?_ _ | (refine Below.alloc ?_ (by have := hb.size; simp; omega) _))))
        case measure => simp [intOf]
    · clear h5
      have u0 : (s[0].toNat : Int) ≤ 255 := by have := s[0].toNat_lt; omega
      have z0 : 0 ≤ (s[0].toNat : Int) := by omega
      have u1 : (s[1].toNat : Int) ≤ 255 := by have := s[1].toNat_lt; omega
      have z1 : 0 ≤ (s[1].toNat : Int) := by omega
      have hq : q2 (bt s) = ((64 : Int) * ((s[0].toNat : Int) % (32 : Int)) + (s[1].toNat : Int) % (64 : Int)) := by unfold q2; rw [← bt_of (s := s) (i := 0) (by omega), ← bt_of (s := s) (i := 1) (by omega)]
      have hmm := fun W => refMay_any ((64 : Int) * ((s[0].toNat : Int) % (32 : Int)) + (s[1].toNat : Int) % (64 : Int)) W
      cases hm : mayB (q2 (bt s))
      · have Hno : Hid (nxN (bt s) s.size = 0 ∨ 3 ≤ nxN (bt s) s.size) := by
          by_cases e : nxN (bt s) s.size = 2
          · exact absurd (may_of_nx2 e) (by rw [← q2_eq, hm]; simp)
          · exact Lib.hid (by omega)
        rw [← hq, hm, hq] at hmm
        have Hm := Lib.hid hmm
        clear hmm hm hno hq hr
        go_wp2
        refine wp_loop_rounds 3 ?_; rw [rounds_succ]
        go_wp2
        rw [rounds_succ]
        go_wp2
        rw [rounds_succ]
        go_wp2
        go_quiet ((go_at_call 105; exact quiet_left (Hm.out _)))
        go_wp2
        go_roundw
        case rel => refine ⟨3, rfl, by omega, by omega, Hno.out, ?_⟩; (first | exact hb | (repeat (first | exact hb | refine Below.drew ?_ | refine below_drewN ?_ _ | (refine Below.alloc ?_ (by have := hb.size; simp; omega) _))))
        case measure => simp [intOf]
      · have hpp := fun W => put_any ((64 : Int) * ((s[0].toNat : Int) % (32 : Int)) + (s[1].toNat : Int) % (64 : Int)) W (by rw [← hq]; exact hm)
        have hh := hit2 s (by omega) hm
        rw [← hq, hm, hq] at hmm
        rw [hq] at hh
        have hcv := conv_new_drew2 (putI ((64 : Int) * ((s[0].toNat : Int) % (32 : Int)) + (s[1].toNat : Int) % (64 : Int)))
        generalize putI ((64 : Int) * ((s[0].toNat : Int) % (32 : Int)) + (s[1].toNat : Int) % (64 : Int)) = l at *
        have Hp := Lib.hid hpp
        have Hm := Lib.hid hmm
        by_cases e : nxN (bt s) s.size = 2
        · have ht : ((mkS l).toList == (s.extract 0 2).toList) = true := eqB_true (hh.2 e)
          have Hr : Hid (nxR (bt s) s.size = ((64 : Int) * ((s[0].toNat : Int) % (32 : Int)) + (s[1].toNat : Int) % (64 : Int))) := Lib.hid (by rw [nxR_2 e, hq])
          have He := Lib.hid e
          clear hpp hmm hm hno hh e hq hr
          go_wp2
          refine wp_loop_rounds 3 ?_; rw [rounds_succ]
          go_wp2
          rw [rounds_succ]
          go_wp2
          rw [rounds_succ]
          go_wp2
          go_region_with (first
                  | (go_at_call 105; refine (Hm.out _).mono ?_; rintro e w' ⟨rfl, rfl⟩)
                  | (go_at_call 106; refine (Hp.out _).mono ?_; rintro e w' ⟨rfl, rfl⟩))
          go_wp2
          go_ret2
          refine ⟨ret_rn He.out Hr.out, ?_⟩; (first | exact hb | (repeat (first | exact hb | refine Below.drew ?_ | refine below_drewN ?_ _ | (refine Below.alloc ?_ (by have := hb.size; simp; omega) _))))
        · have ht : ((mkS l).toList == (s.extract 0 2).toList) = false := eqB_false (fun h => e (hh.1 h))
          have Hno : Hid (nxN (bt s) s.size = 0 ∨ 3 ≤ nxN (bt s) s.size) := Lib.hid (by omega)
          clear hpp hmm hm hno hh e hq hr
          go_wp2
          refine wp_loop_rounds 3 ?_; rw [rounds_succ]
          go_wp2
          rw [rounds_succ]
          go_wp2
          rw [rounds_succ]
          go_wp2
          go_region_with (first
                  | (go_at_call 105; refine (Hm.out _).mono ?_; rintro e w' ⟨rfl, rfl⟩)
                  | (go_at_call 106; refine (Hp.out _).mono ?_; rintro e w' ⟨rfl, rfl⟩))
          go_wp2
          go_roundw
          case rel => refine ⟨3, rfl, by omega, by omega, Hno.out, ?_⟩; (first | exact hb | (repeat (first | exact hb | refine Below.drew ?_ | refine below_drewN ?_ _ | (refine Below.alloc ?_ (by have := hb.size; simp; omega) _))))
          case measure => simp [intOf]
    · clear h5
      have u0 : (s[0].toNat : Int) ≤ 255 := by have := s[0].toNat_lt; omega
      have z0 : 0 ≤ (s[0].toNat : Int) := by omega
      have u1 : (s[1].toNat : Int) ≤ 255 := by have := s[1].toNat_lt; omega
      have z1 : 0 ≤ (s[1].toNat : Int) := by omega
      have u2 : (s[2].toNat : Int) ≤ 255 := by have := s[2].toNat_lt; omega
      have z2 : 0 ≤ (s[2].toNat : Int) := by omega
      have hq : q3 (bt s) = ((64 : Int) * ((64 : Int) * ((s[0].toNat : Int) % (16 : Int)) + (s[1].toNat : Int) % (64 : Int)) + (s[2].toNat : Int) % (64 : Int)) := by unfold q3; rw [← bt_of (s := s) (i := 0) (by omega), ← bt_of (s := s) (i := 1) (by omega), ← bt_of (s := s) (i := 2) (by omega)]
      have hmm := fun W => refMay_any ((64 : Int) * ((64 : Int) * ((s[0].toNat : Int) % (16 : Int)) + (s[1].toNat : Int) % (64 : Int)) + (s[2].toNat : Int) % (64 : Int)) W
      cases hm : mayB (q3 (bt s))
      · have Hno : Hid (nxN (bt s) s.size = 0 ∨ 4 ≤ nxN (bt s) s.size) := by
          by_cases e : nxN (bt s) s.size = 3
          · exact absurd (may_of_nx3 e) (by rw [← q3_eq, hm]; simp)
          · exact Lib.hid (by omega)
        rw [← hq, hm, hq] at hmm
        have Hm := Lib.hid hmm
        clear hmm hm hno hq hr
        go_wp2
        refine wp_loop_rounds 4 ?_; rw [rounds_succ]
        go_wp2
        rw [rounds_succ]
        go_wp2
        rw [rounds_succ]
        go_wp2
        rw [rounds_succ]
        go_wp2
        go_quiet ((go_at_call 105; exact quiet_left (Hm.out _)))
        go_wp2
        go_roundw
        case rel => refine ⟨4, rfl, by omega, by omega, Hno.out, ?_⟩; (first | exact hb | (repeat (first | exact hb | refine Below.drew ?_ | refine below_drewN ?_ _ | (refine Below.alloc ?_ (by have := hb.size; simp; omega) _))))
        case measure => simp [intOf]
      · have hpp := fun W => put_any ((64 : Int) * ((64 : Int) * ((s[0].toNat : Int) % (16 : Int)) + (s[1].toNat : Int) % (64 : Int)) + (s[2].toNat : Int) % (64 : Int)) W (by rw [← hq]; exact hm)
        have hh := hit3 s (by omega) hm
        rw [← hq, hm, hq] at hmm
        rw [hq] at hh
        have hcv := conv_new_drew2 (putI ((64 : Int) * ((64 : Int) * ((s[0].toNat : Int) % (16 : Int)) + (s[1].toNat : Int) % (64 : Int)) + (s[2].toNat : Int) % (64 : Int)))
        generalize putI ((64 : Int) * ((64 : Int) * ((s[0].toNat : Int) % (16 : Int)) + (s[1].toNat : Int) % (64 : Int)) + (s[2].toNat : Int) % (64 : Int)) = l at *
        have Hp := Lib.hid hpp
        have Hm := Lib.hid hmm
        by_cases e : nxN (bt s) s.size = 3
        · have ht : ((mkS l).toList == (s.extract 0 3).toList) = true := eqB_true (hh.2 e)
          have Hr : Hid (nxR (bt s) s.size = ((64 : Int) * ((64 : Int) * ((s[0].toNat : Int) % (16 : Int)) + (s[1].toNat : Int) % (64 : Int)) + (s[2].toNat : Int) % (64 : Int))) := Lib.hid (by rw [nxR_3 e, hq])
          have He := Lib.hid e
          clear hpp hmm hm hno hh e hq hr
          go_wp2
          refine wp_loop_rounds 4 ?_; rw [rounds_succ]
          go_wp2
          rw [rounds_succ]
          go_wp2
          rw [rounds_succ]
          go_wp2
          rw [rounds_succ]
          go_wp2
          go_region_with (first
                  | (go_at_call 105; refine (Hm.out _).mono ?_; rintro e w' ⟨rfl, rfl⟩)
                  | (go_at_call 106; refine (Hp.out _).mono ?_; rintro e w' ⟨rfl, rfl⟩))
          go_wp2
          go_ret2
          refine ⟨ret_rn He.out Hr.out, ?_⟩; (first | exact hb | (repeat (first | exact hb | refine Below.drew ?_ | refine below_drewN ?_ _ | (refine Below.alloc ?_ (by have := hb.size; simp; omega) _))))
        · have ht : ((mkS l).toList == (s.extract 0 3).toList) = false := eqB_false (fun h => e (hh.1 h))
          have Hno : Hid (nxN (bt s) s.size = 0 ∨ 4 ≤ nxN (bt s) s.size) := Lib.hid (by omega)
          clear hpp hmm hm hno hh e hq hr
          go_wp2
          refine wp_loop_rounds 4 ?_; rw [rounds_succ]
          go_wp2
          rw [rounds_succ]
          go_wp2
          rw [rounds_succ]
          go_wp2
          rw [rounds_succ]
          go_wp2
          go_region_with (first
                  | (go_at_call 105; refine (Hm.out _).mono ?_; rintro e w' ⟨rfl, rfl⟩)
                  | (go_at_call 106; refine (Hp.out _).mono ?_; rintro e w' ⟨rfl, rfl⟩))
          go_wp2
          go_roundw
          case rel => refine ⟨4, rfl, by omega, by omega, Hno.out, ?_⟩; (first | exact hb | (repeat (first | exact hb | refine Below.drew ?_ | refine below_drewN ?_ _ | (refine Below.alloc ?_ (by have := hb.size; simp; omega) _))))
          case measure => simp [intOf]
    · clear h5
      have u0 : (s[0].toNat : Int) ≤ 255 := by have := s[0].toNat_lt; omega
      have z0 : 0 ≤ (s[0].toNat : Int) := by omega
      have u1 : (s[1].toNat : Int) ≤ 255 := by have := s[1].toNat_lt; omega
      have z1 : 0 ≤ (s[1].toNat : Int) := by omega
      have u2 : (s[2].toNat : Int) ≤ 255 := by have := s[2].toNat_lt; omega
      have z2 : 0 ≤ (s[2].toNat : Int) := by omega
      have u3 : (s[3].toNat : Int) ≤ 255 := by have := s[3].toNat_lt; omega
      have z3 : 0 ≤ (s[3].toNat : Int) := by omega
      have hq : q4 (bt s) = ((64 : Int) * ((64 : Int) * ((64 : Int) * ((s[0].toNat : Int) % (8 : Int)) + (s[1].toNat : Int) % (64 : Int)) + (s[2].toNat : Int) % (64 : Int)) + (s[3].toNat : Int) % (64 : Int)) := by unfold q4; rw [← bt_of (s := s) (i := 0) (by omega), ← bt_of (s := s) (i := 1) (by omega), ← bt_of (s := s) (i := 2) (by omega), ← bt_of (s := s) (i := 3) (by omega)]
      have hmm := fun W => refMay_any ((64 : Int) * ((64 : Int) * ((64 : Int) * ((s[0].toNat : Int) % (8 : Int)) + (s[1].toNat : Int) % (64 : Int)) + (s[2].toNat : Int) % (64 : Int)) + (s[3].toNat : Int) % (64 : Int)) W
      cases hm : mayB (q4 (bt s))
      · have Hno : Hid (nxN (bt s) s.size = 0 ∨ 5 ≤ nxN (bt s) s.size) := by
          by_cases e : nxN (bt s) s.size = 4
          · exact absurd (may_of_nx4 e) (by rw [← q4_eq, hm]; simp)
          · exact Lib.hid (by omega)
        rw [← hq, hm, hq] at hmm
        have Hm := Lib.hid hmm
        clear hmm hm hno hq hr
        go_wp2
        refine wp_loop_rounds 5 ?_; rw [rounds_succ]
        go_wp2
        rw [rounds_succ]
        go_wp2
        rw [rounds_succ]
        go_wp2
        rw [rounds_succ]
        go_wp2
        rw [rounds_succ]
        go_wp2
        go_quiet ((go_at_call 105; exact quiet_left (Hm.out _)))
        go_wp2
        go_roundw
        case rel => refine ⟨5, rfl, by omega, by omega, Hno.out, ?_⟩; (first | exact hb | (repeat (first | exact hb | refine Below.drew ?_ | refine below_drewN ?_ _ | (refine Below.alloc ?_ (by have := hb.size; simp; omega) _))))
        case measure => simp [intOf]
      · have hpp := fun W => put_any ((64 : Int) * ((64 : Int) * ((64 : Int) * ((s[0].toNat : Int) % (8 : Int)) + (s[1].toNat : Int) % (64 : Int)) + (s[2].toNat : Int) % (64 : Int)) + (s[3].toNat : Int) % (64 : Int)) W (by rw [← hq]; exact hm)
        have hh := hit4 s (by omega) hm
        rw [← hq, hm, hq] at hmm
        rw [hq] at hh
        have hcv := conv_new_drew2 (putI ((64 : Int) * ((64 : Int) * ((64 : Int) * ((s[0].toNat : Int) % (8 : Int)) + (s[1].toNat : Int) % (64 : Int)) + (s[2].toNat : Int) % (64 : Int)) + (s[3].toNat : Int) % (64 : Int)))
        generalize putI ((64 : Int) * ((64 : Int) * ((64 : Int) * ((s[0].toNat : Int) % (8 : Int)) + (s[1].toNat : Int) % (64 : Int)) + (s[2].toNat : Int) % (64 : Int)) + (s[3].toNat : Int) % (64 : Int)) = l at *
        have Hp := Lib.hid hpp
        have Hm := Lib.hid hmm
        by_cases e : nxN (bt s) s.size = 4
        · have ht : ((mkS l).toList == (s.extract 0 4).toList) = true := eqB_true (hh.2 e)
          have Hr : Hid (nxR (bt s) s.size = ((64 : Int) * ((64 : Int) * ((64 : Int) * ((s[0].toNat : Int) % (8 : Int)) + (s[1].toNat : Int) % (64 : Int)) + (s[2].toNat : Int) % (64 : Int)) + (s[3].toNat : Int) % (64 : Int))) := Lib.hid (by rw [nxR_4 e, hq])
          have He := Lib.hid e
          clear hpp hmm hm hno hh e hq hr
          go_wp2
          refine wp_loop_rounds 5 ?_; rw [rounds_succ]
          go_wp2
          rw [rounds_succ]
          go_wp2
          rw [rounds_succ]
          go_wp2
          rw [rounds_succ]
          go_wp2
          rw [rounds_succ]
          go_wp2
          go_region_with (first
                  | (go_at_call 105; refine (Hm.out _).mono ?_; rintro e w' ⟨rfl, rfl⟩)
                  | (go_at_call 106; refine (Hp.out _).mono ?_; rintro e w' ⟨rfl, rfl⟩))
          go_wp2
          go_ret2
          refine ⟨ret_rn He.out Hr.out, ?_⟩; (first | exact hb | (repeat (first | exact hb | refine Below.drew ?_ | refine below_drewN ?_ _ | (refine Below.alloc ?_ (by have := hb.size; simp; omega) _))))
        · have ht : ((mkS l).toList == (s.extract 0 4).toList) = false := eqB_false (fun h => e (hh.1 h))
          have Hno : Hid (nxN (bt s) s.size = 0 ∨ 5 ≤ nxN (bt s) s.size) := Lib.hid (by omega)
          clear hpp hmm hm hno hh e hq hr
          go_wp2
          refine wp_loop_rounds 5 ?_; rw [rounds_succ]
          go_wp2
          rw [rounds_succ]
          go_wp2
          rw [rounds_succ]
          go_wp2
          rw [rounds_succ]
          go_wp2
          rw [rounds_succ]
          go_wp2
          go_region_with (first
                  | (go_at_call 105; refine (Hm.out _).mono ?_; rintro e w' ⟨rfl, rfl⟩)
                  | (go_at_call 106; refine (Hp.out _).mono ?_; rintro e w' ⟨rfl, rfl⟩))
          go_wp2
          go_roundw
          case rel => refine ⟨5, rfl, by omega, by omega, Hno.out, ?_⟩; (first | exact hb | (repeat (first | exact hb | refine Below.drew ?_ | refine below_drewN ?_ _ | (refine Below.alloc ?_ (by have := hb.size; simp; omega) _))))
          case measure => simp [intOf]
end Go.Proofs.Ytlhbnmaalhainaa.Utf

namespace Go.Proofs.Ytlhbnmaalhainaa.Utf
open Go.RowKit
set_option linter.unusedVariables false

theorem bt_past (s : ByteArray) (i : Nat) (h : s.size ≤ i) : bt s i = 0 := by
  have h' : s.data.size ≤ i := h
  unfold bt
  rw [Array.getD_eq_getD_getElem?, Array.getElem?_eq_none h']; rfl
theorem bt_tail (s : ByteArray) (a i : Nat) : bt (s.extract a s.size) i = bt s (a + i) := by
  by_cases h : a + i < s.size
  · exact bt_extract s a s.size i (Nat.le_refl _) h
  · rw [bt_past s _ (by omega), bt_past _ _ (by simp; omega)]
theorem bt_four (s : ByteArray) (a e i : Nat) (he : e = min s.size (a + 4)) (hi : i < 4) : bt (s.extract a e) i = bt s (a + i) := by
  by_cases h : a + i < s.size
  · exact bt_extract s a e i (by omega) (by omega)
  · rw [bt_past s _ (by omega), bt_past _ _ (by simp; omega)]

theorem nxN_congr {f g : Nat → Int} {L M : Nat} (h0 : f 0 = g 0) (h1 : f 1 = g 1) (h2 : f 2 = g 2) (h3 : f 3 = g 3) (hL : min L 4 = min M 4) : nxN f L = nxN g M := by
  have e2 : v2 f = v2 g := by unfold v2; rw [h0, h1]
  have e3 : v3 f = v3 g := by unfold v3; rw [h0, h1, h2]
  have e4 : v4 f = v4 g := by unfold v4; rw [h0, h1, h2, h3]
  unfold nxN
  rw [e2, e3, e4, h0, h1, h2, h3]
  have a0 : (L = 0) = (M = 0) := by apply propext; omega
  have a2 : (2 ≤ L) = (2 ≤ M) := by apply propext; omega
  have a3 : (3 ≤ L) = (3 ≤ M) := by apply propext; omega
  have a4 : (4 ≤ L) = (4 ≤ M) := by apply propext; omega
  simp only [a0, a2, a3, a4]
theorem nxR_congr {f g : Nat → Int} {L M : Nat} (h0 : f 0 = g 0) (h1 : f 1 = g 1) (h2 : f 2 = g 2) (h3 : f 3 = g 3) (hL : min L 4 = min M 4) : nxR f L = nxR g M := by
  have e2 : v2 f = v2 g := by unfold v2; rw [h0, h1]
  have e3 : v3 f = v3 g := by unfold v3; rw [h0, h1, h2]
  have e4 : v4 f = v4 g := by unfold v4; rw [h0, h1, h2, h3]
  unfold nxR
  rw [nxN_congr h0 h1 h2 h3 hL, e2, e3, e4, h0]

/-- How many bytes the rune at a place has (0: none stands there), and the rune. -/
def NN (s : ByteArray) (a : Nat) : Int := nxN (fun i => bt s (a + i)) (s.size - a)
def RR (s : ByteArray) (a : Nat) : Int := nxR (fun i => bt s (a + i)) (s.size - a)
theorem NN_range (s : ByteArray) (a : Nat) : 0 ≤ NN s a ∧ NN s a ≤ 4 ∧ NN s a ≤ ((s.size - a : Nat) : Int) := nx_range _ _

theorem next_at (s : ByteArray) (a : Nat) (w : World) (h1 : s.size ≤ 9223372036854775807) :
    Calls Try.prog 84 #[.string (s.extract a s.size)] w fun e w' => e = .returned (.tuple #[.int .i32 (RR s a), .int .i64 (NN s a), .int .i64 (nxE (NN s a))]) ∧ w = w' := by
  have := next_any_utf (s.extract a s.size) w (by simp; omega)
  rwa [show bt (s.extract a s.size) = fun i => bt s (a + i) from funext fun i => bt_tail s a i, show (s.extract a s.size).size = s.size - a from by simp] at this
theorem refNext_at (s : ByteArray) (a e : Nat) (w : World) (he : e = min s.size (a + 4)) (h1 : s.size ≤ 9223372036854775807) :
    Calls Try.prog 85 #[.string (s.extract a e)] w fun x w' => x = .returned (.tuple #[.int .i32 (RR s a), .int .i64 (NN s a)]) ∧ Below w.heap.size w w' := by
  have := refNext_any (s.extract a e) w (by simp; omega)
  have hz : (s.extract a e).size = e - a := by simp; omega
  have hb := fun i => bt_four s a e i he
  rw [nxN_congr (M := s.size - a) (g := fun i => bt s (a + i)) (hb 0 (by omega)) (hb 1 (by omega)) (hb 2 (by omega)) (hb 3 (by omega)) (by rw [hz]; omega),
    nxR_congr (M := s.size - a) (g := fun i => bt s (a + i)) (hb 0 (by omega)) (hb 1 (by omega)) (hb 2 (by omega)) (hb 3 (by omega)) (by rw [hz]; omega)] at this
  exact this

/-- The runes from a place on, and the place where none stands any more (with fuel). -/
def decF (s : ByteArray) : Nat → Nat → List Int × Nat
  | 0, a => ([], a)
  | f + 1, a => if NN s a = 0 then ([], a) else (RR s a :: (decF s f (a + (NN s a).toNat)).1, (decF s f (a + (NN s a).toNat)).2)
theorem NN_zero_past (s : ByteArray) (a : Nat) (h : s.size ≤ a) : NN s a = 0 := by have := NN_range s a; omega
theorem decF_fuel (s : ByteArray) : ∀ (f g a : Nat), s.size - a ≤ f → s.size - a ≤ g → decF s f a = decF s g a := by
  intro f
  induction f with
  | zero =>
    intro g a hf hg
    cases g with
    | zero => rfl
    | succ g => rw [decF, decF, if_pos (NN_zero_past s a (by omega))]
  | succ f ih =>
    intro g a hf hg
    cases g with
    | zero => rw [decF, decF, if_pos (NN_zero_past s a (by omega))]
    | succ g =>
      rw [decF, decF]
      by_cases h : NN s a = 0
      · rw [if_pos h, if_pos h]
      · rw [if_neg h, if_neg h]
        have := NN_range s a
        rw [ih g (a + (NN s a).toNat) (by omega) (by omega)]
def dec (s : ByteArray) (a : Nat) : List Int × Nat := decF s (s.size - a) a
theorem dec_stop {s : ByteArray} {a : Nat} (h : NN s a = 0) : dec s a = ([], a) := by
  unfold dec
  cases hz : s.size - a with
  | zero => rfl
  | succ f => rw [decF, if_pos h]
theorem dec_step {s : ByteArray} {a : Nat} (h : NN s a ≠ 0) : dec s a = (RR s a :: (dec s (a + (NN s a).toNat)).1, (dec s (a + (NN s a).toNat)).2) := by
  have hr := NN_range s a
  unfold dec
  obtain ⟨f, hf⟩ : ∃ f, s.size - a = f + 1 := ⟨s.size - a - 1, by omega⟩
  rw [hf, decF, if_neg h, decF_fuel s f (s.size - (a + (NN s a).toNat)) _ (by omega) (by omega)]
theorem dec_place (s : ByteArray) : ∀ (f a : Nat), s.size - a ≤ f → a ≤ s.size → a ≤ (dec s a).2 ∧ (dec s a).2 ≤ s.size ∧ NN s (dec s a).2 = 0 ∧ (dec s a).1.length ≤ (dec s a).2 - a := by
  intro f
  induction f with
  | zero => intro a hf ha; rw [dec_stop (NN_zero_past s a (by omega))]; exact ⟨Nat.le_refl _, ha, NN_zero_past s a (by omega), by simp⟩
  | succ f ih =>
    intro a hf ha
    by_cases h : NN s a = 0
    · rw [dec_stop h]; exact ⟨Nat.le_refl _, ha, h, by simp⟩
    · rw [dec_step h]
      have hr := NN_range s a
      obtain ⟨h1, h2, h3, h4⟩ := ih (a + (NN s a).toNat) (by omega) (by omega)
      refine ⟨by simp only; omega, h2, h3, ?_⟩
      simp only [List.length_cons]
      omega
/-- The runes of a text, and up to where it is well made. -/
def runes (s : ByteArray) : List Int := (dec s 0).1
def upto (s : ByteArray) : Nat := (dec s 0).2
theorem upto_le (s : ByteArray) : upto s ≤ s.size := (dec_place s s.size 0 (by omega) (by omega)).2.1
theorem runes_len (s : ByteArray) : (runes s).length ≤ s.size := by
  have h := dec_place s s.size 0 (by omega) (by omega)
  have := h.2.2.2
  have := h.2.1
  unfold runes; omega
end Go.Proofs.Ytlhbnmaalhainaa.Utf

namespace Go.Proofs.Ytlhbnmaalhainaa.Utf
open Go.RowKit
set_option linter.unusedVariables false

set_option maxHeartbeats 1000000 in
theorem where_any (s : ByteArray) (w : World) (h1 : s.size ≤ 40000) :
    Calls Try.prog 70 #[.string s] w fun e w' => e = .returned (.int .i64 (upto s)) ∧ w = w' := by
  go_enter Try.func70, Try.ntmps70
  go_wp2
  go_loop [3] (fun i => ∃ a : Nat, i = .int .i64 a ∧ a ≤ s.size ∧ Hid ((dec s a).2 = upto s)) (fun i => s.size - (intOf i).toNat)
  case atStart => exact ⟨0, rfl, Nat.zero_le _, Lib.hid rfl⟩
  case round =>
    obtain ⟨a, rfl, ha, hd⟩ := hrel
    by_cases hlt : a < s.size
    · have hx := fun W => next_at s a W (by omega)
      have hr := NN_range s a
      by_cases hn : NN s a = 0
      · have Hd : Hid (a = upto s) := Lib.hid (by have := hd.out; rwa [dec_stop hn] at this)
        rw [hn] at hx
        have Hx := Lib.hid hx
        clear hx hd hr hn
        go_wp2_with (go_at_call 84; refine (Hx.out _).mono ?_; rintro e w' ⟨rfl, rfl⟩)
        go_ret
        exact ⟨by rw [← Hd.out]; rfl, rfl⟩
      · have Hd : Hid ((dec s (a + (NN s a).toNat)).2 = upto s) := Lib.hid (by have := hd.out; rwa [dec_step hn] at this)
        rw [show nxE (NN s a) = 0 from by unfold nxE; rw [if_neg hn]] at hx
        obtain ⟨n, hN⟩ : ∃ n : Nat, NN s a = n := ⟨(NN s a).toNat, by omega⟩
        rw [hN] at hx Hd hr
        rw [Int.toNat_natCast] at Hd
        have h0 : 0 < n := by omega
        have h2 : a + n ≤ s.size := by omega
        have Hx := Lib.hid hx
        clear hx hd hr hn hN
        go_wp2_with (go_at_call 84; refine (Hx.out _).mono ?_; rintro e w' ⟨rfl, rfl⟩)
        go_round
        case rel => exact ⟨a + n, by go_num, h2, Hd⟩
        case measure => simp [intOf]; omega
    · have Hd : Hid (a = upto s) := Lib.hid (by have := hd.out; rwa [dec_stop (NN_zero_past s a (by omega))] at this)
      clear hd
      go_wp2
      go_ret
      exact ⟨by rw [← Hd.out]; rfl, rfl⟩

theorem valid_any (s : ByteArray) (w : World) (h1 : s.size ≤ 40000) :
    Calls Try.prog 43 #[.string s] w fun e w' => e = .returned (.bool (decide (upto s = s.size))) ∧ w = w' := by
  by_cases h : upto s = s.size
  · have hw := fun W => where_any s W h1
    rw [h] at hw
    have Hw := Lib.hid hw
    have H := Lib.hid h
    clear hw h
    go_enter Try.func43, Try.ntmps43
    go_wp2_with (go_at_call 70; refine (Hw.out _).mono ?_; rintro e w' ⟨rfl, rfl⟩)
    go_ret
    exact ⟨by rw [decide_eq_true H.out]; rfl, rfl⟩
  · have hw := fun W => where_any s W h1
    have hne : (((upto s : Nat) : Int) == (s.size : Int)) = false := by simp; omega
    have H := Lib.hid h
    generalize upto s = u at *
    have Hw := Lib.hid hw
    clear hw h
    go_enter Try.func43, Try.ntmps43
    go_wp2_with (go_at_call 70; refine (Hw.out _).mono ?_; rintro e w' ⟨rfl, rfl⟩)
    go_ret
    exact ⟨by rw [decide_eq_false H.out]; rfl, rfl⟩

theorem info21 : (Try.prog.info? 21).map (fun i => (i.zero, i.size, i.bytes)) = some (some (.int .i32 0), 1, 4) := by kernel_rfl

/-- A slice of runes that the call owns, from block 'base' on: it holds l. -/
def Row32 (w : World) (base : Nat) (v : Value) (l : List Int) : Prop := w.ownsRow base 21 1 v l.length (l.map (Value.int .i32))

theorem wpList_rune {w : World} {ops : Array Oper} {rest : List Oper} {o : Oper} {a : Act} {Q : Exit → Act → World → Prop} (hgd : o.guard = none) (s x : Operand)
    (ho : o.op = .call { callee := .builtin .append, args := #[s, x], argTypes := #[89, 89] })
    {base : Nat} {v : Value} {l : List Int} (y : Int) (hs : a.eval s = v) (hown : Row32 w base v l) (hx : a.eval x = .slice (some ⟨w.heap.size, 0, none⟩) 1 1)
    (hn : l.length + 1 ≤ 35184372088832) (hb : base ≤ w.heap.size)
    (h : ∀ v' w', Row32 w' base v' (l ++ [y]) → Below base w w' → wpList Try.prog ops Q rest (a.put o.dst v') w') :
    wpList Try.prog ops Q (o :: rest) a (w.alloc (.cells #[.int .i32 y] 21)) := by
  obtain ⟨i0, hi, hz0, hz1, hz2⟩ := info_parts info21
  refine wpList_append_own (w := w.alloc (.cells #[.int .i32 y] 21)) hgd s x 89 ho base 21 i0 (.int .i32 0) 1 4 Try.underlying89 hi hz0 hz1 hz2 rfl (by decide) v l.length (l.map (Value.int .i32)) hs
    (World.ownsRow.alloc hown _) ⟨w.heap.size, 0, none⟩ 1 1 [.int .i32 y] hx rfl ?_ ?_ ?_ ?_ ?_ ?_
  · intro j u hu
    have hj : j = 0 := by cases j with | zero => rfl | succ k => simp at hu
    subst hj
    have hu' : Value.int .i32 y = u := by simpa using hu
    rw [show (⟨w.heap.size, 0, none⟩ : Addr).add 0 = ⟨w.heap.size, 0, none⟩ from by simp [Addr.add], World.cell?_alloc_at _ _ _ _ rfl, ← hu']
    rfl
  · intro u hu; simp at hu; subst hu; rfl
  · unfold maxLen; omega
  · omega
  · simp; omega
  · intro v' w' h2 h3 _
    refine h v' w' ?_ ?_
    · unfold Row32; simpa using h2
    · exact ((Below.refl base w).alloc hb _).grown h3 (by simp; omega) (fun k hk => (World.ownsRow.lt hown k hk).1)

theorem below_row {w w' : World} {base : Nat} {v : Value} {l : List Int} (h : Row32 w base v l) (hb : base ≤ w.heap.size) (hB : Below w.heap.size w w') : Row32 w' base v l :=
  World.ownsRow.kept (row := none) h ⟨hB.os, hB.tape, hB.output, hB.size, fun k hk _ => hB.block k hk⟩ (by
    by_cases e : v.ownBlock = none
    · exact .inl e
    · exact .inr e)

theorem slice4 (s : ByteArray) (a : Nat) (W : World) (h : a + 4 ≤ s.size) :
    (Instr.slice 9 (.string s) (some (.int .i64 (a : Int))) (some (.int .i64 ((a : Int) + 4))) none).run Try.prog W = .ok (.string (s.extract a (a + 4))) W := by
  have := run_slice_string (P := Try.prog) W 9 s .i64 .i64 (a : Int) ((a : Int) + 4) Try.underlying9 (by omega) (by omega) (by omega)
  rw [this]
  rfl

theorem dec_go {s : ByteArray} {a : Nat} {zs : List Int} (hn : NN s a ≠ 0) (h : runes s = zs ++ (dec s a).1 ∧ upto s = (dec s a).2) :
    runes s = (zs ++ [RR s a]) ++ (dec s (a + (NN s a).toNat)).1 ∧ upto s = (dec s (a + (NN s a).toNat)).2 := by
  rw [dec_step hn] at h
  simpa using h
theorem dec_end {s : ByteArray} {a : Nat} {zs : List Int} (hn : NN s a = 0) (h : runes s = zs ++ (dec s a).1 ∧ upto s = (dec s a).2) : runes s = zs ∧ upto s = a := by
  rw [dec_stop hn] at h
  simpa using h

set_option maxHeartbeats 2000000 in
theorem refDec_any (s : ByteArray) (w : World) (h1 : s.size ≤ 40000) :
    Calls Try.prog 71 #[.string s] w fun e w' => ∃ v, e = .returned (.tuple #[v, .int .i64 (upto s)]) ∧ Row32 w' w.heap.size v (runes s) ∧ Below w.heap.size w w' := by
  go_enter Try.func71, Try.ntmps71
  go_wp2
  go_loopw [4, 5] (fun v i wr => ∃ (a : Nat) (zs : List Int), i = .int .i64 a ∧ a ≤ s.size ∧ zs.length ≤ a ∧ Hid (runes s = zs ++ (dec s a).1 ∧ upto s = (dec s a).2) ∧ Row32 wr w.heap.size v zs ∧ Below w.heap.size w wr) (fun _ i _ => s.size - (intOf i).toNat)
  case atStart => exact ⟨0, [], rfl, Nat.zero_le _, Nat.zero_le _, Lib.hid ⟨rfl, rfl⟩, World.ownsRow_nil _ _ _ _, Below.refl _ _⟩
  case round =>
    obtain ⟨a, zs, rfl, ha, hzl, hd, hrow, hb⟩ := hrel
    by_cases hlt : a < s.size
    · have hr := NN_range s a
      have he : (a + 4 < s.size ∧ min s.size (a + 4) = a + 4) ∨ (s.size ≤ a + 4 ∧ min s.size (a + 4) = s.size) := by omega
      have hx0 := fun W => refNext_at s a _ W rfl (by omega)
      by_cases hn : NN s a = 0
      · have Hd := Lib.hid (dec_end hn hd.out)
        rw [hn] at hx0
        rcases he with ⟨h4, he⟩ | ⟨h4, he⟩
        all_goals
          have hx := hx0
          rw [he] at hx
          have Hx := Lib.hid hx
          first | have hsl := fun W => slice4 s a W (by omega) | skip
          clear hx hd hr hn hx0 he
          go_wp2_with (go_at_call 85; refine (Hx.out _).mono ?_; rintro e w1 ⟨rfl, hb1⟩)
          go_ret2
          exact ⟨u4, by rw [Hd.out.2]; rfl, by rw [Hd.out.1]; exact below_row hrow hb.size hb1, hb.trans (hb1.mono hb.size)⟩
      · have Hd := Lib.hid (dec_go hn hd.out)
        obtain ⟨n, hN⟩ : ∃ n : Nat, NN s a = n := ⟨(NN s a).toNat, by omega⟩
        rw [hN] at hx0 Hd hr
        rw [Int.toNat_natCast] at Hd
        have h0 : 0 < n := by omega
        have h2 : a + n ≤ s.size := by omega
        have hn0 : ((n : Int) == 0) = false := by simp; omega
        generalize RR s a = r at *
        rcases he with ⟨h4, he⟩ | ⟨h4, he⟩
        all_goals
          have hx := hx0
          rw [he] at hx
          have Hx := Lib.hid hx
          first | have hsl := fun W => slice4 s a W (by omega) | skip
          clear hx hd hr hn hx0 he hN
          go_wp2_with (first
            | (go_at_call 85; refine (Hx.out _).mono ?_; rintro e w1 ⟨rfl, hb1⟩; have hrow1 := below_row hrow hb.size hb1)
            | (at_builtin; refine wpList_rune rfl _ _ rfl r rfl hrow1 rfl (by omega) (by have := hb.size; have := hb1.size; omega) ?_; intro v2 w2 hrow2 hb2))
          go_roundw
          case rel => exact ⟨a + n, zs ++ [r], by go_num, h2, by simp; omega, Hd, hrow2, (hb.trans (hb1.mono hb.size)).trans hb2⟩
          case measure => simp [intOf]; omega
    · have Hd := Lib.hid (dec_end (NN_zero_past s a (by omega)) hd.out)
      clear hd
      go_wp2
      go_ret2
      exact ⟨u4, by rw [Hd.out.2]; rfl, by rw [Hd.out.1]; exact hrow, hb⟩

end Go.Proofs.Ytlhbnmaalhainaa.Utf
