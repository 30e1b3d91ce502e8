/- The small functions of layer 1: which numbers are runes, how many bytes they have, and which bytes these are. -/
import Derived.Test.YtniaijgejljjbaaGreatProg
import Derived.WalkKit
import Derived.ProofKit
import Derived.Below
import Derived.BigQuiet
import Derived.Deep.QuietTactic
import Derived.IntWalk
import Derived.Lib.Hide
namespace Go.Proofs.YtniaijgejljjbaaGreat.Utf
open Go.RowKit
set_option linter.unusedVariables false
def mayB (r : Int) : Bool := decide (0 ≤ r ∧ r ≤ 1114111 ∧ (r < 55296 ∨ 57343 < r))
def sizeI (r : Int) : Int := if mayB r = false then 0 else if r ≤ 127 then 1 else if r ≤ 2047 then 2 else if r ≤ 65535 then 3 else 4
theorem ret_bool {a b : Bool} (h : a = b) : Ending.returned (.bool a) = .returned (.bool b) := by rw [h]
theorem ret_int {k : IntKind} {a b : Int} (h : a = b) : Ending.returned (.int k a) = .returned (.int k b) := by rw [h]
set_option maxHeartbeats 400000 in
theorem refMay_any (r : Int) (w : World) :
   Calls Tryz.prog 95 #[.int .i32 r] w fun e w' => e = .returned (.bool (mayB r)) ∧ w = w' := by
 go_enter Tryz.func95, Tryz.ntmps95
 go_wp2
 all_goals go_ret
 all_goals exact ⟨ret_bool (by rw [Bool.eq_iff_iff]; unfold mayB; simp; omega), rfl⟩
set_option maxHeartbeats 400000 in
theorem may_any (r : Int) (w : World) :
   Calls Tryz.prog 104 #[.int .i32 r] w fun e w' => e = .returned (.bool (mayB r)) ∧ w = w' := by
 go_enter Tryz.func104, Tryz.ntmps104
 go_wp2
 all_goals go_ret
 all_goals exact ⟨ret_bool (by rw [Bool.eq_iff_iff]; unfold mayB; simp; omega), rfl⟩
set_option maxHeartbeats 400000 in
theorem size_any (r : Int) (w : World) :
   Calls Tryz.prog 103 #[.int .i32 r] w fun e w' => e = .returned (.int .i64 (sizeI r)) ∧ w = w' := by
 cases hm : mayB r
 · have Hm := Lib.hid hm
   have hmay : ∀ W, Calls Tryz.prog 104 #[.int .i32 r] W fun e w' => e = .returned (.bool false) ∧ W = w' := fun W => by have := may_any r W; rwa [hm] at this
   clear hm
   have Hmay := Lib.hid hmay
   clear hmay
   go_enter Tryz.func103, Tryz.ntmps103
   go_wp2_with (go_at_call 104; refine (Hmay.out _).mono ?_; rintro e w' ⟨rfl, rfl⟩)
   go_ret
   exact ⟨ret_int (by rw [sizeI, if_pos Hm.out]), rfl⟩
 · have Hm := Lib.hid hm
   have hmay : ∀ W, Calls Tryz.prog 104 #[.int .i32 r] W fun e w' => e = .returned (.bool true) ∧ W = w' := fun W => by have := may_any r W; rwa [hm] at this
   clear hm
   have Hmay := Lib.hid hmay
   clear hmay
   go_enter Tryz.func103, Tryz.ntmps103
   go_wp2_with (go_at_call 104; refine (Hmay.out _).mono ?_; rintro e w' ⟨rfl, rfl⟩)
   all_goals go_ret
   all_goals exact ⟨ret_int (by rw [sizeI, if_neg (by rw [Hm.out]; simp)]; repeat (first | rw [if_pos (by assumption)] | rw [if_neg (by omega)] | rfl)), rfl⟩
def bt (s : ByteArray) (i : Nat) : Int := ((s.data.getD i 0).toNat : Int)
theorem bt_of {s : ByteArray} {i : Nat} (h : i < s.size) : (s[i].toNat : Int) = bt s i := by
 unfold bt
 have h' : i < s.data.size := h
 have e : s.data.getD i 0 = s.data[i] := by simp [Array.getD, h]
 rw [e]
 rfl
theorem bt_lo (s : ByteArray) (i : Nat) : 0 ≤ bt s i := by unfold bt; omega
theorem bt_hi (s : ByteArray) (i : Nat) : bt s i ≤ 255 := by unfold bt; have := (s.data.getD i 0).toNat_lt; omega
theorem and_224 : ∀ n : Fin 256, bits BinOp.and IntKind.u8 (n.val : Int) 224 = 32 * ((n.val : Int) / 32) := by decide +kernel
theorem and_240 : ∀ n : Fin 256, bits BinOp.and IntKind.u8 (n.val : Int) 240 = 16 * ((n.val : Int) / 16) := by decide +kernel
theorem and_248 : ∀ n : Fin 256, bits BinOp.and IntKind.u8 (n.val : Int) 248 = 8 * ((n.val : Int) / 8) := by decide +kernel
theorem and_192 : ∀ n : Fin 256, bits BinOp.and IntKind.u8 (n.val : Int) 192 = 64 * ((n.val : Int) / 64) := by decide +kernel
theorem and224 (b : Int) (h0 : 0 ≤ b) (h1 : b ≤ 255) : bits BinOp.and IntKind.u8 b 224 = 32 * (b / 32) := by
 have := and_224 ⟨b.toNat, by omega⟩; simp only [Int.toNat_of_nonneg h0] at this; exact this
theorem and240 (b : Int) (h0 : 0 ≤ b) (h1 : b ≤ 255) : bits BinOp.and IntKind.u8 b 240 = 16 * (b / 16) := by
 have := and_240 ⟨b.toNat, by omega⟩; simp only [Int.toNat_of_nonneg h0] at this; exact this
theorem and248 (b : Int) (h0 : 0 ≤ b) (h1 : b ≤ 255) : bits BinOp.and IntKind.u8 b 248 = 8 * (b / 8) := by
 have := and_248 ⟨b.toNat, by omega⟩; simp only [Int.toNat_of_nonneg h0] at this; exact this
theorem and192 (b : Int) (h0 : 0 ≤ b) (h1 : b ≤ 255) : bits BinOp.and IntKind.u8 b 192 = 64 * (b / 64) := by
 have := and_192 ⟨b.toNat, by omega⟩; simp only [Int.toNat_of_nonneg h0] at this; exact this
def hdN (b : Int) : Int := if b ≤ 127 then 1 else if b ≤ 191 then 0 else if b ≤ 223 then 2 else if b ≤ 239 then 3 else if b ≤ 247 then 4 else 0
def hdR (b : Int) : Int := if b ≤ 127 then b else if b ≤ 191 then 0 else if b ≤ 223 then b % 32 else if b ≤ 239 then b % 16 else if b ≤ 247 then b % 8 else 0
theorem ne_of_pos {s : ByteArray} (h : 0 < s.size) : (!s.toList.isEmpty) = true ∧ s.toList.isEmpty = false := by
 have h2 : s.toList.isEmpty = false := by
   rw [← decide_eq_emptyBytes s, decide_eq_false_iff_not]
   rintro rfl
   exact absurd h (by decide)
 simp [h2]
theorem eq_of_zero {s : ByteArray} (h : ¬ 0 < s.size) : (!s.toList.isEmpty) = false ∧ s.toList.isEmpty = true := by
 have h2 : s.toList.isEmpty = true := by
   rw [← decide_eq_emptyBytes s, decide_eq_true_iff]
   apply ByteArray.ext
   apply Array.eq_empty_of_size_eq_zero
   have : s.data.size = s.size := rfl
   omega
 simp [h2]
theorem ret_hd {n n' r r' : Int} (hn : n = n') (hr : r = r') : Ending.returned (.tuple #[.int .i64 n, .int .i32 r]) = .returned (.tuple #[.int .i64 n', .int .i32 r']) := by rw [hn, hr]
theorem hd1 {b c : Int} (e : b = c) (g1 : b ≤ 127) : Ending.returned (.tuple #[.int .i64 1, .int .i32 b]) = .returned (.tuple #[.int .i64 (hdN c), .int .i32 (hdR c)]) := by
 subst e; exact ret_hd (by unfold hdN; rw [if_pos g1]) (by unfold hdR; rw [if_pos g1])
theorem hd2 {b c : Int} (e : b = c) (h0 : 0 ≤ b) (h1 : b ≤ 255) (g1 : 127 < b) (g2 : (bits BinOp.and IntKind.u8 b 224 == 192) = true) : Ending.returned (.tuple #[.int .i64 2, .int .i32 (b % 32)]) = .returned (.tuple #[.int .i64 (hdN c), .int .i32 (hdR c)]) := by
 subst e; rw [and224 b h0 h1, beq_iff_eq] at g2
 exact ret_hd (by unfold hdN; rw [if_neg (by omega), if_neg (by omega), if_pos (by omega)]) (by unfold hdR; rw [if_neg (by omega), if_neg (by omega), if_pos (by omega)])
theorem hd3 {b c : Int} (e : b = c) (h0 : 0 ≤ b) (h1 : b ≤ 255) (g1 : 127 < b) (g3 : (bits BinOp.and IntKind.u8 b 240 == 224) = true) : Ending.returned (.tuple #[.int .i64 3, .int .i32 (b % 16)]) = .returned (.tuple #[.int .i64 (hdN c), .int .i32 (hdR c)]) := by
 subst e; rw [and240 b h0 h1, beq_iff_eq] at g3
 exact ret_hd (by unfold hdN; rw [if_neg (by omega), if_neg (by omega), if_neg (by omega), if_pos (by omega)]) (by unfold hdR; rw [if_neg (by omega), if_neg (by omega), if_neg (by omega), if_pos (by omega)])
theorem hd4 {b c : Int} (e : b = c) (h0 : 0 ≤ b) (h1 : b ≤ 255) (g1 : 127 < b) (g4 : (bits BinOp.and IntKind.u8 b 248 == 240) = true) : Ending.returned (.tuple #[.int .i64 4, .int .i32 (b % 8)]) = .returned (.tuple #[.int .i64 (hdN c), .int .i32 (hdR c)]) := by
 subst e; rw [and248 b h0 h1, beq_iff_eq] at g4
 exact ret_hd (by unfold hdN; rw [if_neg (by omega), if_neg (by omega), if_neg (by omega), if_neg (by omega), if_pos (by omega)]) (by unfold hdR; rw [if_neg (by omega), if_neg (by omega), if_neg (by omega), if_neg (by omega), if_pos (by omega)])
theorem hd0 {b c : Int} (e : b = c) (h0 : 0 ≤ b) (h1 : b ≤ 255) (g1 : 127 < b) (g2 : (bits BinOp.and IntKind.u8 b 224 == 192) = false) (g3 : (bits BinOp.and IntKind.u8 b 240 == 224) = false) (g4 : (bits BinOp.and IntKind.u8 b 248 == 240) = false) :
   Ending.returned (.tuple #[.int .i64 0, .int .i32 0]) = .returned (.tuple #[.int .i64 (hdN c), .int .i32 (hdR c)]) := by
 subst e
 rw [and224 b h0 h1, beq_eq_false_iff_ne] at g2
 rw [and240 b h0 h1, beq_eq_false_iff_ne] at g3
 rw [and248 b h0 h1, beq_eq_false_iff_ne] at g4
 exact ret_hd (by unfold hdN; repeat' split <;> omega) (by unfold hdR; repeat' split <;> omega)
set_option maxHeartbeats 400000 in
theorem head_any (s : ByteArray) (w : World) (h0 : 0 < s.size) (h1 : s.size ≤ 9223372036854775807) :
   Calls Tryz.prog 102 #[.string s] w fun e w' => e = .returned (.tuple #[.int .i64 (hdN (bt s 0)), .int .i32 (hdR (bt s 0))]) ∧ w = w' := by
 obtain ⟨hs, hs2⟩ := ne_of_pos h0
 have hb := bt_hi s 0
 have hb' : (s[0].toNat : Int) ≤ 255 := by rw [bt_of h0]; exact hb
 have hl' : 0 ≤ (s[0].toNat : Int) := by rw [bt_of h0]; exact bt_lo s 0
 have B := Lib.hid (bt_of h0)
 go_enter Tryz.func102, Tryz.ntmps102
 go_wp2
 all_goals go_ret2
 · exact ⟨hd1 B.out (by assumption), rfl⟩
 · exact ⟨hd2 B.out hl' hb' (by assumption) (by assumption), rfl⟩
 · exact ⟨hd3 B.out hl' hb' (by assumption) (by assumption), rfl⟩
 · exact ⟨hd4 B.out hl' hb' (by assumption) (by assumption), rfl⟩
 · exact ⟨hd0 B.out hl' hb' (by assumption) (by assumption) (by assumption) (by assumption), rfl⟩
theorem head_none (s : ByteArray) (w : World) (h0 : ¬ 0 < s.size) :
   Calls Tryz.prog 102 #[.string s] w fun e w' => e = .returned (.tuple #[.int .i64 0, .int .i32 0]) ∧ w = w' := by
 obtain ⟨hs, hs2⟩ := eq_of_zero h0
 go_enter Tryz.func102, Tryz.ntmps102
 go_wp2
 go_ret2
 exact ⟨rfl, rfl⟩
end Go.Proofs.YtniaijgejljjbaaGreat.Utf
