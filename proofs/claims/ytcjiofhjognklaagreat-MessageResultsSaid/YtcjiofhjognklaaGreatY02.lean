/- tlv.value cuts the first value off bytes. -/
import Derived.Test.YtcjiofhjognklaaGreatY01
import Derived.ScopeJumps
import Derived.Laws.BitsAllLaws
namespace Go.Proofs.YtcjiofhjognklaaGreat.Tlv
open Go.RowKit
set_option maxRecDepth 100000
set_option linter.unusedVariables false
theorem i64_or_nat (a b : Nat) (ha : a < 1099511627776) (hb : b < 1099511627776) : bits .or .i64 (a : Int) (b : Int) = ((a ||| b : Nat) : Int) := by
 have hx : a ||| b < 2 ^ 40 := Nat.or_lt_two_pow (by omega) (by omega)
 show IntKind.i64.wrap ((BitVec.ofInt 64 (a : Int) ||| BitVec.ofInt 64 (b : Int)).toNat : Int) = _
 rw [BitVec.toNat_or, ofInt_u64 a (by omega), ofInt_u64 b (by omega)]
 exact IntWalk.i64_in _ (by omega)
theorem or_sum (k : Nat) (x y : Nat) (h1 : 2 ^ k * x < 1099511627776) (h2 : y < 1099511627776) (h3 : y < 2 ^ k) : bits .or .i64 ((2 ^ k * x : Nat) : Int) (y : Int) = ((2 ^ k * x + y : Nat) : Int) := by
 rw [i64_or_nat _ _ h1 h2, ← Nat.two_pow_add_eq_or_of_lt h3]
theorem four (a1 a2 a3 a4 : Int) (l1 : 0 ≤ a1) (g1 : a1 ≤ 255) (l2 : 0 ≤ a2) (g2 : a2 ≤ 255) (l3 : 0 ≤ a3) (g3 : a3 ≤ 255) (l4 : 0 ≤ a4) (g4 : a4 ≤ 255) :
   bits BinOp.or IntKind.i64 (bits BinOp.or IntKind.i64 (bits BinOp.or IntKind.i64 (a1 * 16777216) (a2 * 65536)) (a3 * 256)) a4 = a1 * 16777216 + a2 * 65536 + a3 * 256 + a4 := by
 obtain ⟨b1, rfl⟩ := Int.eq_ofNat_of_zero_le l1
 obtain ⟨b2, rfl⟩ := Int.eq_ofNat_of_zero_le l2
 obtain ⟨b3, rfl⟩ := Int.eq_ofNat_of_zero_le l3
 obtain ⟨b4, rfl⟩ := Int.eq_ofNat_of_zero_le l4
 have e1 := or_sum 24 b1 (b2 * 65536) (by omega) (by omega) (by omega)
 have e2 := or_sum 16 (b1 * 256 + b2) (b3 * 256) (by omega) (by omega) (by omega)
 have e3 := or_sum 8 ((b1 * 256 + b2) * 256 + b3) b4 (by omega) (by omega) (by omega)
 rw [show ((b1 : Nat) : Int) * 16777216 = ((2 ^ 24 * b1 : Nat) : Int) from by omega, show ((b2 : Nat) : Int) * 65536 = ((b2 * 65536 : Nat) : Int) from by omega, e1]
 rw [show 2 ^ 24 * b1 + b2 * 65536 = 2 ^ 16 * (b1 * 256 + b2) from by omega, show ((b3 : Nat) : Int) * 256 = ((b3 * 256 : Nat) : Int) from by omega, e2]
 rw [show 2 ^ 16 * (b1 * 256 + b2) + b3 * 256 = 2 ^ 8 * ((b1 * 256 + b2) * 256 + b3) from by omega, e3]
 omega
def Frm63 (a : Act) : Prop := a.defers = [] ∧ a.tmps.size = 63
theorem none_end {w' : World} {R : Ending → World → Prop} {t : Array Value} (ht : t.size = 63)
   (h : R (.returned (.tuple #[.int .u8 0, .slice none 0 0, .slice none 0 0])) w') :
   bodyPost Tryz.prog Tryz.f142 R Exit.ret { tmps := ((t.setIfInBounds 2 (Value.int IntKind.u8 0)).setIfInBounds 3 (Value.slice none 0 0)).setIfInBounds 4 (Value.slice none 0 0), defers := [] } w' := by
 refine bodyPost_ret (v := .tuple #[.int .u8 0, .slice none 0 0, .slice none 0 0]) ?_ rfl h
 simp [results, Tryz.results142, Array.getD, ht]
set_option maxHeartbeats 2000000 in
theorem val_short (A : Option Addr) (c : Nat) (l : List Int) (w : World) (hs : l.length < 5) :
   Calls Tryz.prog 142 #[.slice A l.length c] w fun e w' => e = .returned (.tuple #[.int .u8 0, .slice none 0 0, .slice none 0 0]) ∧ ∃ m, w' = w.drewN m := by
 go_enter Tryz.func142, Tryz.ntmps142
 go_wp2
 refine wp_scope_jumps 0 (fun a' w' => (∃ m, w' = w.drewN m) ∧ Frm63 a') (fun _ _ => 0) rfl ?_ ?_
 · go_wp2
   go_step3
   exact ⟨rfl, ⟨0, rfl⟩, rfl, rfl⟩
 · rintro ⟨t, d⟩ w' ⟨hw, rfl, ht⟩
   go_wp2
   simp only [Exit.jump]
   exact none_end ht ⟨rfl, hw⟩
set_option maxHeartbeats 2000000 in
theorem val_zero (b off c len : Nat) (w : World) (hs : 5 ≤ len) (h0 : w.cell? ⟨b, off, none⟩ = some (.int .u8 0)) :
   Calls Tryz.prog 142 #[.slice (some ⟨b, off, none⟩) len c] w fun e w' => e = .returned (.tuple #[.int .u8 0, .slice none 0 0, .slice none 0 0]) ∧ ∃ m, w' = w.drewN m := by
 go_enter Tryz.func142, Tryz.ntmps142
 go_wp2
 refine wp_scope_jumps 0 (fun a' w' => (∃ m, w' = w.drewN m) ∧ Frm63 a') (fun _ _ => 0) rfl ?_ ?_
 · go_wp2
   go_step3
   exact ⟨rfl, ⟨0, rfl⟩, rfl, rfl⟩
 · rintro ⟨t, d⟩ w' ⟨hw, rfl, ht⟩
   go_wp2
   simp only [Exit.jump]
   exact none_end ht ⟨rfl, hw⟩
theorem ret_val {t : Int} {A1 A2 : Option Addr} {x x' y y' : Nat} (hx : x = x') (hy : y = y') :
   Ending.returned (.tuple #[.int .u8 t, .slice A1 x x, .slice A2 y y]) = .returned (.tuple #[.int .u8 t, .slice A1 x' x', .slice A2 y' y']) := by rw [hx, hy]
set_option maxHeartbeats 4000000 in
theorem val_00 (b off c : Nat) (t a1 a2 a3 a4 : Int) (w : World) (hc : 5 ≤ c) (hcm : c ≤ 9223372036854775807) (h0 : w.cell? ⟨b, off, none⟩ = some (.int .u8 t))
   (h1 : w.cell? ⟨b, off + 1, none⟩ = some (.int .u8 a1)) (h2 : w.cell? ⟨b, off + 2, none⟩ = some (.int .u8 a2)) (h3 : w.cell? ⟨b, off + 3, none⟩ = some (.int .u8 a3)) (h4 : w.cell? ⟨b, off + 4, none⟩ = some (.int .u8 a4))
   (ht : 0 < t) (l1 : 0 ≤ a1) (g1 : a1 ≤ 255) (l2 : 0 ≤ a2) (g2 : a2 ≤ 255) (l3 : 0 ≤ a3) (g3 : a3 ≤ 255) (l4 : 0 ≤ a4) (g4 : a4 ≤ 255) (hn : a1 * 16777216 + a2 * 65536 + a3 * 256 + a4 = 0) :
   Calls Tryz.prog 142 #[.slice (some ⟨b, off, none⟩) (5) c] w fun e w' => ∃ A1 A2 : Option Addr, e = .returned (.tuple #[.int .u8 t, .slice A1 0 0, .slice A2 (5 - (5 + 0)) (5 - (5 + 0))]) ∧ ∃ m, w' = w.drewN m := by
 have ht0 : (t == 0) = false := by simp; omega
 have hf := four a1 a2 a3 a4 l1 g1 l2 g2 l3 g3 l4 g4
 rw [hn] at hf
 clear hn
 go_enter Tryz.func142, Tryz.ntmps142
 go_wp2
 refine wp_scope_jumps 0 (fun a' w' => False) (fun _ _ => 0) rfl ?_ ?_
 · go_wp2
   go_quiet (fail)
   go_wp2
   go_quiet (fail)
   go_wp2
   simp only [Exit.jump]
   go_ret3
   exact ⟨_, _, rfl, _, by first | rfl | rw [World.drewN_drewN]⟩
 · exact fun _ _ h => h.elim
set_option maxHeartbeats 4000000 in
theorem val_0l (b off c len : Nat) (t a1 a2 a3 a4 : Int) (w : World) (hs : 5 ≤ len) (hlen : len ≤ 1000000000000) (hc : len ≤ c) (hcm : c ≤ 9223372036854775807) (h0 : w.cell? ⟨b, off, none⟩ = some (.int .u8 t))
   (h1 : w.cell? ⟨b, off + 1, none⟩ = some (.int .u8 a1)) (h2 : w.cell? ⟨b, off + 2, none⟩ = some (.int .u8 a2)) (h3 : w.cell? ⟨b, off + 3, none⟩ = some (.int .u8 a3)) (h4 : w.cell? ⟨b, off + 4, none⟩ = some (.int .u8 a4))
   (ht : 0 < t) (l1 : 0 ≤ a1) (g1 : a1 ≤ 255) (l2 : 0 ≤ a2) (g2 : a2 ≤ 255) (l3 : 0 ≤ a3) (g3 : a3 ≤ 255) (l4 : 0 ≤ a4) (g4 : a4 ≤ 255) (hn : a1 * 16777216 + a2 * 65536 + a3 * 256 + a4 = 0) (hl : 5 < len) :
   Calls Tryz.prog 142 #[.slice (some ⟨b, off, none⟩) (len) c] w fun e w' => ∃ A1 A2 : Option Addr, e = .returned (.tuple #[.int .u8 t, .slice A1 0 0, .slice A2 (len - (5 + 0)) (len - (5 + 0))]) ∧ A2 = some ⟨b, off + 5, none⟩ ∧ ∃ m, w' = w.drewN m := by
 have ht0 : (t == 0) = false := by simp; omega
 have hf := four a1 a2 a3 a4 l1 g1 l2 g2 l3 g3 l4 g4
 rw [hn] at hf
 clear hn
 go_enter Tryz.func142, Tryz.ntmps142
 go_wp2
 refine wp_scope_jumps 0 (fun a' w' => False) (fun _ _ => 0) rfl ?_ ?_
 · go_wp2
   go_quiet (fail)
   go_wp2
   go_quiet (fail)
   go_wp2
   simp only [Exit.jump]
   go_ret3
   exact ⟨_, _, rfl, rfl, _, by first | rfl | rw [World.drewN_drewN]⟩
 · exact fun _ _ h => h.elim
set_option maxHeartbeats 4000000 in
theorem val_n0 (b off c len : Nat) (t a1 a2 a3 a4 : Int) (w : World) (hs : 5 ≤ len) (hlen : len ≤ 1000000000000) (hc : len ≤ c) (hcm : c ≤ 9223372036854775807) (h0 : w.cell? ⟨b, off, none⟩ = some (.int .u8 t))
   (h1 : w.cell? ⟨b, off + 1, none⟩ = some (.int .u8 a1)) (h2 : w.cell? ⟨b, off + 2, none⟩ = some (.int .u8 a2)) (h3 : w.cell? ⟨b, off + 3, none⟩ = some (.int .u8 a3)) (h4 : w.cell? ⟨b, off + 4, none⟩ = some (.int .u8 a4))
   (ht : 0 < t) (l1 : 0 ≤ a1) (g1 : a1 ≤ 255) (l2 : 0 ≤ a2) (g2 : a2 ≤ 255) (l3 : 0 ≤ a3) (g3 : a3 ≤ 255) (l4 : 0 ≤ a4) (g4 : a4 ≤ 255) (n : Nat) (hn : a1 * 16777216 + a2 * 65536 + a3 * 256 + a4 = n) (hn1 : n ≤ 4194304) (hz : 0 < n) (hl : len = 5 + n) :
   Calls Tryz.prog 142 #[.slice (some ⟨b, off, none⟩) (len) c] w fun e w' => ∃ A1 A2 : Option Addr, e = .returned (.tuple #[.int .u8 t, .slice A1 n n, .slice A2 (len - (5 + n)) (len - (5 + n))]) ∧ A1 = some ⟨b, off + 5, none⟩ ∧ ∃ m, w' = w.drewN m := by
 have ht0 : (t == 0) = false := by simp; omega
 have hf := four a1 a2 a3 a4 l1 g1 l2 g2 l3 g3 l4 g4
 rw [hn] at hf
 have b1 : (n : Int) ≤ 4194304 := by omega
 have b2 : (n : Int) ≤ (len : Int) - 5 := by omega
 have e5 : ¬ 5 + n = 5 := by omega
 clear hn
 go_enter Tryz.func142, Tryz.ntmps142
 go_wp2
 refine wp_scope_jumps 0 (fun a' w' => False) (fun _ _ => 0) rfl ?_ ?_
 · go_wp2
   go_quiet (fail)
   go_wp2
   go_quiet (fail)
   go_wp2
   simp only [Exit.jump]
   go_ret3
   exact ⟨_, _, ret_val (by omega) (by omega), rfl, _, by first | rfl | rw [World.drewN_drewN]⟩
 · exact fun _ _ h => h.elim
set_option maxHeartbeats 4000000 in
theorem val_nl (b off c len : Nat) (t a1 a2 a3 a4 : Int) (w : World) (hs : 5 ≤ len) (hlen : len ≤ 1000000000000) (hc : len ≤ c) (hcm : c ≤ 9223372036854775807) (h0 : w.cell? ⟨b, off, none⟩ = some (.int .u8 t))
   (h1 : w.cell? ⟨b, off + 1, none⟩ = some (.int .u8 a1)) (h2 : w.cell? ⟨b, off + 2, none⟩ = some (.int .u8 a2)) (h3 : w.cell? ⟨b, off + 3, none⟩ = some (.int .u8 a3)) (h4 : w.cell? ⟨b, off + 4, none⟩ = some (.int .u8 a4))
   (ht : 0 < t) (l1 : 0 ≤ a1) (g1 : a1 ≤ 255) (l2 : 0 ≤ a2) (g2 : a2 ≤ 255) (l3 : 0 ≤ a3) (g3 : a3 ≤ 255) (l4 : 0 ≤ a4) (g4 : a4 ≤ 255) (n : Nat) (hn : a1 * 16777216 + a2 * 65536 + a3 * 256 + a4 = n) (hn1 : n ≤ 4194304) (hz : 0 < n) (hl : 5 + n < len) :
   Calls Tryz.prog 142 #[.slice (some ⟨b, off, none⟩) (len) c] w fun e w' => ∃ A1 A2 : Option Addr, e = .returned (.tuple #[.int .u8 t, .slice A1 n n, .slice A2 (len - (5 + n)) (len - (5 + n))]) ∧ A1 = some ⟨b, off + 5, none⟩ ∧ A2 = some ⟨b, off + (5 + n), none⟩ ∧ ∃ m, w' = w.drewN m := by
 have ht0 : (t == 0) = false := by simp; omega
 have hf := four a1 a2 a3 a4 l1 g1 l2 g2 l3 g3 l4 g4
 rw [hn] at hf
 have b1 : (n : Int) ≤ 4194304 := by omega
 have b2 : (n : Int) ≤ (len : Int) - 5 := by omega
 clear hn
 go_enter Tryz.func142, Tryz.ntmps142
 go_wp2
 refine wp_scope_jumps 0 (fun a' w' => False) (fun _ _ => 0) rfl ?_ ?_
 · go_wp2
   go_quiet (fail)
   go_wp2
   go_quiet (fail)
   go_wp2
   simp only [Exit.jump]
   go_ret3
   exact ⟨_, _, ret_val (by omega) rfl, rfl, rfl, _, by first | rfl | rw [World.drewN_drewN]⟩
 · exact fun _ _ h => h.elim
set_option maxHeartbeats 4000000 in
theorem val_big (b off c len : Nat) (t a1 a2 a3 a4 : Int) (w : World) (hs : 5 ≤ len) (hlen : len ≤ 1000000000000) (hc : len ≤ c) (hcm : c ≤ 9223372036854775807) (h0 : w.cell? ⟨b, off, none⟩ = some (.int .u8 t))
   (h1 : w.cell? ⟨b, off + 1, none⟩ = some (.int .u8 a1)) (h2 : w.cell? ⟨b, off + 2, none⟩ = some (.int .u8 a2)) (h3 : w.cell? ⟨b, off + 3, none⟩ = some (.int .u8 a3)) (h4 : w.cell? ⟨b, off + 4, none⟩ = some (.int .u8 a4))
   (ht : 0 < t) (l1 : 0 ≤ a1) (g1 : a1 ≤ 255) (l2 : 0 ≤ a2) (g2 : a2 ≤ 255) (l3 : 0 ≤ a3) (g3 : a3 ≤ 255) (l4 : 0 ≤ a4) (g4 : a4 ≤ 255) (n : Nat) (hn : a1 * 16777216 + a2 * 65536 + a3 * 256 + a4 = n) (hn1 : 4194304 < n ∨ len < 5 + n) :
   Calls Tryz.prog 142 #[.slice (some ⟨b, off, none⟩) len c] w fun e w' => e = .returned (.tuple #[.int .u8 0, .slice none 0 0, .slice none 0 0]) ∧ ∃ m, w' = w.drewN m := by
 have ht0 : (t == 0) = false := by simp; omega
 have hf := four a1 a2 a3 a4 l1 g1 l2 g2 l3 g3 l4 g4
 rw [hn] at hf
 clear hn
 by_cases h5 : 4194304 < n
 · have b1 : (4194304 : Int) < n := by omega
   clear hn1 h5
   go_enter Tryz.func142, Tryz.ntmps142
   go_wp2
   refine wp_scope_jumps 0 (fun a' w' => (∃ m, w' = w.drewN m) ∧ Frm63 a') (fun _ _ => 0) rfl ?_ ?_
   · go_wp2
     go_quiet (fail)
     go_wp2
     go_step3
     exact ⟨rfl, ⟨_, rfl⟩, rfl, rfl⟩
   · rintro ⟨t, d⟩ w' ⟨hw, rfl, ht⟩
     go_wp2
     simp only [Exit.jump]
     exact none_end ht ⟨rfl, hw⟩
 · have b1 : (n : Int) ≤ 4194304 := by omega
   have b2 : (len : Int) - 5 < n := by omega
   clear hn1 h5
   go_enter Tryz.func142, Tryz.ntmps142
   go_wp2
   refine wp_scope_jumps 0 (fun a' w' => (∃ m, w' = w.drewN m) ∧ Frm63 a') (fun _ _ => 0) rfl ?_ ?_
   · go_wp2
     go_quiet (fail)
     go_wp2
     go_step3
     exact ⟨rfl, ⟨_, rfl⟩, rfl, rfl⟩
   · rintro ⟨t, d⟩ w' ⟨hw, rfl, ht⟩
     go_wp2
     simp only [Exit.jump]
     exact none_end ht ⟨rfl, hw⟩
def nv (l : List Int) : Nat := (l.getD 1 0 * 16777216 + l.getD 2 0 * 65536 + l.getD 3 0 * 256 + l.getD 4 0).toNat
def stands (l : List Int) : Bool := decide (5 ≤ l.length ∧ l.getD 0 0 ≠ 0 ∧ nv l ≤ 4194304 ∧ 5 + nv l ≤ l.length)
def Byt (l : List Int) : Prop := ∀ x ∈ l, 0 ≤ x ∧ x ≤ 255
theorem Byt.at {l : List Int} (h : Byt l) (i : Nat) : 0 ≤ l.getD i 0 ∧ l.getD i 0 ≤ 255 := by
 rcases Nat.lt_or_ge i l.length with hi | hi
 · rw [List.getD_eq_getElem?_getD, List.getElem?_eq_getElem hi]; exact h _ (List.getElem_mem hi)
 · rw [List.getD_eq_getElem?_getD, List.getElem?_eq_none hi]; simp
theorem Rd.drewN {w : World} {B : Nat} {A : Option Addr} {l : List Int} (h : Rd w B A l) (m : Nat) : Rd (w.drewN m) B A l := h
theorem Rd.part {w : World} {B b off : Nat} {l : List Int} (h : Rd w B (some ⟨b, off, none⟩) l) (k n : Nat) {A' : Option Addr} (hk : k + n ≤ l.length) (hA : 0 < n → A' = some ⟨b, off + k, none⟩) : Rd w B A' ((l.drop k).take n) := fun hp => by
 have hlen : ((l.drop k).take n).length = n := by rw [List.length_take, List.length_drop]; omega
 rw [hlen] at hp
 obtain ⟨b', off', e, hlt, hc⟩ := h (by omega)
 injection e with e
 injection e with e1 e2
 subst e1; subst e2
 refine ⟨b, off + k, hA hp, hlt, fun j hj => ?_⟩
 rw [hlen] at hj
 have := hc (k + j) (by omega)
 rw [Nat.add_assoc, this, List.getD_eq_getElem?_getD, List.getD_eq_getElem?_getD, List.getElem?_take_of_lt hj, List.getElem?_drop]
theorem value_any (A : Option Addr) (c B : Nat) (l : List Int) (w : World) (hr : Rd w B A l) (hby : Byt l) (hlen : l.length ≤ 1000000000000) (hc : l.length ≤ c) (hcm : c ≤ 9223372036854775807) :
   Calls Tryz.prog 142 #[.slice A l.length c] w fun e w' => (∃ m, w' = w.drewN m) ∧
     ((stands l = false ∧ e = .returned (.tuple #[.int .u8 0, .slice none 0 0, .slice none 0 0])) ∨
      (stands l = true ∧ ∃ A1 A2 : Option Addr, e = .returned (.tuple #[.int .u8 (l.getD 0 0), .slice A1 (nv l) (nv l), .slice A2 (l.length - (5 + nv l)) (l.length - (5 + nv l))]) ∧
        Rd w B A1 ((l.drop 5).take (nv l)) ∧ Rd w B A2 (l.drop (5 + nv l)))) := by
 by_cases hs : 5 ≤ l.length
 rotate_left
 · exact (val_short A c l w (by omega)).mono fun e w' ⟨he, hw⟩ => ⟨hw, .inl ⟨decide_eq_false (fun h => hs h.1), he⟩⟩
 obtain ⟨b, off, rfl, hlt, hcell⟩ := hr (by omega)
 have h0 := hcell 0 (by omega)
 rw [Nat.add_zero] at h0
 have h1 := hcell 1 (by omega)
 have h2 := hcell 2 (by omega)
 have h3 := hcell 3 (by omega)
 have h4 := hcell 4 (by omega)
 have y0 := hby.at 0
 have y1 := hby.at 1
 have y2 := hby.at 2
 have y3 := hby.at 3
 have y4 := hby.at 4
 by_cases hz : l.getD 0 0 = 0
 · rw [hz] at h0
   exact (val_zero b off c l.length w hs h0).mono fun e w' ⟨he, hw⟩ => ⟨hw, .inl ⟨decide_eq_false (fun h => h.2.1 hz), he⟩⟩
 have hn : l.getD 1 0 * 16777216 + l.getD 2 0 * 65536 + l.getD 3 0 * 256 + l.getD 4 0 = (nv l : Int) := by unfold nv; omega
 by_cases hbig : 4194304 < nv l ∨ l.length < 5 + nv l
 · exact (val_big b off c l.length _ _ _ _ _ w hs hlen hc hcm h0 h1 h2 h3 h4 (by omega) y1.1 y1.2 y2.1 y2.2 y3.1 y3.2 y4.1 y4.2 (nv l) hn hbig).mono fun e w' ⟨he, hw⟩ =>
     ⟨hw, .inl ⟨decide_eq_false (fun h => by have := h.2.2; omega), he⟩⟩
 have hst : stands l = true := decide_eq_true ⟨hs, hz, by omega, by omega⟩
 have fin : ∀ (e : Ending) (w' : World), (∃ A1 A2 : Option Addr, e = .returned (.tuple #[.int .u8 (l.getD 0 0), .slice A1 (nv l) (nv l), .slice A2 (l.length - (5 + nv l)) (l.length - (5 + nv l))]) ∧ (0 < nv l → A1 = some ⟨b, off + 5, none⟩) ∧
     (0 < l.length - (5 + nv l) → A2 = some ⟨b, off + (5 + nv l), none⟩) ∧ ∃ m, w' = w.drewN m) → (∃ m, w' = w.drewN m) ∧
     ((stands l = false ∧ e = .returned (.tuple #[.int .u8 0, .slice none 0 0, .slice none 0 0])) ∨
      (stands l = true ∧ ∃ A1 A2 : Option Addr, e = .returned (.tuple #[.int .u8 (l.getD 0 0), .slice A1 (nv l) (nv l), .slice A2 (l.length - (5 + nv l)) (l.length - (5 + nv l))]) ∧
        Rd w B A1 ((l.drop 5).take (nv l)) ∧ Rd w B A2 (l.drop (5 + nv l)))) := by
   rintro e w' ⟨A1, A2, he, hA1, hA2, hw⟩
   refine ⟨hw, .inr ⟨hst, A1, A2, he, hr.part 5 (nv l) (by omega) hA1, ?_⟩⟩
   have := hr.part (5 + nv l) (l.length - (5 + nv l)) (by omega) hA2
   rwa [List.take_of_length_le (by rw [List.length_drop]; omega)] at this
 have c1 : l.getD 0 0 > 0 := by omega
 rcases Nat.eq_zero_or_pos (nv l) with hz0 | hzp
 · rw [hz0] at hn fin ⊢
   rcases Nat.lt_or_ge 5 l.length with hl | hl
   · exact (val_0l b off c l.length _ _ _ _ _ w hs hlen hc hcm h0 h1 h2 h3 h4 c1 y1.1 y1.2 y2.1 y2.2 y3.1 y3.2 y4.1 y4.2 hn hl).mono fun e w' ⟨A1, A2, he, hA2, hw⟩ =>
       fin e w' ⟨A1, A2, he, fun h => by omega, fun _ => hA2, hw⟩
   · have e5 : l.length = 5 := by omega
     rw [e5] at hc fin ⊢
     exact (val_00 b off c _ _ _ _ _ w hc hcm h0 h1 h2 h3 h4 c1 y1.1 y1.2 y2.1 y2.2 y3.1 y3.2 y4.1 y4.2 hn).mono fun e w' ⟨A1, A2, he, hw⟩ =>
       fin e w' ⟨A1, A2, he, fun h => by omega, fun h => by omega, hw⟩
 · rcases Nat.lt_or_ge (5 + nv l) l.length with hl | hl
   · exact (val_nl b off c l.length _ _ _ _ _ w hs hlen hc hcm h0 h1 h2 h3 h4 c1 y1.1 y1.2 y2.1 y2.2 y3.1 y3.2 y4.1 y4.2 (nv l) hn (by omega) hzp hl).mono fun e w' ⟨A1, A2, he, hA1, hA2, hw⟩ =>
       fin e w' ⟨A1, A2, he, fun _ => hA1, fun _ => hA2, hw⟩
   · exact (val_n0 b off c l.length _ _ _ _ _ w hs hlen hc hcm h0 h1 h2 h3 h4 c1 y1.1 y1.2 y2.1 y2.2 y3.1 y3.2 y4.1 y4.2 (nv l) hn (by omega) hzp (by omega)).mono fun e w' ⟨A1, A2, he, hA1, hw⟩ =>
       fin e w' ⟨A1, A2, he, fun _ => hA1, fun h => by omega, hw⟩
end Go.Proofs.YtcjiofhjognklaaGreat.Tlv
