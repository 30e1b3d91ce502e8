/- ref.First cuts the first value off bytes, as the book reckons it. -/
import Derived.Test.YtlhbnmaalhainaaTValue
namespace Go.Proofs.Ytlhbnmaalhainaa.Tlv
open Go.RowKit
set_option maxRecDepth 100000
set_option linter.unusedVariables false

set_option maxHeartbeats 2000000 in
theorem fst_short (A : Option Addr) (c : Nat) (l : List Int) (w : World) (hs : l.length < 5) :
    Calls Try.prog 88 #[.slice A l.length c] w fun e w' => e = .returned (.tuple #[.int .u8 0, .slice none 0 0, .int .i64 0]) ∧ ∃ m, w' = w.drewN m := by
  go_enter Try.func88, Try.ntmps88
  go_wp2
  go_ret3
  exact ⟨rfl, 0, rfl⟩

set_option maxHeartbeats 2000000 in
theorem fst_zero (b off c len : Nat) (w : World) (hs : 5 ≤ len) (h0 : w.cell? ⟨b, off, none⟩ = some (.int .u8 0)) :
    Calls Try.prog 88 #[.slice (some ⟨b, off, none⟩) len c] w fun e w' => e = .returned (.tuple #[.int .u8 0, .slice none 0 0, .int .i64 0]) ∧ ∃ m, w' = w.drewN m := by
  go_enter Try.func88, Try.ntmps88
  go_wp2
  go_ret3
  exact ⟨rfl, 0, rfl⟩

set_option maxHeartbeats 4000000 in
theorem fst_big (b off c len : Nat) (t a1 a2 a3 a4 : Int) (w : World) (hs : 5 ≤ len) (hlen : len ≤ 1000000000000) (h0 : w.cell? ⟨b, off, none⟩ = some (.int .u8 t))
    (h1 : w.cell? ⟨b, off + 1, none⟩ = some (.int .u8 a1)) (h2 : w.cell? ⟨b, off + 2, none⟩ = some (.int .u8 a2)) (h3 : w.cell? ⟨b, off + 3, none⟩ = some (.int .u8 a3)) (h4 : w.cell? ⟨b, off + 4, none⟩ = some (.int .u8 a4))
    (ht : 0 < t) (l1 : 0 ≤ a1) (g1 : a1 ≤ 255) (l2 : 0 ≤ a2) (g2 : a2 ≤ 255) (l3 : 0 ≤ a3) (g3 : a3 ≤ 255) (l4 : 0 ≤ a4) (g4 : a4 ≤ 255) (n : Nat) (hn : 16777216 * a1 + 65536 * a2 + 256 * a3 + a4 = n) (hn1 : 4194304 < n ∨ len < 5 + n) :
    Calls Try.prog 88 #[.slice (some ⟨b, off, none⟩) len c] w fun e w' => e = .returned (.tuple #[.int .u8 0, .slice none 0 0, .int .i64 0]) ∧ ∃ m, w' = w.drewN m := by
  have ht0 : (t == 0) = false := by simp; omega
  by_cases h5 : 4194304 < n
  · have b1 : (4194304 : Int) < n := by omega
    clear hn1 h5
    go_enter Try.func88, Try.ntmps88
    go_wp2
    go_quiet (fail)
    go_wp2
    go_ret3
    exact ⟨rfl, _, by first | rfl | rw [World.drewN_drewN]⟩
  · have b1 : (n : Int) ≤ 4194304 := by omega
    have b2 : (len : Int) - 5 < n := by omega
    clear hn1 h5
    go_enter Try.func88, Try.ntmps88
    go_wp2
    go_quiet (fail)
    go_wp2
    go_ret3
    exact ⟨rfl, _, by first | rfl | rw [World.drewN_drewN]⟩

theorem ret_first {t : Int} {A : Option Addr} {x x' y : Nat} {k k' : Int} (hx : x = x') (hk : k = k') :
    Ending.returned (.tuple #[.int .u8 t, .slice A x y, .int .i64 k]) = .returned (.tuple #[.int .u8 t, .slice A x' y, .int .i64 k']) := by rw [hx, hk]

set_option maxHeartbeats 4000000 in
theorem fst_ok (b off c len : Nat) (t a1 a2 a3 a4 : Int) (w : World) (hs : 5 ≤ len) (hlen : len ≤ 1000000000000) (hc : len ≤ c) (hcm : c ≤ 9223372036854775807) (h0 : w.cell? ⟨b, off, none⟩ = some (.int .u8 t))
    (h1 : w.cell? ⟨b, off + 1, none⟩ = some (.int .u8 a1)) (h2 : w.cell? ⟨b, off + 2, none⟩ = some (.int .u8 a2)) (h3 : w.cell? ⟨b, off + 3, none⟩ = some (.int .u8 a3)) (h4 : w.cell? ⟨b, off + 4, none⟩ = some (.int .u8 a4))
    (ht : 0 < t) (l1 : 0 ≤ a1) (g1 : a1 ≤ 255) (l2 : 0 ≤ a2) (g2 : a2 ≤ 255) (l3 : 0 ≤ a3) (g3 : a3 ≤ 255) (l4 : 0 ≤ a4) (g4 : a4 ≤ 255) (n : Nat) (hn : 16777216 * a1 + 65536 * a2 + 256 * a3 + a4 = n) (hn1 : n ≤ 4194304) (hl : 5 + n ≤ len) (hc5 : 5 < c) :
    Calls Try.prog 88 #[.slice (some ⟨b, off, none⟩) len c] w fun e w' => e = .returned (.tuple #[.int .u8 t, .slice (some ⟨b, off + 5, none⟩) n (c - 5), .int .i64 (5 + n : Nat)]) ∧ ∃ m, w' = w.drewN m := by
  have ht0 : (t == 0) = false := by simp; omega
  have b1 : (n : Int) ≤ 4194304 := by omega
  have b2 : (n : Int) ≤ (len : Int) - 5 := by omega
  go_enter Try.func88, Try.ntmps88
  go_wp2
  go_quiet (fail)
  go_wp2
  go_quiet (fail)
  go_wp2
  go_ret3
  exact ⟨ret_first (by omega) (by omega), _, by first | rfl | rw [World.drewN_drewN]⟩

set_option maxHeartbeats 4000000 in
theorem fst_edge (b off : Nat) (t a1 a2 a3 a4 : Int) (w : World) (h0 : w.cell? ⟨b, off, none⟩ = some (.int .u8 t))
    (h1 : w.cell? ⟨b, off + 1, none⟩ = some (.int .u8 a1)) (h2 : w.cell? ⟨b, off + 2, none⟩ = some (.int .u8 a2)) (h3 : w.cell? ⟨b, off + 3, none⟩ = some (.int .u8 a3)) (h4 : w.cell? ⟨b, off + 4, none⟩ = some (.int .u8 a4))
    (ht : 0 < t) (l1 : 0 ≤ a1) (g1 : a1 ≤ 255) (l2 : 0 ≤ a2) (g2 : a2 ≤ 255) (l3 : 0 ≤ a3) (g3 : a3 ≤ 255) (l4 : 0 ≤ a4) (g4 : a4 ≤ 255) (hn : 16777216 * a1 + 65536 * a2 + 256 * a3 + a4 = 0) :
    Calls Try.prog 88 #[.slice (some ⟨b, off, none⟩) 5 5] w fun e w' => ∃ A1 : Option Addr, A1.isSome = true ∧ e = .returned (.tuple #[.int .u8 t, .slice A1 0 0, .int .i64 5]) ∧ ∃ m, w' = w.drewN m := by
  have ht0 : (t == 0) = false := by simp; omega
  go_enter Try.func88, Try.ntmps88
  go_wp2
  go_quiet (fail)
  go_wp2
  go_quiet (fail)
  go_wp2
  go_ret3
  exact ⟨_, rfl, rfl, _, by first | rfl | rw [World.drewN_drewN]⟩

/-- THE CONTRACT of ref.First. -/
theorem first_any (A : Option Addr) (c B : Nat) (l : List Int) (w : World) (hr : Rd w B A l) (hby : Byt l) (hlen : l.length ≤ 1000000000000) (hc : l.length ≤ c) (hcm : c ≤ 9223372036854775807) :
    Calls Try.prog 88 #[.slice A l.length c] w fun e w' => (∃ m, w' = w.drewN m) ∧
      ((stands l = false ∧ e = .returned (.tuple #[.int .u8 0, .slice none 0 0, .int .i64 0])) ∨
       (stands l = true ∧ ∃ (A1 : Option Addr) (c1 : Nat), e = .returned (.tuple #[.int .u8 (l.getD 0 0), .slice A1 (nv l) c1, .int .i64 (5 + nv l : Nat)]) ∧
         Rd w B A1 ((l.drop 5).take (nv l)) ∧ A1.isSome = true ∧ nv l ≤ c1 ∧ c1 ≤ c)) := by
  by_cases hs : 5 ≤ l.length
  rotate_left
  · exact (fst_short A c l w (by omega)).mono fun e w' ⟨he, hw⟩ => ⟨hw, .inl ⟨decide_eq_false (fun h => hs h.1), he⟩⟩
  obtain ⟨b, off, rfl, hlt, hcell⟩ := hr (by omega)
  have h0 := hcell 0 (by omega)
  rw [Nat.add_zero] at h0
  have h1 := hcell 1 (by omega)
  have h2 := hcell 2 (by omega)
  have h3 := hcell 3 (by omega)
  have h4 := hcell 4 (by omega)
  have y0 := hby.at 0
  have y1 := hby.at 1
  have y2 := hby.at 2
  have y3 := hby.at 3
  have y4 := hby.at 4
  by_cases hz : l.getD 0 0 = 0
  · rw [hz] at h0
    exact (fst_zero b off c l.length w hs h0).mono fun e w' ⟨he, hw⟩ => ⟨hw, .inl ⟨decide_eq_false (fun h => h.2.1 hz), he⟩⟩
  have hn : 16777216 * l.getD 1 0 + 65536 * l.getD 2 0 + 256 * l.getD 3 0 + l.getD 4 0 = (nv l : Int) := by unfold nv; omega
  have c1 : l.getD 0 0 > 0 := by omega
  by_cases hbig : 4194304 < nv l ∨ l.length < 5 + nv l
  · exact (fst_big b off c l.length _ _ _ _ _ w hs hlen h0 h1 h2 h3 h4 (by omega) y1.1 y1.2 y2.1 y2.2 y3.1 y3.2 y4.1 y4.2 (nv l) hn hbig).mono fun e w' ⟨he, hw⟩ =>
      ⟨hw, .inl ⟨decide_eq_false (fun h => by have := h.2.2; omega), he⟩⟩
  have hst : stands l = true := decide_eq_true ⟨hs, hz, by omega, by omega⟩
  by_cases hc5 : 5 < c
  · exact (fst_ok b off c l.length _ _ _ _ _ w hs hlen hc hcm h0 h1 h2 h3 h4 c1 y1.1 y1.2 y2.1 y2.2 y3.1 y3.2 y4.1 y4.2 (nv l) hn (by omega) (by omega) hc5).mono fun e w' ⟨he, hw⟩ =>
      ⟨hw, .inr ⟨hst, _, _, he, hr.part 5 (nv l) (by omega) (fun _ => rfl), rfl, by omega, by omega⟩⟩
  · obtain rfl : c = 5 := by omega
    have e5 : l.length = 5 := by omega
    have e0 : nv l = 0 := by omega
    rw [e0] at hn ⊢
    rw [e5]
    exact (fst_edge b off _ _ _ _ _ w h0 h1 h2 h3 h4 c1 y1.1 y1.2 y2.1 y2.2 y3.1 y3.2 y4.1 y4.2 hn).mono fun e w' ⟨A1, hA1, he, hw⟩ =>
      ⟨hw, .inr ⟨hst, A1, 0, he, by simpa using Rd.nil, hA1, Nat.le_refl _, by omega⟩⟩
end Go.Proofs.Ytlhbnmaalhainaa.Tlv
