/- UtfJoins, the walk. -/
import Derived.Test.YtnokocaodnanoaaKnown
import Derived.Test.YtnokocaodnanoaaDecode
import Derived.Test.YtnokocaodnanoaaJoinFns
namespace Go.Proofs.Ytnokocaodnanoaa
open Go.RowKit
set_option linter.unusedVariables false

set_option maxHeartbeats 1000000 in
theorem joins_long (s t : ByteArray) (c : Int) (w : World) (h1 : s.size ≤ maxLen) (h2 : t.size ≤ maxLen) (hl : 3000 < s.size ∨ 3000 < t.size) :
    Calls Try.prog 7 #[.string s, .string t, .int .i64 c] w fun e w' => e = .returned (.bool true) ∧ Below w.heap.size w w' := by
  unfold maxLen at h1 h2
  by_cases hs : 3000 < s.size
  · go_enter Try.func7, Try.ntmps7
    go_wp2_with (go_at_call 9; refine (known_any _).mono ?_; rintro e w1 ⟨rfl, hb1⟩)
    go_ret
    exact ⟨rfl, hb1⟩
  · have ht : 3000 < t.size := by omega
    clear hl
    go_enter Try.func7, Try.ntmps7
    go_wp2_with (go_at_call 9; refine (known_any _).mono ?_; rintro e w1 ⟨rfl, hb1⟩)
    go_ret
    exact ⟨rfl, hb1⟩

set_option maxHeartbeats 1000000 in
theorem joins_invalid (s t : ByteArray) (c : Int) (w : World) (h1 : s.size ≤ 3000) (h2 : t.size ≤ 3000) (hv : upto s ≠ s.size) :
    Calls Try.prog 7 #[.string s, .string t, .int .i64 c] w fun e w' => e = .returned (.bool true) ∧ Below w.heap.size w w' := by
  have hx := fun W => valid_any s W (by omega)
  rw [decide_eq_false hv] at hx
  have Hx := Lib.hid hx
  clear hx hv
  go_enter Try.func7, Try.ntmps7
  go_wp2_with (first
    | (go_at_call 9; refine (known_any _).mono ?_; rintro e w1 ⟨rfl, hb1⟩)
    | (go_at_call 19; refine (Hx.out _).mono ?_; rintro e w' ⟨rfl, rfl⟩))
  go_ret
  exact ⟨rfl, hb1⟩

set_option maxHeartbeats 1000000 in
theorem joins_out (s t : ByteArray) (c : Int) (w : World) (h1 : s.size ≤ 3000) (h2 : t.size ≤ 3000) (hv : upto s = s.size) (hc : c < 0 ∨ (s.size : Int) < c) :
    Calls Try.prog 7 #[.string s, .string t, .int .i64 c] w fun e w' => e = .returned (.bool true) ∧ Below w.heap.size w w' := by
  have hx := fun W => valid_any s W (by omega)
  rw [decide_eq_true hv] at hx
  have hy := fun W => where_any (s ++ t) W (by simp; omega)
  have hz := fun W => where_any t W (by omega)
  rw [joins_app s t hv] at hy
  have hu := upto_le t
  generalize upto t = u at *
  rw [show ((s.size + u : Nat) : Int) = (s.size : Int) + (u : Int) from by omega] at hy
  have Hx := Lib.hid hx
  have Hy := Lib.hid hy
  have Hz := Lib.hid hz
  clear hx hv hy hz
  by_cases hn : c < 0
  · clear hc
    go_enter Try.func7, Try.ntmps7
    go_wp2_with (first
      | (go_at_call 9; refine (known_any _).mono ?_; rintro e w1 ⟨rfl, hb1⟩)
      | (go_at_call_of 20 (Value.string (s ++ t)); refine (Hy.out _).mono ?_; rintro e w' ⟨rfl, rfl⟩)
      | (go_at_call_of 20 (Value.string t); refine (Hz.out _).mono ?_; rintro e w' ⟨rfl, rfl⟩)
      | (go_at_call 19; refine (Hx.out _).mono ?_; rintro e w' ⟨rfl, rfl⟩))
    go_ret
    exact ⟨rfl, hb1⟩
  · have hn2 : (s.size : Int) < c := by omega
    clear hc
    go_enter Try.func7, Try.ntmps7
    go_wp2_with (first
      | (go_at_call 9; refine (known_any _).mono ?_; rintro e w1 ⟨rfl, hb1⟩)
      | (go_at_call_of 20 (Value.string (s ++ t)); refine (Hy.out _).mono ?_; rintro e w' ⟨rfl, rfl⟩)
      | (go_at_call_of 20 (Value.string t); refine (Hz.out _).mono ?_; rintro e w' ⟨rfl, rfl⟩)
      | (go_at_call 19; refine (Hx.out _).mono ?_; rintro e w' ⟨rfl, rfl⟩))
    go_ret
    exact ⟨rfl, hb1⟩

theorem row_cell {w : World} {base : Nat} {v : Value} {l : List Int} (h : Row32 w base v l) {k : Nat} (hk : k < l.length) :
    ∃ g cap, v = .slice (some ⟨g, 0, none⟩) l.length cap ∧ g < w.heap.size ∧ base ≤ g ∧ w.cell? ⟨g, k, none⟩ = some (.int .i32 (l.getD k 0)) := by
  have hf : ∃ g cap, v = .slice (some ⟨g, 0, none⟩) l.length cap ∧ base ≤ g ∧ g < w.heap.size := by
    rcases h.2 with ⟨_, hn⟩ | ⟨g, cap, cur, hv, hb, hg, _⟩
    · omega
    · exact ⟨g, cap, hv, hb, (Array.getElem?_eq_some_iff.1 hg).1⟩
  obtain ⟨g, cap, hv, hb, hlt⟩ := hf
  refine ⟨g, cap, hv, hlt, hb, ?_⟩
  have := World.ownsRow.cells h (g := g) (by rw [hv]; rfl) k (.int .i32 (l.getD k 0)) (by simp [List.getElem?_map, List.getElem?_eq_getElem hk, List.getD_eq_getElem?_getD])
  rwa [show (⟨g, 0, none⟩ : Addr).add k = ⟨g, k, none⟩ from by unfold Addr.add; by_cases h : k = 0 <;> simp [h]] at this
theorem row_len {w : World} {base : Nat} {v : Value} {l : List Int} (h : Row32 w base v l) : ∃ A cap, v = .slice A l.length cap := by
  rcases h.2 with ⟨rfl, hn⟩ | ⟨g, cap, cur, rfl, _⟩
  · exact ⟨none, 0, by rw [hn]⟩
  · exact ⟨_, cap, rfl⟩

theorem joins_go {s : ByteArray} {a k c : Nat} {b B : Bool} (hk : k < (runes s).length) (hd : (runes s).drop k = (dec s a).1) (hB : (b || pl s c a) = B) :
    NN s a ≠ 0 ∧ (runes s).getD k 0 = RR s a ∧ (runes s).drop (k + 1) = (dec s (a + (NN s a).toNat)).1 ∧ ((b || decide (a = c)) || pl s c (a + (NN s a).toNat)) = B := by
  have hn : NN s a ≠ 0 := fun e => by
    rw [dec_stop e] at hd
    have := congrArg List.length hd
    simp at this; omega
  have hr := NN_range s a
  rw [dec_step hn] at hd
  rw [pl_step hn] at hB
  rw [List.drop_eq_getElem_cons hk] at hd
  injection hd with h1 h2
  refine ⟨hn, ?_, h2, by rw [Bool.or_assoc]; exact hB⟩
  rw [List.getD_eq_getElem?_getD, List.getElem?_eq_getElem hk]; exact h1
theorem joins_end {s : ByteArray} {a c : Nat} {b B : Bool} (hd : (runes s).drop (runes s).length = (dec s a).1) (hB : (b || pl s c a) = B) : b = B := by
  have hn : NN s a = 0 := Classical.byContradiction fun h => by
    rw [dec_step h] at hd
    simp at hd
  rw [pl_stop hn, Bool.or_false] at hB
  exact hB

set_option maxHeartbeats 8000000 in
theorem joins_main (s t : ByteArray) (c u : Nat) (B b0 : Bool) (w : World) (h1 : s.size ≤ 3000) (h2 : t.size ≤ 3000) (hc : c ≤ s.size) (hu : u ≤ t.size) (hrl : (runes s).length ≤ s.size)
    (hce : (((c : Nat) : Int) == (s.size : Int)) = b0)
    (hx : ∀ W, Calls Try.prog 19 #[.string s] W fun e w' => e = .returned (.bool true) ∧ W = w')
    (hy : ∀ W, Calls Try.prog 20 #[.string (s ++ t)] W fun e w' => e = .returned (.int .i64 ((s.size : Int) + (u : Int))) ∧ W = w')
    (hz : ∀ W, Calls Try.prog 20 #[.string t] W fun e w' => e = .returned (.int .i64 u) ∧ W = w')
    (hp : ∀ W, Calls Try.prog 19 #[.string (s.extract 0 c)] W fun e w' => e = .returned (.bool B) ∧ W = w')
    (hq : ∀ W, Calls Try.prog 19 #[.string (s.extract c s.size)] W fun e w' => e = .returned (.bool B) ∧ W = w')
    (hs0 : (b0 || pl s c 0) = B) :
    Calls Try.prog 7 #[.string s, .string t, .int .i64 c] w fun e w' => e = .returned (.bool true) ∧ Below w.heap.size w w' := by
  have Hx := Lib.hid hx
  have Hy := Lib.hid hy
  have Hz := Lib.hid hz
  have Hp := Lib.hid hp
  have Hq := Lib.hid hq
  have Hs := Lib.hid hs0
  clear hx hy hz hp hq hs0
  go_enter Try.func7, Try.ntmps7
  go_wp2_with (first
    | (go_at_call_of 20 (Value.string (s ++ t)); refine (Hy.out _).mono ?_; rintro e w' ⟨rfl, rfl⟩)
    | (go_at_call_of 20 (Value.string t); refine (Hz.out _).mono ?_; rintro e w' ⟨rfl, rfl⟩)
    | (go_at_call_of 19 (Value.string s); refine (Hx.out _).mono ?_; rintro e w' ⟨rfl, rfl⟩)
    | (go_at_call 17; refine (refDec_any s _ (by omega)).mono ?_; rintro e w1 ⟨v, rfl, hrow, hb⟩))
  go_loopw [7, 8, 11] (fun bb at_ i wr => ∃ (k a : Nat) (b : Bool), bb = .bool b ∧ at_ = .int .i64 a ∧ i = .int .i64 k ∧ k ≤ (runes s).length ∧ a ≤ s.size ∧
    Hid ((runes s).drop k = (dec s a).1 ∧ (b || pl s c a) = B) ∧ Row32 wr w.heap.size v (runes s) ∧ Below w.heap.size w wr) (fun _ _ i _ => (runes s).length - (intOf i).toNat)
  case atStart => exact ⟨0, 0, b0, rfl, rfl, rfl, Nat.zero_le _, Nat.zero_le _, Lib.hid ⟨rfl, Hs.out⟩, hrow, hb⟩
  case round =>
    clear hrow hb hce
    obtain ⟨k, a, b, rfl, rfl, rfl, hk, ha, hd, hrow, hb⟩ := hrel
    by_cases hlt : k < (runes s).length
    · obtain ⟨g, cap, rfl, hg1, hg2, hcell⟩ := row_cell hrow hlt
      obtain ⟨hn, hr, hd1, hd2⟩ := joins_go hlt hd.out.1 hd.out.2
      obtain ⟨hm, hlen⟩ := NN_size hn
      have hrg := NN_range s a
      rw [hr] at hcell
      obtain ⟨n, hN⟩ : ∃ n : Nat, NN s a = n := ⟨(NN s a).toNat, by omega⟩
      rw [hN] at hd1 hd2 hlen hrg
      rw [Int.toNat_natCast] at hd1 hd2
      have hpp := put_any (RR s a) wr hm
      generalize RR s a = r at *
      have hpl : (putI r).length = n := by omega
      have HP := Lib.hid hpp
      have h4 : a + n ≤ s.size := by omega
      have hrow2 : Row32 (wr.alloc (.cells ((putI r).map (Value.int .u8)).toArray 5)) w.heap.size (.slice (some ⟨g, 0, none⟩) (runes s).length cap) (runes s) := World.ownsRow.alloc hrow _
      have hb2 : Below w.heap.size w (wr.alloc (.cells ((putI r).map (Value.int .u8)).toArray 5)) := hb.alloc hb.size _
      have HR := Lib.hid hrow2
      have HB := Lib.hid hb2
      have Hpl := Lib.hid hpl
      generalize (putI r).length = n' at *
      obtain rfl : n' = n := Hpl.out
      clear hpp hpl hrow2 hb2 hn hr hm hlen hN hd Hpl hrow
      rcases (show b = true ∨ (b = false ∧ a = c) ∨ (b = false ∧ a ≠ c) by cases b <;> simp <;> omega) with rfl | ⟨rfl, hac⟩ | ⟨rfl, hac⟩
      · have HD : Hid (List.drop (k + 1) (runes s) = (dec s (a + n')).1 ∧ (true || pl s c (a + n')) = B) := Lib.hid ⟨hd1, by simpa using hd2⟩
        clear hd1 hd2
        go_wp2_with (go_at_call 13; refine HP.out.mono ?_; rintro e w' ⟨rfl, rfl⟩)
        go_roundw
        case rel => exact ⟨k + 1, a + n', true, rfl, by go_num, by go_num, by omega, h4, HD, HR.out, HB.out⟩
        case measure => simp [intOf]; omega
      · have HD : Hid (List.drop (k + 1) (runes s) = (dec s (a + n')).1 ∧ (true || pl s c (a + n')) = B) := Lib.hid ⟨hd1, by simpa [hac] using hd2⟩
        have hae : (((a : Nat) : Int) == (c : Int)) = true := by simp; omega
        clear hd1 hd2 hac
        go_wp2_with (go_at_call 13; refine HP.out.mono ?_; rintro e w' ⟨rfl, rfl⟩)
        go_roundw
        case rel => exact ⟨k + 1, a + n', true, rfl, by go_num, by go_num, by omega, h4, HD, HR.out, HB.out⟩
        case measure => simp [intOf]; omega
      · have HD : Hid (List.drop (k + 1) (runes s) = (dec s (a + n')).1 ∧ (false || pl s c (a + n')) = B) := Lib.hid ⟨hd1, by rw [decide_eq_false hac] at hd2; simpa using hd2⟩
        have hae : (((a : Nat) : Int) == (c : Int)) = false := by simp; omega
        clear hd1 hd2 hac
        go_wp2_with (go_at_call 13; refine HP.out.mono ?_; rintro e w' ⟨rfl, rfl⟩)
        go_roundw
        case rel => exact ⟨k + 1, a + n', false, rfl, by go_num, by go_num, by omega, h4, HD, HR.out, HB.out⟩
        case measure => simp [intOf]; omega
    · obtain ⟨A, cap, rfl⟩ := row_len hrow
      have e : k = (runes s).length := by omega
      subst e
      have hbB := joins_end hd.out.1 hd.out.2
      subst hbB
      have HB := Lib.hid hb
      clear hd hrow hb
      generalize (runes s).length = L at *
      cases b
      all_goals
        go_wp2_with (first
          | (go_at_call 9; refine (known_any _).mono ?_; rintro e w2 ⟨rfl, hb2⟩)
          | (go_at_call_of 19 (Value.string (s.extract 0 c)); refine (Hp.out _).mono ?_; rintro e w' ⟨rfl, rfl⟩)
          | (go_at_call_of 19 (Value.string (s.extract c s.size)); refine (Hq.out _).mono ?_; rintro e w' ⟨rfl, rfl⟩))
        go_ret
        exact ⟨rfl, HB.out.trans (hb2.mono HB.out.size)⟩

set_option maxHeartbeats 4000000 in
theorem joins_in (s t : ByteArray) (c : Nat) (w : World) (h1 : s.size ≤ 3000) (h2 : t.size ≤ 3000) (hv : upto s = s.size) (hc : c ≤ s.size) :
    Calls Try.prog 7 #[.string s, .string t, .int .i64 c] w fun e w' => e = .returned (.bool true) ∧ Below w.heap.size w w' := by
  have hx := fun W => valid_any s W (by omega)
  rw [decide_eq_true hv] at hx
  have hy := fun W => where_any (s ++ t) W (by simp; omega)
  have hz := fun W => where_any t W (by omega)
  rw [joins_app s t hv] at hy
  have hu := upto_le t
  generalize upto t = u at *
  rw [show ((s.size + u : Nat) : Int) = (s.size : Int) + (u : Int) from by omega] at hy
  have hp := fun W => valid_any (s.extract 0 c) W (by rw [size_extract s c hc]; omega)
  have hq := fun W => valid_any (s.extract c s.size) W (by simp; omega)
  obtain ⟨j1, j2⟩ := joins_cut s c hc hv
  rw [j1] at hp
  rw [j2] at hq
  have hrl := runes_len s
  have hB : Hid ((decide (c = s.size) || pl s c 0) = (decide (c = s.size) || pl s c 0)) := Lib.hid rfl
  generalize hBe : (decide (c = s.size) || pl s c 0) = B at hp hq
  have HBe := Lib.hid hBe
  have Hx := Lib.hid hx
  have Hy := Lib.hid hy
  have Hz := Lib.hid hz
  have Hp := Lib.hid hp
  have Hq := Lib.hid hq
  clear hx hv hy hz hp hq j1 j2 hB hBe
  have start : ∀ b : Bool, decide (c = s.size) = b → (b || pl s c 0) = B := fun b hb => by rw [← hb]; exact HBe.out
  rcases (show (c = s.size) ∨ c ≠ s.size by omega) with hcs | hcs
  · have hs0 := Lib.hid (start true (decide_eq_true hcs))
    have hce : (((c : Nat) : Int) == (s.size : Int)) = true := by simp; omega
    have Hcs := Lib.hid hcs
    clear start hcs
    exact joins_main s t c u B true w h1 h2 hc hu hrl hce (fun W => Hx.out W) (fun W => Hy.out W) (fun W => Hz.out W) (fun W => Hp.out W) (fun W => Hq.out W) hs0.out
  · have hs0 := Lib.hid (start false (decide_eq_false hcs))
    have hce : (((c : Nat) : Int) == (s.size : Int)) = false := by simp; omega
    exact joins_main s t c u B false w h1 h2 hc hu hrl hce (fun W => Hx.out W) (fun W => Hy.out W) (fun W => Hz.out W) (fun W => Hp.out W) (fun W => Hq.out W) hs0.out
end Go.Proofs.Ytnokocaodnanoaa
