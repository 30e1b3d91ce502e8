/- UtfMeans, the walk. -/
import Derived.Test.YtnokocaodnanoaaKnown
import Derived.Test.YtnokocaodnanoaaSame
import Derived.Test.YtnokocaodnanoaaBackFns
namespace Go.Proofs.Ytnokocaodnanoaa
open Go.RowKit
set_option linter.unusedVariables false

set_option maxHeartbeats 1000000 in
theorem means_long (zs : List Int) (A : Option Addr) (cap : Nat) (s t : ByteArray) (w : World) (h0 : zs.length ≤ maxLen) (h1 : s.size ≤ maxLen) (h2 : t.size ≤ maxLen)
    (hl : 3000 < zs.length ∨ 3000 < s.size ∨ 3000 < t.size) :
    Calls Try.prog 6 #[.slice A zs.length cap, .string s, .string t] w fun e w' => e = .returned (.bool true) ∧ Below w.heap.size w w' := by
  unfold maxLen at h0 h1 h2
  by_cases hz : 3000 < zs.length
  · clear hl
    go_enter Try.func6, Try.ntmps6
    go_wp2_with (go_at_call 9; refine (known_any _).mono ?_; rintro e w1 ⟨rfl, hb1⟩)
    go_ret
    exact ⟨rfl, hb1⟩
  by_cases hs : 3000 < s.size
  · clear hl
    go_enter Try.func6, Try.ntmps6
    go_wp2_with (go_at_call 9; refine (known_any _).mono ?_; rintro e w1 ⟨rfl, hb1⟩)
    go_ret
    exact ⟨rfl, hb1⟩
  · have ht : 3000 < t.size := by omega
    clear hl
    go_enter Try.func6, Try.ntmps6
    go_wp2_with (go_at_call 9; refine (known_any _).mono ?_; rintro e w1 ⟨rfl, hb1⟩)
    go_ret
    exact ⟨rfl, hb1⟩

theorem decode_e (s : ByteArray) (w : World) (h1 : s.size ≤ 40000) :
    Calls Try.prog 18 #[.string s] w fun e w' => ∃ v E, e = .returned (.tuple #[v, .int .i64 E]) ∧ Hid (E = 0 ↔ upto s = s.size) ∧ 0 ≤ E ∧ E ≤ 5 ∧ Below w.heap.size w w' := by
  by_cases hv : upto s = s.size
  · exact (decode_ok s w h1 hv).mono fun e w' ⟨v, he, _, hb⟩ => ⟨v, 0, he, Lib.hid ⟨fun _ => hv, fun _ => rfl⟩, by omega, by omega, hb⟩
  · exact (decode_no s w h1 hv).mono fun e w' ⟨he, hb⟩ => ⟨_, 5, he, Lib.hid ⟨fun h => by omega, fun h => absurd h hv⟩, by omega, by omega, hb⟩

theorem enc_mkS_size (zs : List Int) (h : zs.length ≤ 2250) : (mkS (encI zs)).size ≤ 9000 := by
  rw [mkS_size]; have := encI_len zs; omega

set_option maxHeartbeats 4000000 in
theorem means_ill (zs : List Int) (A : Option Addr) (cap : Nat) (s t : ByteArray) (w : World) (hin : In32 w w.heap.size A zs) (h0 : zs.length ≤ 3000) (h1 : s.size ≤ 3000) (h2 : t.size ≤ 3000)
    (hv : ¬ (upto s = s.size ∧ upto t = t.size)) :
    Calls Try.prog 6 #[.slice A zs.length cap, .string s, .string t] w fun e w' => e = .returned (.bool true) ∧ Below w.heap.size w w' := by
  have Hv := Lib.hid hv
  have Hin := Lib.hid hin
  clear hv hin
  by_cases hm : ∀ z ∈ zs, mayB z = true
  · obtain ⟨hr, hu⟩ := enc_back zs hm
    have hsz : (mkS (encI zs)).size ≤ 12000 := by rw [mkS_size]; have := encI_len zs; omega
    have Hm := Lib.hid hm
    have Hr := Lib.hid hr
    have Hu := Lib.hid hu
    clear hm hr hu
    go_enter Try.func6, Try.ntmps6
    go_wp2_with fail
    refine (known_any _).mono ?_
    rintro e w1 ⟨rfl, hb1⟩
    have hin1 := Lib.hid (in_below Hin.out hb1)
    go_wp2_with fail
    refine (enc_ok zs A cap w1 hin1.out (by omega) Hm.out).mono ?_
    rintro e w2 ⟨rfl, hb2⟩
    have hin2 := Lib.hid (in_below hin1.out hb2)
    have HB2 := Lib.hid (hb1.trans (hb2.mono hb1.size))
    clear hin1 hb1 hb2
    generalize mkS (encI zs) = S at *
    go_wp2_with (first
      | (go_at_call 16; refine (num_any _ _).mono ?_; rintro e w' ⟨rfl, rfl⟩))
    refine (decode_ok S _ (by omega) Hu.out).mono ?_
    rintro e w5 ⟨v5, rfl, hrow5, hb5⟩
    rw [Hr.out] at hrow5
    have hin5 := Lib.hid (in_below hin2.out hb5)
    obtain ⟨A5, c5, rfl, hrin5⟩ := row_in hrow5
    have Hrin5 := Lib.hid hrin5
    have HB5 := Lib.hid (HB2.out.trans (hb5.mono HB2.out.size))
    clear hrow5 hrin5 hb5 hin2
    go_wp2_with (first
      | (go_at_call 16; refine (num_any _ _).mono ?_; rintro e w' ⟨rfl, rfl⟩))
    refine (same_eq zs A5 A c5 cap _ Hrin5.out hin5.out (by omega)).mono ?_
    rintro e w6 ⟨rfl, hb6⟩
    have HB6 := Lib.hid (HB5.out.trans (hb6.mono HB5.out.size))
    clear hb6 Hrin5 hin5
    go_wp2_with fail
    refine (decode_e s _ (by omega)).mono ?_
    rintro e w3 ⟨v3, E3, rfl, hE3, hE30, hE35, hb3⟩
    go_wp2_with fail
    refine (decode_e t _ (by omega)).mono ?_
    rintro e w4 ⟨v4, E4, rfl, hE4, hE40, hE45, hb4⟩
    have ht : (E3 + E4 != 0) = true := by
      have := hE3.out; have := hE4.out; have := Hv.out
      simp; omega
    go_wp2_with (first
      | (go_at_call 16; refine (num_any _ _).mono ?_; rintro e w' ⟨rfl, rfl⟩))
    go_ret
    exact ⟨rfl, (HB6.out.trans (hb3.mono HB6.out.size)).trans (hb4.mono (by have := HB6.out.size; have := hb3.size; omega))⟩
  · have Hm := Lib.hid hm
    clear hm
    go_enter Try.func6, Try.ntmps6
    go_wp2_with fail
    refine (known_any _).mono ?_
    rintro e w1 ⟨rfl, hb1⟩
    have hin1 := Lib.hid (in_below Hin.out hb1)
    go_wp2_with fail
    refine (enc_no zs A cap w1 hin1.out (by omega) Hm.out).mono ?_
    rintro e w2 ⟨rfl, hb2⟩
    go_wp2_with (first
      | (go_at_call 16; refine (num_any _ _).mono ?_; rintro e w' ⟨rfl, rfl⟩))
    refine (decode_e s _ (by omega)).mono ?_
    rintro e w3 ⟨v3, E3, rfl, hE3, hE30, hE35, hb3⟩
    go_wp2_with fail
    refine (decode_e t _ (by omega)).mono ?_
    rintro e w4 ⟨v4, E4, rfl, hE4, hE40, hE45, hb4⟩
    have ht : (E3 + E4 != 0) = true := by
      have := hE3.out; have := hE4.out; have := Hv.out
      simp; omega
    go_wp2_with (first
      | (go_at_call 16; refine (num_any _ _).mono ?_; rintro e w' ⟨rfl, rfl⟩))
    go_ret
    exact ⟨rfl, ((hb1.trans (hb2.mono hb1.size)).trans (hb3.mono (by have := hb1.size; have := hb2.size; omega))).trans (hb4.mono (by have := hb1.size; have := hb2.size; have := hb3.size; omega))⟩
theorem less_at {xs ys : List Int} {k : Nat} (hx : k < xs.length) (hy : k < ys.length) (h : lessI (xs.drop k) (ys.drop k) = lessI xs ys) :
    (xs.getD k 0 < ys.getD k 0 → lessI xs ys = true) ∧ (ys.getD k 0 < xs.getD k 0 → lessI xs ys = false) ∧ (xs.getD k 0 = ys.getD k 0 → lessI (xs.drop (k + 1)) (ys.drop (k + 1)) = lessI xs ys) := by
  have ex : xs.getD k 0 = xs[k] := by rw [List.getD_eq_getElem?_getD, List.getElem?_eq_getElem hx]; rfl
  have ey : ys.getD k 0 = ys[k] := by rw [List.getD_eq_getElem?_getD, List.getElem?_eq_getElem hy]; rfl
  rw [List.drop_eq_getElem_cons hx, List.drop_eq_getElem_cons hy, lessI, ← ex, ← ey] at h
  generalize xs.getD k 0 = x at *
  generalize ys.getD k 0 = y at *
  refine ⟨fun g => ?_, fun g => ?_, fun g => ?_⟩
  · rw [← h, decide_eq_true g]; rfl
  · rw [← h, decide_eq_false (by omega), decide_eq_false (by omega)]; rfl
  · rw [← h, decide_eq_false (by omega), decide_eq_true g]; rfl
theorem less_short {xs ys : List Int} {k : Nat} (hx : ¬ k < xs.length) (hy : k < ys.length) (h : lessI (xs.drop k) (ys.drop k) = lessI xs ys) : lessI xs ys = true := by
  rw [List.drop_of_length_le (by omega), List.drop_eq_getElem_cons hy] at h
  exact h.symm
theorem less_end {xs ys : List Int} {k : Nat} (hy : ¬ k < ys.length) (h : lessI (xs.drop k) (ys.drop k) = lessI xs ys) : lessI xs ys = false := by
  rw [List.drop_of_length_le (l := ys) (by omega)] at h
  rw [← h]
  cases xs.drop k <;> rfl
set_option maxHeartbeats 16000000 in
theorem means_ok (zs : List Int) (A : Option Addr) (cap : Nat) (s t : ByteArray) (w : World) (hin : In32 w w.heap.size A zs) (h0 : zs.length ≤ 3000) (h1 : s.size ≤ 3000) (h2 : t.size ≤ 3000)
    (hvs : upto s = s.size) (hvt : upto t = t.size) :
    Calls Try.prog 6 #[.slice A zs.length cap, .string s, .string t] w fun e w' => e = .returned (.bool true) ∧ Below w.heap.size w w' := by
  have HX : Hid (Op.bytesLess s.toList t.toList = lessI (runes s) (runes t)) := Lib.hid (by
    have := less_text (runes s) (runes t) (runes_may s) (runes_may t)
    rwa [dec_back s hvs, dec_back t hvt] at this)
  have Hvs := Lib.hid hvs
  have Hvt := Lib.hid hvt
  have Hin := Lib.hid hin
  have Hms := Lib.hid (runes_may s)
  have Hbs := Lib.hid (dec_back s hvs)
  have hls := runes_len s
  have hlt := runes_len t
  clear hvs hvt hin
  by_cases hm : ∀ z ∈ zs, mayB z = true
  focus
    obtain ⟨hr, hu⟩ := enc_back zs hm
    have hsz : (mkS (encI zs)).size ≤ 12000 := by rw [mkS_size]; have := encI_len zs; omega
    have Hm := Lib.hid hm
    have Hr := Lib.hid hr
    have Hu := Lib.hid hu
    clear hm hr hu
    go_enter Try.func6, Try.ntmps6
    go_wp2_with fail
    refine (known_any _).mono ?_
    rintro e w1 ⟨rfl, hb1⟩
    have hin1 := Lib.hid (in_below Hin.out hb1)
    go_wp2_with fail
    refine (enc_ok zs A cap w1 hin1.out (by omega) Hm.out).mono ?_
    rintro e w2 ⟨rfl, hb2⟩
    have hin2 := Lib.hid (in_below hin1.out hb2)
    have HB2 := Lib.hid (hb1.trans (hb2.mono hb1.size))
    clear hin1 hb1 hb2
    generalize mkS (encI zs) = S at *
    go_wp2_with (first
      | (go_at_call 16; refine (num_any _ _).mono ?_; rintro e w' ⟨rfl, rfl⟩))
    refine (decode_ok S _ (by omega) Hu.out).mono ?_
    rintro e w5 ⟨v5, rfl, hrow5, hb5⟩
    rw [Hr.out] at hrow5
    have hin5 := Lib.hid (in_below hin2.out hb5)
    obtain ⟨A5, c5, rfl, hrin5⟩ := row_in hrow5
    have Hrin5 := Lib.hid hrin5
    have HB5 := Lib.hid (HB2.out.trans (hb5.mono HB2.out.size))
    clear hrow5 hrin5 hb5 hin2
    go_wp2_with (first
      | (go_at_call 16; refine (num_any _ _).mono ?_; rintro e w' ⟨rfl, rfl⟩))
    refine (same_eq zs A5 A c5 cap _ Hrin5.out hin5.out (by omega)).mono ?_
    rintro e w6 ⟨rfl, hb6⟩
    have HB6 := Lib.hid (HB5.out.trans (hb6.mono HB5.out.size))
    clear hb6 Hrin5 hin5
    generalize w6 = wE at *
    go_wp2_with fail
  rotate_left
  focus
    have Hm := Lib.hid hm
    clear hm
    go_enter Try.func6, Try.ntmps6
    go_wp2_with fail
    refine (known_any _).mono ?_
    rintro e w1 ⟨rfl, hb1⟩
    have hin1 := Lib.hid (in_below Hin.out hb1)
    go_wp2_with fail
    refine (enc_no zs A cap w1 hin1.out (by omega) Hm.out).mono ?_
    rintro e w2 ⟨rfl, hb2⟩
    have HB6 := Lib.hid (hb1.trans (hb2.mono hb1.size))
    clear hb1 hb2 hin1
    generalize w2 = wE at *
    go_wp2_with (first
      | (go_at_call 16; refine (num_any _ _).mono ?_; rintro e w' ⟨rfl, rfl⟩))
  all_goals
    refine (decode_ok s _ (by omega) Hvs.out).mono ?_
    rintro e w3 ⟨v3, rfl, hrow3, hb3⟩
    have HB3 := Lib.hid (HB6.out.trans (hb3.mono HB6.out.size))
    obtain ⟨A3, c3, rfl, hin3⟩ := row_in hrow3
    have Hin3 := Lib.hid hin3
    clear hb3 hrow3 hin3
    go_wp2_with fail
    refine (decode_ok t _ (by omega) Hvt.out).mono ?_
    rintro e w4 ⟨v4, rfl, hrow4, hb4⟩
    have HB4 := Lib.hid (HB3.out.trans (hb4.mono HB3.out.size))
    have Hin3' := Lib.hid (in_below Hin3.out hb4)
    obtain ⟨A4, c4, rfl, hin4⟩ := row_in hrow4
    have Hin4 := Lib.hid hin4
    clear hb4 hrow4 hin4 Hin3
    go_wp2_with (first
      | (go_at_call 16; refine (num_any _ _).mono ?_; rintro e w' ⟨rfl, rfl⟩))
    refine (enc_ok (runes s) A3 c3 _ Hin3'.out (by omega) Hms.out).mono ?_
    rw [Hbs.out]
    rintro e w5 ⟨rfl, hb5⟩
    have HB5 := Lib.hid (HB4.out.trans (hb5.mono HB4.out.size))
    have Hin3 := Lib.hid (in_below Hin3'.out hb5)
    have Hin4' := Lib.hid (in_below Hin4.out hb5)
    clear hb5 Hin3' Hin4
    have hss : (s.toList != s.toList) = false := by simp
    go_wp2_with (first
      | (go_at_call 16; refine (num_any _ _).mono ?_; rintro e w' ⟨rfl, rfl⟩))
    generalize runes s = xs at *
    generalize runes t = ys at *
    clear Hm
    go_loopw [17, 18] (fun ah i wr => ∃ k m : Nat, ah = .bool false ∧ i = .int .i64 k ∧ k ≤ ys.length ∧ k ≤ xs.length ∧ Hid (lessI (xs.drop k) (ys.drop k) = lessI xs ys) ∧ wr = w5.drewN m) (fun _ i _ => ys.length - (intOf i).toNat)
    case atStart => exact ⟨0, 0, rfl, rfl, Nat.zero_le _, Nat.zero_le _, Lib.hid rfl, rfl⟩
    case round =>
      obtain ⟨k, m, rfl, rfl, hk, hkx, hd, rfl⟩ := hrel
      by_cases hky : k < ys.length
      · obtain ⟨b2, o2, rfl, _, hc2⟩ := Hin4'.out (by omega)
        have c2 := hc2 k hky
        by_cases hkx2 : k < xs.length
        · obtain ⟨b1, o1, rfl, _, hc1⟩ := Hin3.out (by omega)
          have c1 := hc1 k hkx2
          have hst := Lib.hid (less_at hkx2 hky hd.out)
          generalize xs.getD k 0 = x at *
          generalize ys.getD k 0 = y at *
          clear hc1 hc2 hd
          have hge : ¬ (xs.length : Int) ≤ (k : Int) := by omega
          have hge2 : decide ((xs.length : Int) ≤ (k : Int)) = false := by simpa using hge
          have hge3 : decide (xs.length ≤ k) = false := by simp; omega
          by_cases hxy : x < y
          · have HE := Lib.hid (HX.out.trans (hst.out.1 hxy))
            have hxyd : decide (x < y) = true := by simpa using hxy
            have hbl := HE.out
            clear hst
            go_wp2
            go_quiet (fail)
            go_wp2
            go_ret
            exact ⟨rfl, below_drewN HB5.out _⟩
          · by_cases hyx : y < x
            · have HE := Lib.hid (HX.out.trans (hst.out.2.1 hyx))
              have hxyd : decide (x < y) = false := by simpa using hxy
              have hyxd : decide (y < x) = true := by simpa using hyx
              have hbl := HE.out
              clear hst
              go_wp2
              go_quiet (fail)
              go_wp2
              go_quiet (fail)
              go_wp2
              go_ret
              exact ⟨rfl, below_drewN HB5.out _⟩
            · have HE := Lib.hid (hst.out.2.2 (by omega))
              have hxyd : decide (x < y) = false := by simpa using hxy
              have hyxd : decide (y < x) = false := by simpa using hyx
              clear hst
              go_wp2
              go_quiet (fail)
              go_wp2
              go_quiet (fail)
              go_wp2
              go_roundw
              case rel => exact ⟨k + 1, _, rfl, by go_num, by omega, by omega, HE, rfl⟩
              case measure => simp [intOf]; omega
        · have HE := Lib.hid (HX.out.trans (less_short hkx2 hky hd.out))
          have hbl := HE.out
          have hge : (xs.length : Int) ≤ (k : Int) := by omega
          have hge2 : decide ((xs.length : Int) ≤ (k : Int)) = true := by simpa using hge
          have hge3 : decide (xs.length ≤ k) = true := by simp; omega
          clear hd hc2 c2
          go_wp2
          go_quiet (fail)
          go_wp2
          go_ret
          exact ⟨rfl, below_drewN HB5.out _⟩
      · have HE := Lib.hid (HX.out.trans (less_end hky hd.out))
        have hbl := HE.out
        clear hd
        go_wp2
        go_ret
        exact ⟨rfl, below_drewN HB5.out _⟩
end Go.Proofs.Ytnokocaodnanoaa
