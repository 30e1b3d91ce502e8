/- UtfOrders, the walk. -/
import Derived.Test.YtnokocaodnanoaaMeans
import Derived.Deep.DeepCutAuto
import Derived.Deep.CutBlock
namespace Go.Proofs.Ytnokocaodnanoaa
open Go.RowKit
set_option linter.unusedVariables false

theorem enc_e (zs : List Int) (A : Option Addr) (cap : Nat) (w : World) (hin : In32 w w.heap.size A zs) (hn : zs.length ≤ 9000) :
    Calls Try.prog 23 #[.slice A zs.length cap] w fun e w' => ∃ v E, e = .returned (.tuple #[v, .int .i64 E]) ∧ Hid (E = 0 ↔ ∀ z ∈ zs, mayB z = true) ∧ 0 ≤ E ∧ E ≤ 2 ∧ Below w.heap.size w w' := by
  by_cases hm : ∀ z ∈ zs, mayB z = true
  · exact (enc_ok zs A cap w hin hn hm).mono fun e w' ⟨he, hb⟩ => ⟨_, 0, he, Lib.hid ⟨fun _ => hm, fun _ => rfl⟩, by omega, by omega, hb⟩
  · exact (enc_no zs A cap w hin hn hm).mono fun e w' ⟨he, hb⟩ => ⟨_, 2, he, Lib.hid ⟨fun h => by omega, fun h => absurd h hm⟩, by omega, by omega, hb⟩

set_option maxHeartbeats 1000000 in
theorem orders_long (xs ys : List Int) (A B : Option Addr) (ca cb : Nat) (w : World) (h0 : xs.length ≤ maxLen) (h1 : ys.length ≤ maxLen) (hl : 300 < xs.length ∨ 300 < ys.length) :
    Calls Try.prog 8 #[.slice A xs.length ca, .slice B ys.length cb] w fun e w' => e = .returned (.bool true) ∧ Below w.heap.size w w' := by
  unfold maxLen at h0 h1
  by_cases hz : 300 < xs.length
  · clear hl
    go_enter Try.func8, Try.ntmps8
    go_wp2_with (go_at_call 9; refine (known_any _).mono ?_; rintro e w1 ⟨rfl, hb1⟩)
    go_ret
    exact ⟨rfl, hb1⟩
  · have hs : 300 < ys.length := by omega
    clear hl
    go_enter Try.func8, Try.ntmps8
    go_wp2_with (go_at_call 9; refine (known_any _).mono ?_; rintro e w1 ⟨rfl, hb1⟩)
    go_ret
    exact ⟨rfl, hb1⟩

set_option maxHeartbeats 1000000 in
theorem orders_ill (xs ys : List Int) (A B : Option Addr) (ca cb : Nat) (w : World) (hA : In32 w w.heap.size A xs) (hB : In32 w w.heap.size B ys) (h0 : xs.length ≤ 300) (h1 : ys.length ≤ 300)
    (hm : ¬ ((∀ z ∈ xs, mayB z = true) ∧ ∀ z ∈ ys, mayB z = true)) :
    Calls Try.prog 8 #[.slice A xs.length ca, .slice B ys.length cb] w fun e w' => e = .returned (.bool true) ∧ Below w.heap.size w w' := by
  have HA := Lib.hid hA
  have HB := Lib.hid hB
  have Hm := Lib.hid hm
  clear hA hB hm
  go_enter Try.func8, Try.ntmps8
  go_wp2_with fail
  refine (known_any _).mono ?_
  rintro e w1 ⟨rfl, hb1⟩
  go_wp2_with fail
  refine (enc_e xs A ca _ (in_below HA.out hb1) (by omega)).mono ?_
  rintro e w2 ⟨v2, E2, rfl, hE2, hE20, hE22, hb2⟩
  go_wp2_with fail
  refine (enc_e ys B cb _ (in_below (in_below HB.out hb1) hb2) (by omega)).mono ?_
  rintro e w3 ⟨v3, E3, rfl, hE3, hE30, hE32, hb3⟩
  have ht : (E2 + E3 != 0) = true := by
    have : ¬ (E2 = 0 ∧ E3 = 0) := fun h => Hm.out ⟨hE2.out.1 h.1, hE3.out.1 h.2⟩
    simp; omega
  go_wp2_with (go_at_call 16; refine (num_any _ _).mono ?_; rintro e w' ⟨rfl, rfl⟩)
  go_ret
  exact ⟨rfl, (hb1.trans (hb2.mono hb1.size)).trans (hb3.mono (by have := hb1.size; have := hb2.size; omega))⟩

theorem less_irr : ∀ xs : List Int, lessI xs xs = false := by
  intro xs
  induction xs with
  | nil => rfl
  | cons a t ih => rw [lessI, ih]; simp
theorem enc_inj {xs ys : List Int} (hx : ∀ z ∈ xs, mayB z = true) (hy : ∀ z ∈ ys, mayB z = true) (h : mkS (encI xs) = mkS (encI ys)) : xs = ys := by
  rw [← (enc_back xs hx).1, h, (enc_back ys hy).1]
theorem enc_eqB {xs ys : List Int} (hx : ∀ z ∈ xs, mayB z = true) (hy : ∀ z ∈ ys, mayB z = true) : ((mkS (encI xs)).toList == (mkS (encI ys)).toList) = decide (xs = ys) := by
  by_cases h : xs = ys
  · rw [decide_eq_true h, h]; simp
  · rw [decide_eq_false h]; exact eqB_false (fun e => h (enc_inj hx hy e))

theorem orders_go {S : ByteArray} {a k : Nat} {xs : List Int} (hk : k < xs.length) (hd : dec S a = (xs.drop k, S.size)) :
    NN S a ≠ 0 ∧ xs.getD k 0 = RR S a ∧ dec S (a + (NN S a).toNat) = (xs.drop (k + 1), S.size) := by
  have hn : NN S a ≠ 0 := fun e => by
    rw [dec_stop e] at hd
    have := congrArg (fun p => p.1.length) hd
    simp at this; omega
  rw [dec_step hn, List.drop_eq_getElem_cons hk] at hd
  injection hd with h1 h2
  injection h1 with h3 h4
  refine ⟨hn, ?_, Prod.ext h4 h2⟩
  rw [List.getD_eq_getElem?_getD, List.getElem?_eq_getElem hk]; exact h3.symm
theorem orders_mid {S : ByteArray} {a : Nat} (hn : NN S a ≠ 0) : ∀ q : Nat, a < q → (q : Int) < a + NN S a → NN S q = 0 := by
  intro q h1 h2
  refine nx_mid (f := fun i => bt S (q + i)) ?_
  have := nx_cont (f := fun i => bt S (a + i)) (L := S.size - a) hn (i := q - a) (by omega) (show (((q - a : Nat)) : Int) < NN S a by omega)
  have e2 : a + (q - a) = q + 0 := by omega
  simp only [e2] at this
  exact this
theorem orders_end {S : ByteArray} {a k : Nat} {xs : List Int} (hk : ¬ k < xs.length) (hd : dec S a = (xs.drop k, S.size)) : a = S.size := by
  rw [List.drop_of_length_le (by omega)] at hd
  have hn : NN S a = 0 := Classical.byContradiction fun h => by
    rw [dec_step h] at hd
    injection hd with h1 _
    cases h1
  rw [dec_stop hn] at hd
  injection hd with _ h2
theorem ne_at {xs ys : List Int} {k : Nat} (hx : k < xs.length) (hy : k < ys.length) (h : xs.getD k 0 ≠ ys.getD k 0) : ¬ xs = ys := fun e => h (by rw [e])
theorem take_eq_at {xs ys : List Int} {k : Nat} (hx : k < xs.length) (hy : k < ys.length) (h : xs.take k = ys.take k) (he : xs.getD k 0 = ys.getD k 0) : xs.take (k + 1) = ys.take (k + 1) := by
  rw [take_snoc xs k hx, take_snoc ys k hy, h, he]

set_option maxRecDepth 100000 in
set_option maxHeartbeats 16000000 in
theorem orders_ok (xs ys : List Int) (A B : Option Addr) (ca cb : Nat) (w : World) (hA : In32 w w.heap.size A xs) (hB : In32 w w.heap.size B ys) (h0 : xs.length ≤ 300) (h1 : ys.length ≤ 300)
    (hx : ∀ z ∈ xs, mayB z = true) (hy : ∀ z ∈ ys, mayB z = true) :
    Calls Try.prog 8 #[.slice A xs.length ca, .slice B ys.length cb] w fun e w' => e = .returned (.bool true) ∧ Below w.heap.size w w' := by
  have hX := less_text xs ys hx hy
  have hE := enc_eqB hx hy
  have hD : dec (mkS (encI xs)) 0 = (xs, (mkS (encI xs)).size) := Prod.ext (enc_back xs hx).1 (enc_back xs hx).2
  have hsz : (mkS (encI xs)).size ≤ 1200 := by rw [mkS_size]; have := encI_len xs; omega
  have HA := Lib.hid hA
  have HB := Lib.hid hB
  have Hx := Lib.hid hx
  have Hy := Lib.hid hy
  clear hA hB hx hy
  go_enter Try.func8, Try.ntmps8
  go_wp2_with fail
  refine (known_any _).mono ?_
  rintro e w1 ⟨rfl, hb1⟩
  go_wp2_with fail
  refine (enc_ok xs A ca _ (in_below HA.out hb1) (by omega) Hx.out).mono ?_
  rintro e w2 ⟨rfl, hb2⟩
  go_wp2_with fail
  refine (enc_ok ys B cb _ (in_below (in_below HB.out hb1) hb2) (by omega) Hy.out).mono ?_
  rintro e w3 ⟨rfl, hb3⟩
  have HB3 := Lib.hid ((hb1.trans (hb2.mono hb1.size)).trans (hb3.mono (by have := hb1.size; have := hb2.size; omega)))
  have HA3 := Lib.hid (in_below (in_below (in_below HA.out hb1) hb2) hb3)
  have HC3 := Lib.hid (in_below (in_below (in_below HB.out hb1) hb2) hb3)
  clear hb1 hb2 hb3
  have HX := Lib.hid hX
  have HE := Lib.hid hE
  have HD := Lib.hid hD
  clear hX hE hD
  generalize mkS (encI xs) = S at *
  generalize mkS (encI ys) = T at *
  obtain ⟨b0, hls⟩ : ∃ b0, (((xs.length : Nat) : Int) == (ys.length : Int)) = b0 := ⟨_, rfl⟩
  have Hb0 : Hid (b0 = decide (xs.length = ys.length)) := Lib.hid (by rw [← hls, Bool.eq_iff_iff]; simp; omega)
  go_upto_block 0 with (first
    | (go_at_call 16; refine (num_any _ _).mono ?_; rintro e w' ⟨rfl, rfl⟩))
  go_cut [9, 10] (fun l sm wx => l = .bool (lessI xs ys) ∧ sm = .bool (decide (xs = ys)) ∧ Below w3.heap.size w3 wx)
  case first =>
    go_wp2
    go_loopw [9, 10, 11] (fun l sm i wr => ∃ k m : Nat, l = .bool false ∧ sm = .bool b0 ∧ i = .int .i64 k ∧ k ≤ xs.length ∧ k ≤ ys.length ∧ Hid (xs.take k = ys.take k ∧ lessI (xs.drop k) (ys.drop k) = lessI xs ys) ∧ wr = w3.drewN m) (fun _ _ i _ => ys.length - (intOf i).toNat)
    case atStart => exact ⟨0, 0, rfl, rfl, rfl, Nat.zero_le _, Nat.zero_le _, Lib.hid ⟨rfl, rfl⟩, rfl⟩
    case round =>
      clear hls
      obtain ⟨k, m, rfl, rfl, rfl, hkx, hky, hd, rfl⟩ := hrel
      by_cases hx2 : k < xs.length
      · obtain ⟨b1, o1, rfl, _, hc1⟩ := HA3.out (by omega)
        have c1 := hc1 k hx2
        have gx1 : (k : Int) < (xs.length : Int) := by omega
        have gx2 : decide ((xs.length : Int) ≤ (k : Int)) = false := by simp; omega
        have gx3 : decide (xs.length ≤ k) = false := by simp; omega
        by_cases hy2 : k < ys.length
        · obtain ⟨b2, o2, rfl, _, hc2⟩ := HC3.out (by omega)
          have c2 := hc2 k hy2
          have hst := Lib.hid (less_at hx2 hy2 hd.out.2)
          have hne := Lib.hid (ne_at hx2 hy2)
          have htk := Lib.hid (take_eq_at hx2 hy2 hd.out.1)
          generalize xs.getD k 0 = x at *
          generalize ys.getD k 0 = y at *
          clear hc1 hc2 hd
          have gy1 : (k : Int) < (ys.length : Int) := by omega
          have gy2 : decide ((ys.length : Int) ≤ (k : Int)) = false := by simp; omega
          have gy3 : decide (ys.length ≤ k) = false := by simp; omega
          have gy4 : decide ((k : Int) < (ys.length : Int)) = true := by simp; omega
          have gy5 : decide (k < ys.length) = true := by simp; omega
          by_cases hxy : x < y
          · have HL := Lib.hid (hst.out.1 hxy)
            have HN := Lib.hid (decide_eq_false (hne.out (by omega)))
            have hxyd : decide (x < y) = true := by simpa using hxy
            clear hst hne htk
            go_wp2
            go_quiet (fail)
            go_wp2
            go_meet
            exact ⟨by rw [HL.out], by rw [HN.out], by repeat (first | exact Below.refl _ _ | refine below_drewN ?_ _)⟩
          · by_cases hyx : y < x
            · have HL := Lib.hid (hst.out.2.1 hyx)
              have HN := Lib.hid (decide_eq_false (hne.out (by omega)))
              have hxyd : decide (x < y) = false := by simpa using hxy
              have hyxd : decide (y < x) = true := by simpa using hyx
              clear hst hne htk
              go_wp2
              go_quiet (fail)
              go_wp2
              go_quiet (fail)
              go_wp2
              go_meet
              exact ⟨by rw [HL.out], by rw [HN.out], by repeat (first | exact Below.refl _ _ | refine below_drewN ?_ _)⟩
            · have HE' := Lib.hid (And.intro (htk.out (by omega)) (hst.out.2.2 (by omega)))
              have hxyd : decide (x < y) = false := by simpa using hxy
              have hyxd : decide (y < x) = false := by simpa using hyx
              clear hst hne htk
              go_wp2
              go_quiet (fail)
              go_wp2
              go_quiet (fail)
              go_wp2
              go_roundw
              case rel => exact ⟨k + 1, _, rfl, rfl, by go_num, by omega, by omega, HE', rfl⟩
              case measure => simp [intOf]; omega
        · have HL := Lib.hid (less_end hy2 hd.out.2)
          have HN := Lib.hid (decide_eq_false (p := xs = ys) (fun e => by have := congrArg List.length e; omega))
          have gy1 : (ys.length : Int) ≤ (k : Int) := by omega
          have gy2 : decide ((ys.length : Int) ≤ (k : Int)) = true := by simp; omega
          have gy3 : decide (ys.length ≤ k) = true := by simp; omega
          have gy4 : decide ((k : Int) < (ys.length : Int)) = false := by simp; omega
          have gy5 : decide (k < ys.length) = false := by simp; omega
          clear hc1 hd
          generalize xs.getD k 0 = x at *
          go_wp2
          go_quiet (fail)
          go_wp2
          go_quiet (fail)
          go_wp2
          go_meet
          exact ⟨by rw [HL.out], by rw [HN.out], by repeat (first | exact Below.refl _ _ | refine below_drewN ?_ _)⟩
      · by_cases hy2 : k < ys.length
        · have HL := Lib.hid (less_short hx2 hy2 hd.out.2)
          have HN := Lib.hid (decide_eq_false (p := xs = ys) (fun e => by have := congrArg List.length e; omega))
          have gx1 : (xs.length : Int) ≤ (k : Int) := by omega
          have gx2 : decide ((xs.length : Int) ≤ (k : Int)) = true := by simp; omega
          have gx3 : decide (xs.length ≤ k) = true := by simp; omega
          have gy1 : (k : Int) < (ys.length : Int) := by omega
          clear hd
          go_wp2
          go_quiet (fail)
          go_wp2
          go_meet
          exact ⟨by rw [HL.out], by rw [HN.out], by repeat (first | exact Below.refl _ _ | refine below_drewN ?_ _)⟩
        · have hxe : xs = ys := by
            have := hd.out.1
            rwa [List.take_of_length_le (by omega), List.take_of_length_le (by omega)] at this
          have HL := Lib.hid (less_end hy2 hd.out.2)
          have HN := Lib.hid (decide_eq_true hxe)
          have HBB := Lib.hid (show b0 = true by rw [Hb0.out]; exact decide_eq_true (by omega))
          have gx1 : (xs.length : Int) ≤ (k : Int) := by omega
          have gy1 : (ys.length : Int) ≤ (k : Int) := by omega
          clear hd hxe
          go_wp2
          go_meet
          exact ⟨by rw [HL.out], by rw [HN.out, HBB.out], by repeat (first | exact Below.refl _ _ | refine below_drewN ?_ _)⟩
  case rest =>
    obtain ⟨rfl, rfl, hbc⟩ := hcut
    generalize lessI xs ys = L at *
    generalize decide (xs = ys) = D at *
    have hX := HX.out
    have hE := HE.out
    clear hls Hb0
    go_wp2
    go_loopw [12, 13] (fun at_ i wr => ∃ k a : Nat, at_ = .int .i64 a ∧ i = .int .i64 k ∧ k ≤ xs.length ∧ a ≤ S.size ∧ Hid (dec S a = (xs.drop k, S.size)) ∧ Below w3.heap.size w3 wr) (fun _ i _ => xs.length - (intOf i).toNat)
    case atStart => exact ⟨0, 0, rfl, rfl, Nat.zero_le _, Nat.zero_le _, HD, hbc⟩
    case round =>
      clear hX hE hbc
      obtain ⟨k, a, rfl, rfl, hk, ha, hd, hb⟩ := hrel
      by_cases hlt : k < xs.length
      · obtain ⟨b1, o1, rfl, hb1, hc1⟩ := HA3.out (by omega)
        have c1 := (hb.cell (p := ⟨b1, o1 + k, none⟩) hb1).trans (hc1 k hlt)
        obtain ⟨hn, hr, hd2⟩ := orders_go hlt hd.out
        obtain ⟨hmr, hlen⟩ := NN_size hn
        have hrg := NN_range S a
        have hmid := Lib.hid (orders_mid hn)
        have hn0 : 0 < NN S a := by omega
        rw [hr] at c1
        obtain ⟨n, hN⟩ : ∃ n : Nat, NN S a = n := ⟨(NN S a).toNat, by omega⟩
        rw [hN] at hd2 hlen hrg hmid hn0
        rw [Int.toNat_natCast] at hd2
        have hpp := put_any (RR S a) wr hmr
        generalize RR S a = r at *
        have hpl : (putI r).length = n := by omega
        have HP := Lib.hid (hpp.mono (R' := fun e w' => e = .returned (.slice (some ⟨wr.heap.size, 0, none⟩) (putI r).length (putI r).length) ∧ Below w3.heap.size w3 w') fun e w' ⟨he, hw⟩ => ⟨he, hw ▸ hb.alloc hb.size _⟩)
        have h4 : a + n ≤ S.size := by omega
        have Hpl := Lib.hid hpl
        have HD2 := Lib.hid hd2
        generalize (putI r).length = n' at *
        obtain rfl : n' = n := Hpl.out
        clear hpp hpl hn hr hmr hlen hN hd Hpl hc1 hd2 hb
        go_wp2_with (go_at_call 13; refine HP.out.mono ?_; rintro e wq ⟨rfl, hbq⟩)
        have HBq := Lib.hid hbq
        clear HP hbq
        go_loop [15] (fun q => ∃ q' : Nat, q = .int .i64 q' ∧ a < q' ∧ q' ≤ a + n') (fun q => a + n' - (intOf q).toNat)
        case atStart => exact ⟨a + 1, by go_num, by omega, by omega⟩
        case round =>
          obtain ⟨q, rfl, hq1, hq2⟩ := hrel
          by_cases hq : q < a + n'
          · have hx := fun W => next_at S q W (by omega)
            rw [hmid.out q hq1 (by omega), show nxE 0 = 5 from rfl] at hx
            have Hx := Lib.hid hx
            clear hx
            go_wp2_with (first
              | (go_at_call 10; refine (Hx.out _).mono ?_; rintro e w' ⟨rfl, rfl⟩)
              | (go_at_call 16; refine (num_any _ _).mono ?_; rintro e w' ⟨rfl, rfl⟩))
            go_round
            case rel => exact ⟨q + 1, by go_num, by omega, by omega⟩
            case measure => simp [intOf]; omega
          · go_wp2
            go_roundw
            case rel => exact ⟨k + 1, a + n', by go_num, by go_num, by omega, h4, HD2, HBq.out⟩
            case measure => simp [intOf]; omega
      · have e : a = S.size := orders_end hlt hd.out
        have Hb := Lib.hid (HB3.out.trans (hb.mono HB3.out.size))
        subst e
        clear hd hb
        go_wp2
        go_ret
        exact ⟨rfl, Hb.out⟩
end Go.Proofs.Ytnokocaodnanoaa
