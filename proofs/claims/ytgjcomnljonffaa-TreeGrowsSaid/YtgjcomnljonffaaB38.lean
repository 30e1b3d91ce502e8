/- The law of what comes and goes in any order. -/
import Derived.Test.YtgjcomnljonffaaB37
namespace Go.Proofs.Ytgjcomnljonffaa.Tlv
open Go.RowKit
set_option maxRecDepth 100000
set_option linter.unusedVariables false
set_option linter.unusedSimpArgs false
theorem step_put {N m i k : Nat} {l : List KV} (h : Hold (fun j => j < N ∧ inv m j < i) l) (hs : Srt (putL (kk k) (k : Int) l)) (hk7 : k < 307) (hkn : k < N) (h1 : 1 ≤ m) (h2 : m < 307) (hmk : inv m k = i) : Hold (fun j => j < N ∧ inv m j < i + 1) (putL (kk k) (k : Int) l) := by
  refine (h.put hk7 hs).congr fun j hj => ?_
  constructor
  · rintro (⟨p, q⟩ | rfl)
    · exact ⟨p, by omega⟩
    · exact ⟨hkn, by omega⟩
  · rintro ⟨p, q⟩
    rcases Nat.lt_or_ge (inv m j) i with h | h
    · exact .inl ⟨p, h⟩
    · have e : inv m j = i := by omega
      have e2 := mul_inv h1 h2 hj
      have e3 := mul_inv h1 h2 hk7
      rw [e] at e2
      rw [hmk] at e3
      exact .inr (e2.symm.trans e3)
theorem step_skip {N m i k : Nat} {l : List KV} (h : Hold (fun j => j < N ∧ inv m j < i) l) (hk7 : k < 307) (hkn : ¬ k < N) (h1 : 1 ≤ m) (h2 : m < 307) (hmk : inv m k = i) : Hold (fun j => j < N ∧ inv m j < i + 1) l := by
  refine h.congr fun j hj => ?_
  constructor
  · rintro ⟨p, q⟩
    exact ⟨p, by omega⟩
  · rintro ⟨p, q⟩
    rcases Nat.lt_or_ge (inv m j) i with h | h
    · exact ⟨p, h⟩
    · have e : inv m j = i := by omega
      have e2 := mul_inv h1 h2 hj
      have e3 := mul_inv h1 h2 hk7
      rw [e] at e2
      rw [hmk] at e3
      omega
theorem step_drop {N m i k : Nat} {l : List KV} (h : Hold (fun j => j < N ∧ i ≤ inv m j) l) (hs : Srt (dropL (kk k) l)) (hk7 : k < 307) (hkn : k < N) (h1 : 1 ≤ m) (h2 : m < 307) (hmk : inv m k = i) : Hold (fun j => j < N ∧ i + 1 ≤ inv m j) (dropL (kk k) l) := by
  refine (h.drop hk7 hs).congr fun j hj => ?_
  constructor
  · rintro ⟨⟨p, q⟩, e⟩
    refine ⟨p, ?_⟩
    rcases Nat.lt_or_ge i (inv m j) with h | h
    · exact h
    · have e1 : inv m j = i := by omega
      have e2 := mul_inv h1 h2 hj
      have e3 := mul_inv h1 h2 hk7
      rw [e1] at e2
      rw [hmk] at e3
      exact absurd (e2.symm.trans e3) e
  · rintro ⟨p, q⟩
    exact ⟨⟨p, by omega⟩, fun e => by subst e; omega⟩
theorem step_stay {N m i k : Nat} {l : List KV} (h : Hold (fun j => j < N ∧ i ≤ inv m j) l) (hk7 : k < 307) (hkn : ¬ k < N) (h1 : 1 ≤ m) (h2 : m < 307) (hmk : inv m k = i) : Hold (fun j => j < N ∧ i + 1 ≤ inv m j) l := by
  refine h.congr fun j hj => ?_
  constructor
  · rintro ⟨p, q⟩
    refine ⟨p, ?_⟩
    rcases Nat.lt_or_ge i (inv m j) with h | h
    · exact h
    · have e1 : inv m j = i := by omega
      have e2 := mul_inv h1 h2 hj
      have e3 := mul_inv h1 h2 hk7
      rw [e1] at e2
      rw [hmk] at e3
      omega
  · rintro ⟨p, q⟩
    exact ⟨p, by omega⟩
theorem TI.srt {w0 w : World} {T s : Nat} {l : List KV} (a : TI w0 w T s l) : Srt l := by
  obtain ⟨F, a, _⟩ := a
  exact a.srt
theorem key2' (w : World) (k : Nat) (hk : k < 307) : KAt (w.alloc (.cells #[.int .u8 ((k : Int) / 256), .int .u8 ((k : Int) % 256)] 5)) (some ⟨w.heap.size, 0, none⟩) (kk k) :=
  key2 w (k / 256) (k % 256) (by omega) (by omega)
set_option maxHeartbeats 16000000 in
theorem grows_good (D N B C : Nat) (w : World) (h0 : 2 ≤ D ∧ D ≤ 8) (h1 : N ≤ 300) (h2 : 1 ≤ B ∧ B ≤ 1000) (h3 : 1 ≤ C ∧ C ≤ 1000) : Calls Try.prog 4 #[.int .i64 D, .int .i64 N, .int .i64 B, .int .i64 C] w fun e w' => e = .returned (.bool true) ∧ Below w.heap.size w w' := by
  have HNW := Lib.hid (new_ti D w w (Below.refl _ _) (by omega) (by omega))
  have c0 : ¬ (D : Int) < 2 := by omega
  have c1 : ¬ 8 < (D : Int) := by omega
  have c2 : ¬ (N : Int) < 0 := by omega
  have c3 : ¬ 300 < (N : Int) := by omega
  have c4 : ¬ (B : Int) < 1 := by omega
  have c5 : ¬ 1000 < (B : Int) := by omega
  have c6 : ¬ (C : Int) < 1 := by omega
  have c7 : ¬ 1000 < (C : Int) := by omega
  obtain ⟨m, hm⟩ : ∃ m, m = 1 + B % 306 := ⟨_, rfl⟩
  obtain ⟨n2, hn2⟩ : ∃ n2, n2 = 1 + C % 306 := ⟨_, rfl⟩
  go_enter Try.func4, Try.ntmps4
  go_upto_region 8 with (go_at_call 9; (with_reducible refine HNW.out.mono ?_); rintro e w1 ⟨s, T, hs, rfl, hti⟩; have HS := Lib.hid (show D = s + 1 by omega); clear hs; dsimp only)
  go_loopg [11, 12] 308 (fun g s11 s12 wr => ∃ (many i : Nat), s11 = .int .i64 many ∧ s12 = .int .i64 i ∧ i ≤ 307 ∧ 307 - i < g ∧ many ≤ i ∧ Hid (∃ l, TI w wr T s l ∧ Hold (fun k => k < N ∧ inv m k < i) l ∧ l.length = many))
  case atStart => exact ⟨0, 0, rfl, rfl, by omega, by omega, by omega, Lib.hid ⟨[], hti, Hold.none fun k hk h => by omega, rfl⟩⟩
  case round =>
    obtain ⟨many, i, rfl, rfl, hi, hg, hmi, HT⟩ := hrel
    by_cases hin : i < 307
    · have hii : (i : Int) < 307 := by omega
      obtain ⟨k, hk⟩ : ∃ k, k = i * m % 307 := ⟨_, rfl⟩
      have hk7 : k < 307 := by rw [hk]; exact Nat.mod_lt _ (by decide)
      have hB : (B : Int) % 306 = ((m - 1 : Nat) : Int) := by omega
      have hm1 : 1 ≤ m ∧ m < 307 := by omega
      have him : i * m ≤ 306 * 306 := Nat.mul_le_mul (by omega) (by omega)
      have hf : Int.tmod (wrap64 ((i : Int) * (1 + (B : Int) % 306))) 307 = (k : Int) := by
        rw [hB, show 1 + ((m - 1 : Nat) : Int) = (m : Int) by omega, ← Int.natCast_mul]
        have e : wrap64 ((i * m : Nat) : Int) = ((i * m : Nat) : Int) := by unfold wrap64; omega
        rw [e, Int.tmod_eq_emod_of_nonneg (Int.natCast_nonneg _), hk]
        rfl
      have HQ := Lib.hid (And.intro hk (And.intro hm1 hm))
      clear hk hB him hm1
      go_upto_region 11 with fail
      clear hf
      by_cases hkn : k < N
      · have hki : (k : Int) < (N : Int) := by omega
        obtain ⟨l, hti2, hho, hll⟩ := HT.out
        have w1 : IntKind.u8.wrap ((k / 256 : Nat) : Int) = ((k / 256 : Nat) : Int) := by rw [IntKind.wrap_u8]; omega
        have w2 : IntKind.u8.wrap (k : Int) = ((k % 256 : Nat) : Int) := by rw [IntKind.wrap_u8]; omega
        have w3 : Int.tdiv (k : Int) 256 = ((k / 256 : Nat) : Int) := by rw [Int.tdiv_eq_ediv_of_nonneg (by omega)]; omega
        have hmk : inv m k = i := by rw [HQ.out.1]; exact inv_mul HQ.out.2.1.1 HQ.out.2.1.2 hin
        have hb2 : Below wr.heap.size wr (wr.alloc (.cells #[.int .u8 ((k : Int) / 256), .int .u8 ((k : Int) % 256)] 5)) := (Below.refl _ _).alloc (Nat.le_refl _) _
        have HP := Lib.hid (put_ti (n := 2) (c := 2) (v := (k : Int)) (hti2.on hb2) (key2' wr k hk7) rfl (fun h => by cases h) (by decide) (by omega))
        have hno : ∀ v, getL (kk k) l ≠ some v := fun v hv => by have := (hho.get hk7 hv).1; omega
        have HH := Lib.hid (And.intro hho (And.intro hll (And.intro hmk hno)))
        clear hti2 hb2 hho hll hmk hno w1 w2 w3
        go_upto_region 15 with (
          go_at_call 12
          (with_reducible refine HP.out.mono ?_)
          rintro e w2 ⟨old, was, rfl, hw1, hw2, hti3⟩
          dsimp only
          obtain rfl : was = false := by
            cases was
            · rfl
            · exact absurd (hw1 rfl) (HH.out.2.2.2 old)
          have hg0 := (hw2 rfl).1
          have hpl : (putL (kk k) (k : Int) l).length = many + 1 := by rw [put_length HH.out.1.1, hg0, HH.out.2.1]; rfl
          have hho2 := step_put HH.out.1 hti3.srt hk7 hkn HQ.out.2.1.1 HQ.out.2.1.2 HH.out.2.2.1
          have HN := Lib.hid (And.intro hti3 (And.intro hho2 hpl))
          clear hw1 hw2 hti3 hg0 hpl hho2 HP)
        obtain ⟨M, hM⟩ : ∃ M, M = many + 1 := ⟨_, rfl⟩
        have hM1 : 1 ≤ M ∧ M ≤ 307 := by omega
        have HMM := Lib.hid hM
        clear hM
        go_upto_region 16 with fail
        rw [show (many : Int) + 1 = (M : Int) by have := HMM.out; omega]
        have hM := HMM.out
        have HF := Lib.hid (show TI w w2 T s (putL (kk k) (k : Int) l) ∧ Hold (fun j => j < N ∧ inv m j < i + 1) (putL (kk k) (k : Int) l) ∧ (putL (kk k) (k : Int) l).length = M from ⟨HN.out.1, HN.out.2.1, by rw [HN.out.2.2, hM]⟩)
        have hMi : M ≤ i + 1 := by omega
        clear hM HMM hmi HN HT HH
        have HSh := Lib.hid (shape_ti HF.out.1 (by rw [HF.out.2.2]; omega))
        by_cases h16 : M % 16 = 0
        · have hi16 : (M : Int) % 16 = 0 := by omega
          go_wp2_with (first
            | (go_at_call 14
               (with_reducible refine HSh.out.mono ?_)
               rintro e w3 ⟨v3, sh3, rfl, hsh, hti4⟩
               dsimp only
               have HSo := Lib.hid (sound_ti (t := D) (keys := (M : Int)) hti4 hsh (by rw [HF.out.2.2]; omega) (by rw [HF.out.2.2]) HS.out))
            | (go_at_call 13
               (with_reducible refine HSo.out.mono ?_)
               rintro e w4 ⟨rfl, rfl⟩
               dsimp only))
          go_roundg (307 - i)
          case measure => omega
          case rel => exact ⟨M, i + 1, rfl, by go_num, by omega, by omega, hMi, Lib.hid ⟨_, hti4, HF.out.2.1, HF.out.2.2⟩⟩
        · have hi16 : ¬ (M : Int) % 16 = 0 := by omega
          go_wp2
          go_roundg (307 - i)
          case measure => omega
          case rel => exact ⟨M, i + 1, rfl, by go_num, by omega, by omega, hMi, Lib.hid ⟨_, HF.out.1, HF.out.2.1, HF.out.2.2⟩⟩
      · have hki : ¬ (k : Int) < (N : Int) := by omega
        go_wp2
        go_roundg (307 - i)
        case measure => omega
        case rel =>
          refine ⟨many, i + 1, rfl, by go_num, by omega, by omega, by omega, Lib.hid ?_⟩
          obtain ⟨l, h4, h5, h6⟩ := HT.out
          exact ⟨l, h4, step_skip h5 hk7 hkn HQ.out.2.1.1 HQ.out.2.1.2 (by rw [HQ.out.1]; exact inv_mul HQ.out.2.1.1 HQ.out.2.1.2 hin), h6⟩
    · have hii : ¬ (i : Int) < 307 := by omega
      obtain ⟨l, hti2, hho, hll⟩ := HT.out
      have hho2 : Hold (fun j => j < N) l := hho.congr fun j hj => ⟨fun h => h.1, fun h => ⟨h, by have := inv_lt m j; omega⟩⟩
      have hN := hho2.len (by omega)
      obtain rfl : many = N := by omega
      have HSh := Lib.hid (shape_ti hti2 (by omega))
      have HL := Lib.hid (And.intro hho2 hll)
      clear hti2 hho hho2 hN hll HT
      go_upto_region 21 with (first
        | (go_at_call 14
           (with_reducible refine HSh.out.mono ?_)
           rintro e w3 ⟨v3, sh3, rfl, hsh, hti4⟩
           dsimp only
           have HSo := Lib.hid (sound_ti (t := D) (keys := (many : Int)) hti4 hsh (by rw [HL.out.2]; omega) (by rw [HL.out.2]) HS.out))
        | (go_at_call 13
           (with_reducible refine HSo.out.mono ?_)
           rintro e w4 ⟨rfl, rfl⟩
           dsimp only))
      have HT4 := Lib.hid hti4
      clear hti4 HSo hsh HSh
      go_loopg [11, 16] 308 (fun g s11 s16 wq => ∃ (M j : Nat), s11 = .int .i64 M ∧ s16 = .int .i64 j ∧ j ≤ 307 ∧ 307 - j < g ∧ M ≤ 300 ∧ Hid (∃ l, TI w wq T s l ∧ Hold (fun k => k < many ∧ j ≤ inv n2 k) l ∧ l.length = M))
      case atStart => exact ⟨many, 0, rfl, rfl, by omega, by omega, by omega, Lib.hid ⟨l, HT4.out, HL.out.1.congr fun j hj => ⟨fun h => ⟨h, Nat.zero_le _⟩, fun h => h.1⟩, HL.out.2⟩⟩
      case round =>
        obtain ⟨M, j, rfl, rfl, hj, hg2, hM3, HJ⟩ := hrel
        by_cases hjn : j < 307
        · have hji : (j : Int) < 307 := by omega
          obtain ⟨k, hk⟩ : ∃ k, k = j * n2 % 307 := ⟨_, rfl⟩
          have hk7 : k < 307 := by rw [hk]; exact Nat.mod_lt _ (by decide)
          have hC : (C : Int) % 306 = ((n2 - 1 : Nat) : Int) := by omega
          have hm1 : 1 ≤ n2 ∧ n2 < 307 := by omega
          have him : j * n2 ≤ 306 * 306 := Nat.mul_le_mul (by omega) (by omega)
          have hf : Int.tmod (wrap64 ((j : Int) * (1 + (C : Int) % 306))) 307 = (k : Int) := by
            rw [hC, show 1 + ((n2 - 1 : Nat) : Int) = (n2 : Int) by omega, ← Int.natCast_mul]
            have e : wrap64 ((j * n2 : Nat) : Int) = ((j * n2 : Nat) : Int) := by unfold wrap64; omega
            rw [e, Int.tmod_eq_emod_of_nonneg (Int.natCast_nonneg _), hk]
            rfl
          have hmk : inv n2 k = j := by rw [hk]; exact inv_mul hm1.1 hm1.2 hjn
          have HQ2 := Lib.hid (And.intro hmk hm1)
          clear hk hC him hm1 hmk
          go_upto_region 24 with fail
          clear hf
          by_cases hkn : k < many
          · have hki : (k : Int) < (many : Int) := by omega
            obtain ⟨l2, hti2, hho, hll⟩ := HJ.out
            have hb2 : Below wr.heap.size wr (wr.alloc (.cells #[.int .u8 ((k : Int) / 256), .int .u8 ((k : Int) % 256)] 5)) := (Below.refl _ _).alloc (Nat.le_refl _) _
            have HP := Lib.hid (del_ti (n := 2) (c := 2) (hti2.on hb2) (key2' wr k hk7) rfl (by omega))
            have hyes : getL (kk k) l2 ≠ none := fun hv => hho.not hk7 hv ⟨hkn, by have := HQ2.out.1; omega⟩
            have HH := Lib.hid (And.intro hho (And.intro hll hyes))
            clear hti2 hb2 hho hll hyes
            go_upto_region 26 with (
              go_at_call 15
              (with_reducible refine HP.out.mono ?_)
              rintro e w2 ⟨old, was, rfl, hw1, hw2, hti3⟩
              dsimp only
              obtain rfl : was = true := by
                cases was
                · exact absurd (hw2 rfl).1 HH.out.2.2
                · rfl
              obtain rfl : old = (k : Int) := (HH.out.1.get hk7 (hw1 rfl)).2
              have hpl := drop_length HH.out.1.1 HH.out.2.2
              have hho2 := step_drop HH.out.1 hti3.srt hk7 hkn HQ2.out.2.1 HQ2.out.2.2 HQ2.out.1
              have HN := Lib.hid (And.intro hti3 (And.intro hho2 hpl))
              clear hw1 hw2 hti3 hpl hho2 HP)
            obtain ⟨R, hR⟩ : ∃ R, R = M - 1 := ⟨_, rfl⟩
            have hM0 : 1 ≤ M := by have := HN.out.2.2; have := HH.out.2.1; omega
            have hMi : (1 : Int) ≤ (M : Int) := by omega
            have HMM := Lib.hid hR
            have hR3 : R ≤ 300 := by omega
            clear hR
            go_upto_region 29 with fail
            rw [show (M : Int) - 1 = (R : Int) by have := HMM.out; omega]
            have hR := HMM.out
            have HF := Lib.hid (show TI w w2 T s (dropL (kk k) l2) ∧ Hold (fun i => i < many ∧ j + 1 ≤ inv n2 i) (dropL (kk k) l2) ∧ (dropL (kk k) l2).length = R from ⟨HN.out.1, HN.out.2.1, by have := HN.out.2.2; have := HH.out.2.1; omega⟩)
            clear hR HMM HN HJ HH
            have HSh := Lib.hid (shape_ti HF.out.1 (by rw [HF.out.2.2]; omega))
            by_cases h16 : R % 16 = 0
            · have hi16 : (R : Int) % 16 = 0 := by omega
              go_wp2_with (first
                | (go_at_call 14
                   (with_reducible refine HSh.out.mono ?_)
                   rintro e w3 ⟨v3, sh3, rfl, hsh, hti4⟩
                   dsimp only
                   have HSo := Lib.hid (sound_ti (t := D) (keys := (R : Int)) hti4 hsh (by rw [HF.out.2.2]; omega) (by rw [HF.out.2.2]) HS.out))
                | (go_at_call 13
                   (with_reducible refine HSo.out.mono ?_)
                   rintro e w4 ⟨rfl, rfl⟩
                   dsimp only))
              go_roundg (307 - j)
              case measure => omega
              case rel => exact ⟨R, j + 1, rfl, by go_num, by omega, by omega, hR3, Lib.hid ⟨_, hti4, HF.out.2.1, HF.out.2.2⟩⟩
            · have hi16 : ¬ (R : Int) % 16 = 0 := by omega
              go_wp2
              go_roundg (307 - j)
              case measure => omega
              case rel => exact ⟨R, j + 1, rfl, by go_num, by omega, by omega, hR3, Lib.hid ⟨_, HF.out.1, HF.out.2.1, HF.out.2.2⟩⟩
          · have hki : ¬ (k : Int) < (many : Int) := by omega
            go_wp2
            go_roundg (307 - j)
            case measure => omega
            case rel =>
              refine ⟨M, j + 1, rfl, by go_num, by omega, by omega, hM3, Lib.hid ?_⟩
              obtain ⟨l2, h4, h5, h6⟩ := HJ.out
              exact ⟨l2, h4, step_stay h5 hk7 hkn HQ2.out.2.1 HQ2.out.2.2 HQ2.out.1, h6⟩
        · have hji : ¬ (j : Int) < 307 := by omega
          obtain ⟨l2, hti2, hho, hll⟩ := HJ.out
          obtain rfl : l2 = [] := hho.nil fun k hk h => by have := inv_lt n2 k; omega
          have HLn : Hid (Calls Try.prog 16 #[.pointer (some ⟨T, 0, none⟩)] wr fun e w' => e = .returned (.int .i64 0) ∧ wr = w') := Lib.hid (len_ti hti2)
          have HK := Lib.hid (known_any wr)
          have HB := Lib.hid hti2
          clear hti2 hho hll HJ
          go_wp2_with (first
            | (go_at_call 16
               (with_reducible refine HLn.out.mono ?_)
               rintro e w3 ⟨rfl, rfl⟩
               dsimp only)
            | (go_at_call 8
               (with_reducible refine HK.out.mono ?_)
               rintro e w4 ⟨rfl, hb⟩
               dsimp only))
          go_ret
          exact ⟨rfl, HB.out.base hb⟩
end Go.Proofs.Ytgjcomnljonffaa.Tlv
