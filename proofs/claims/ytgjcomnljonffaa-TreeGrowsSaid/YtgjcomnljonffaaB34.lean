/- The document's Sound. -/
import Derived.Test.YtgjcomnljonffaaB33
namespace Go.Proofs.Ytgjcomnljonffaa.Tlv
open Go.RowKit
set_option maxRecDepth 100000
set_option linter.unusedVariables false
set_option linter.unusedSimpArgs false
def rowsum (row : List Nat) (k : Nat) : Nat := (row.take k).sum
theorem rowsum_succ {row : List Nat} {k : Nat} (h : k < row.length) : rowsum row (k + 1) = rowsum row k + row.getD k 0 := by
  unfold rowsum
  rw [List.take_add_one, List.getElem?_eq_getElem h, List.sum_append, List.getD_eq_getElem?_getD, List.getElem?_eq_getElem h]
  simp
theorem rowsum_le (row : List Nat) (k : Nat) : rowsum row k ≤ row.sum := by
  have h := congrArg List.sum (List.take_append_drop k row)
  rw [List.sum_append] at h
  unfold rowsum
  omega
theorem rowsum_all (row : List Nat) : rowsum row row.length = row.sum := by simp [rowsum]
def tots (sh : List (List Nat)) (i : Nat) : Nat := ((sh.take i).map List.sum).sum
theorem tots_succ {sh : List (List Nat)} {i : Nat} (h : i < sh.length) : tots sh (i + 1) = tots sh i + (sh.getD i []).sum := by
  unfold tots
  rw [List.take_add_one, List.getElem?_eq_getElem h, List.map_append, List.sum_append, List.getD_eq_getElem?_getD, List.getElem?_eq_getElem h]
  simp
theorem tots_le (sh : List (List Nat)) (i : Nat) : tots sh i ≤ (sh.map List.sum).sum := by
  have h := congrArg (fun l => (l.map List.sum).sum) (List.take_append_drop i sh)
  simp only [List.map_append, List.sum_append] at h
  unfold tots
  omega
theorem tots_all (sh : List (List Nat)) : tots sh sh.length = (sh.map List.sum).sum := by simp [tots]
theorem len_le_sum : ∀ row : List Nat, (∀ k, k < row.length → 1 ≤ row.getD k 0) → row.length ≤ row.sum
  | [], _ => by simp
  | x :: r, h => by
    have h1 := len_le_sum r fun k hk => by simpa using h (k + 1) (by simpa using hk)
    have h2 : 1 ≤ x := by simpa using h 0 (by simp)
    simp
    omega
theorem SndL.row {t keys : Nat} {sh : List (List Nat)} (a : SndL t keys sh) (ht : 2 ≤ t) (i : Nat) (hi : i < sh.length) : (sh.getD i []).length ≤ (sh.getD i []).sum ∧ tots sh i + (sh.getD i []).sum ≤ keys := by
  refine ⟨len_le_sum _ fun k hk => ?_, ?_⟩
  · have h1 := (a.rng i hi k hk).1
    split at h1 <;> omega
  · have h1 := tots_le sh (i + 1)
    rw [tots_succ hi, a.tot] at h1
    exact h1
set_option maxHeartbeats 8000000 in
theorem sound_any (t keys base : Nat) (v : Value) (sh : List (List Nat)) (w : World) (hv : RowsAt w base v sh) (a : SndL t keys sh) (ht : 2 ≤ t ∧ t ≤ 100) (hk : keys ≤ 100000) (hsl : sh.length ≤ 1000000) :
    Calls Try.prog 13 #[v, .int .i64 keys, .int .i64 t] w (fun e w' => e = .returned (.bool true) ∧ w' = w) := by
  obtain ⟨sls, r1, r2, r3⟩ := hv
  obtain ⟨A, c, n, hn, rfl, hA, hr⟩ := r1.rdn
  have HN := Lib.hid (And.intro (hn.out.trans r2) (And.intro ht (And.intro hk (And.intro hsl a))))
  have hcell : 0 < sh.length → ∃ b off, A = some ⟨b, off, none⟩ ∧ ∀ i, i < sh.length → ∃ Ai ci, w.cell? ⟨b, off + i, none⟩ = some (.slice Ai (sh.getD i []).length ci) ∧ ∀ k, k < (sh.getD i []).length → ∃ bi, Ai = some ⟨bi, 0, none⟩ ∧ w.cell? ⟨bi, k, none⟩ = some (.int .i64 ((sh.getD i []).getD k 0 : Nat)) := fun hp => by
    obtain ⟨b, off, rfl, hbl, hc⟩ := hr (by omega)
    refine ⟨b, off, rfl, fun i hi => ?_⟩
    obtain ⟨q1, q2⟩ := r3 i hi
    have h1 := hc i (by omega) 0 _ rfl
    rw [show off + i * kS.size + 0 = off + i by simp [kS]] at h1
    refine ⟨(sls.getD i default).A, (sls.getD i default).c, h1.trans ?_, fun k hk => ?_⟩
    · rw [← q1]
    · obtain ⟨bi, cs, e1, e2, e3⟩ := q2 (by omega)
      exact ⟨bi, e1, by rw [e2.cell k]; simpa using e3 k hk⟩
  have HC := Lib.hid hcell
  clear hn r1 r2 r3 hr hA hcell a ht hk hsl
  by_cases hz : keys = 0
  · subst hz
    have hn0 : n = 0 := by rw [HN.out.1, HN.out.2.2.2.2.zero rfl]; rfl
    subst hn0
    go_enter Try.func13, Try.ntmps13
    go_wp2
    go_ret
    exact ⟨rfl, rfl⟩
  · have hzi : ¬ (keys : Int) = 0 := by omega
    have hp : 0 < sh.length := (HN.out.2.2.2.2.one (by omega)).1
    have hone : (sh.getD 0 []).length = 1 := (HN.out.2.2.2.2.one (by omega)).2
    obtain ⟨b, off, rfl, hc⟩ := HC.out hp
    have HD := Lib.hid hc
    obtain ⟨A0, c0, x0, _⟩ := hc 0 hp
    rw [hone, Nat.add_zero] at x0
    have hn1 : 1 ≤ n := by have := HN.out.1; omega
    have hnn : ¬ (n : Int) = 0 := by omega
    have hn0 : (0 : Int) < (n : Int) := by omega
    have hnb : n ≤ 1000000 := by have := HN.out.1; have := HN.out.2.2.2.1; omega
    clear hc hone hp HC
    go_enter Try.func13, Try.ntmps13
    go_upto_region 7 with fail
    have hnz : ((n : Int) == 0) = false := by simpa using hnn
    rw [hnz]
    clear hnz
    go_loopg [7, 8] n (fun g s7 s8 wr => ∃ (tot i : Nat), s7 = .int .i64 tot ∧ s8 = .int .i64 i ∧ i ≤ n ∧ n - i ≤ g ∧ wr = w ∧ Hid (tot = tots sh i))
    case atStart => exact ⟨0, 0, rfl, rfl, Nat.zero_le _, by omega, rfl, Lib.hid rfl⟩
    case round =>
      obtain ⟨tot, i, rfl, rfl, hi, hg, rfl, HT⟩ := hrel
      by_cases hin : i < n
      · have hii : (i : Int) < (n : Int) := by omega
        have his : i < sh.length := by have := HN.out.1; omega
        obtain ⟨Ai, ci, x1, hx⟩ := HD.out i his
        have hrow := HN.out.2.2.2.2.row HN.out.2.1.1 i his
        obtain ⟨m, hm⟩ : ∃ m, m = (sh.getD i []).length := ⟨_, rfl⟩
        obtain ⟨su, hsu⟩ : ∃ su, su = (sh.getD i []).sum := ⟨_, rfl⟩
        rw [← hm] at x1 hrow
        rw [← hsu] at hrow
        have htot : tot + su ≤ keys := by rw [HT.out]; exact hrow.2
        have hms : m ≤ su := hrow.1
        have hkb : keys ≤ 100000 := HN.out.2.2.1
        have HM := Lib.hid (And.intro hm (And.intro hsu (And.intro his hx)))
        clear hm hsu hx hrow his
        go_upto_region 11 with fail
        obtain ⟨go, hgo⟩ : ∃ x : Nat, x = gk := ⟨_, rfl⟩
        subst hgo
        go_loopg [7, 9, 10] m (fun g s7 s9 s10 wq => ∃ (tt kk k : Nat), s7 = .int .i64 tt ∧ s9 = .int .i64 kk ∧ s10 = .int .i64 k ∧ k ≤ m ∧ m - k ≤ g ∧ wq = wr ∧ Hid (tt = tot + rowsum (sh.getD i []) k ∧ kk = rowsum (sh.getD i []) k + k))
        case atStart => exact ⟨tot, 0, 0, rfl, rfl, rfl, Nat.zero_le _, by omega, rfl, Lib.hid ⟨by simp [rowsum], by simp [rowsum]⟩⟩
        case round =>
          obtain ⟨tt, kk, k, rfl, rfl, rfl, hk, hg2, hw, HR⟩ := hrel
          subst hw
          by_cases hkm : k < m
          · have hki : (k : Int) < (m : Int) := by omega
            obtain ⟨bi, rfl, x2⟩ := HM.out.2.2.2 k (by rw [← HM.out.1]; exact hkm)
            have hrg := HN.out.2.2.2.2.rng i HM.out.2.2.1 k (by rw [← HM.out.1]; exact hkm)
            have hsu1 := rowsum_succ (row := sh.getD i []) (k := k) (by rw [← HM.out.1]; exact hkm)
            have hsu2 := rowsum_le (sh.getD i []) (k + 1)
            obtain ⟨x, hx⟩ : ∃ x, x = (sh.getD i []).getD k 0 := ⟨_, rfl⟩
            rw [← hx] at x2 hrg hsu1
            have hb1 : tt + x ≤ keys := by have := HR.out.1; have := HM.out.2.1; omega
            have hb2 : kk + x ≤ 2 * keys := by have := HR.out.2; have := HR.out.1; have := HM.out.2.1; omega
            have HS := Lib.hid hsu1
            have ht2 := HN.out.2.1
            have w1 : IntKind.i64.wrap ((tt : Int) + (x : Int)) = ((tt + x : Nat) : Int) := by rw [IntKind.wrap_i64]; omega
            have w2 : IntKind.i64.wrap ((kk : Int) + (x : Int)) = ((kk + x : Nat) : Int) := by rw [IntKind.wrap_i64]; omega
            have w3 : IntKind.i64.wrap (((kk + x : Nat) : Int) + 1) = ((kk + x + 1 : Nat) : Int) := by rw [IntKind.wrap_i64]; omega
            have w4 : IntKind.i64.wrap ((k : Int) + 1) = ((k + 1 : Nat) : Int) := by rw [IntKind.wrap_i64]; omega
            have w5 : IntKind.i64.wrap ((t : Int) - 1) = ((t - 1 : Nat) : Int) := by rw [IntKind.wrap_i64]; omega
            have w6 : IntKind.i64.wrap (2 * (t : Int)) = ((2 * t : Nat) : Int) := by rw [IntKind.wrap_i64]; omega
            have w7 : IntKind.i64.wrap (((2 * t : Nat) : Int) - 1) = ((2 * t - 1 : Nat) : Int) := by rw [IntKind.wrap_i64]; omega
            clear hsu1 hsu2
            have w8 : tt + x ≤ 100000 := by omega
            have HP := Lib.hid (And.intro hx hrg)
            have hfin : ∃ (tt' kk' k' : Nat), tt + x = tt' ∧ kk + x + 1 = kk' ∧ k + 1 = k' ∧ k' ≤ m ∧ Hid (tt' = tot + rowsum (sh.getD i []) k' ∧ kk' = rowsum (sh.getD i []) k' + k') := ⟨_, _, _, rfl, rfl, rfl, hkm, Lib.hid ⟨by have := HS.out; have := HR.out.1; omega, by have := HS.out; have := HR.out.2; omega⟩⟩
            rcases Nat.eq_zero_or_pos i with hi0 | hi0
            · have he : ((i : Int) == 0) = true := by simpa using hi0
              have hlo : ¬ (x : Int) < 1 := by have := hrg.1; rw [if_pos hi0] at this; omega
              have hup : ¬ (x : Int) > ((2 * t - 1 : Nat) : Int) := by have := hrg.2; omega
              clear hi0 hrg hx
              go_wp2
              go_roundg (m - (k + 1))
              case measure => omega
              case rel =>
                obtain ⟨_, _, _, rfl, rfl, rfl, h1, h2⟩ := hfin
                exact ⟨_, _, _, by go_num, by go_num, by go_num, h1, Nat.le_refl _, rfl, h2⟩
            · have he : ((i : Int) == 0) = false := by simp; omega
              have hlo : ¬ (x : Int) < ((t - 1 : Nat) : Int) := by have := hrg.1; rw [if_neg (by omega)] at this; omega
              have hup : ¬ (x : Int) > ((2 * t - 1 : Nat) : Int) := by have := hrg.2; omega
              clear hi0 hrg hx
              go_wp2
              go_roundg (m - (k + 1))
              case measure => omega
              case rel =>
                obtain ⟨_, _, _, rfl, rfl, rfl, h1, h2⟩ := hfin
                exact ⟨_, _, _, by go_num, by go_num, by go_num, h1, Nat.le_refl _, rfl, h2⟩
          · have hkm' : m = k := by omega
            subst hkm'
            have hkk : ¬ (m : Int) < (m : Int) := by omega
            have hnb2 : (n : Int) ≤ 1000000 := by omega
            have w1 : IntKind.i64.wrap ((i : Int) + 1) = ((i + 1 : Nat) : Int) := by rw [IntKind.wrap_i64]; omega
            have htt : tt = tots sh (i + 1) := by
              rw [tots_succ HM.out.2.2.1, ← HT.out, HR.out.1, HM.out.1, rowsum_all]
            by_cases hin2 : i + 1 < n
            · have hi2 : ((i + 1 : Nat) : Int) < (n : Int) := by omega
              obtain ⟨Aj, cj, y1, _⟩ := HD.out (i + 1) (by have := HN.out.1; omega)
              have hnx := HN.out.2.2.2.2.nxt i (by have := HN.out.1; omega)
              have hkk2 : (sh.getD (i + 1) []).length = kk := by rw [hnx, HR.out.2, HM.out.1, rowsum_all]
              rw [hkk2] at y1
              have HF := Lib.hid htt
              clear hnx hkk2 htt hin2
              go_wp2
              go_roundg (n - (i + 1))
              case measure => omega
              case rel => exact ⟨_, i + 1, rfl, by go_num, by omega, Nat.le_refl _, rfl, HF⟩
            · have hi2 : ¬ ((i + 1 : Nat) : Int) < (n : Int) := by omega
              have HF := Lib.hid htt
              clear htt hin2
              go_wp2
              go_roundg (n - (i + 1))
              case measure => omega
              case rel => exact ⟨_, i + 1, rfl, by go_num, by omega, Nat.le_refl _, rfl, HF⟩
      · have hin' : n = i := by omega
        subst hin'
        have hii : ¬ (n : Int) < (n : Int) := by omega
        have htk : (tot : Int) = (keys : Int) := by
          rw [HT.out, HN.out.1, tots_all, HN.out.2.2.2.2.tot]
        go_wp2
        go_ret
        exact ⟨rfl, rfl⟩
end Go.Proofs.Ytgjcomnljonffaa.Tlv
