/- Which entries may be; are attributes more than is gone through? -/
import Derived.Test.YtlhbnmaalhainaaRefMayL
namespace Go.Proofs.Ytlhbnmaalhainaa
open Go.RowKit Go.Lib Go.Sort
set_option linter.unusedVariables false
set_option linter.unusedSimpArgs false

def mayE (name : List UInt8) (l : List At) : Bool := mayN name && mayL l
set_option maxHeartbeats 2000000 in
theorem mayEntry_any (name : List UInt8) (l : List At) (v : Value) (w : World) (hv : RdV w v l) (h1 : name.length ≤ 9223372036854775807) (hs : Sm l) (hl : l.length ≤ 1000000) :
    Calls Try.prog 17 #[.agg #[.string (sx name), v]] w fun e w' => e = .returned (.bool (mayE name l)) ∧ Below w.heap.size w w' := by
  have hb0 := (Below.refl w.heap.size w).alloc (Nat.le_refl _) (.cells #[.string (sx name), v] 26)
  have HN := Lib.hid fun W => mayName_any name W h1
  have HA := Lib.hid (mayAttrs_any l v (w.alloc (.cells #[.string (sx name), v] 26)) (hv.on hb0) hs hl)
  have HZ := Lib.hid (show w.heap.size ≤ (w.alloc (.cells #[.string (sx name), v] 26)).heap.size by rw [World.size_alloc]; omega)
  have HB := Lib.hid hb0
  have HE : Hid (mayE name l = (mayN name && mayL l)) := Lib.hid rfl
  obtain ⟨A, c, rfl, _, _⟩ := hv
  clear hb0 h1 hs hl
  generalize mayN name = r at HN HE
  generalize mayL l = r2 at HA HE
  generalize l.length = n at HA HB HZ ⊢
  cases r with
  | false =>
    go_enter Try.func17, Try.ntmps17
    go_wp2_with (go_at_call 13; (with_reducible refine (HN.out _).mono ?_); rintro e w1 ⟨rfl, rfl⟩)
    go_ret
    exact ⟨by rw [HE.out]; rfl, HB.out⟩
  | true =>
    rw [Bool.true_and] at HE
    go_enter Try.func17, Try.ntmps17
    go_wp2_with (first
      | (go_at_call 13; (with_reducible refine (HN.out _).mono ?_); rintro e w1 ⟨rfl, rfl⟩)
      | (go_at_call 15; (with_reducible refine HA.out.mono ?_); rintro e w2 ⟨rfl, hb2⟩))
    go_ret
    exact ⟨by rw [HE.out]; rfl, HB.out.trans (hb2.mono HZ.out)⟩
set_option maxHeartbeats 2000000 in
theorem refMayEntry_any (name : List UInt8) (l : List At) (v : Value) (w : World) (hv : RdV w v l) (h1 : name.length ≤ 9223372036854775807) (hs : Sm l) (hl : l.length ≤ 1000000) :
    Calls Try.prog 18 #[.agg #[.string (sx name), v]] w fun e w' => e = .returned (.bool (mayE name l)) ∧ Below w.heap.size w w' := by
  have hb0 := (Below.refl w.heap.size w).alloc (Nat.le_refl _) (.cells #[.string (sx name), v] 26)
  have hblk := Blk.new w 26 #[.string (sx name), v]
  have hv1 := hv.on hb0
  obtain ⟨A, c, rfl, _, _⟩ := hv
  have hz : w.heap.size ≤ (w.alloc (.cells #[.string (sx name), .slice A l.length c] 26)).heap.size := by rw [World.size_alloc]; omega
  have HN := Lib.hid fun W => refMayName_any name W h1
  have HE : Hid (mayE name l = (mayN name && mayL l)) := Lib.hid rfl
  obtain ⟨v, hvv⟩ : ∃ v, v = Value.slice A l.length c := ⟨_, rfl⟩
  rw [← hvv] at hv1 hb0 hblk hz ⊢
  have HA := Lib.hid fun W (hb : Below (w.alloc (.cells #[.string (sx name), v] 26)).heap.size (w.alloc (.cells #[.string (sx name), v] 26)) W) => refMayAttrs_any l v W (hv1.on hb) hs hl
  have HX := Lib.hid (And.intro hb0 (And.intro hz hblk))
  rw [hvv]
  rw [hvv] at HA HX
  clear hv1 h1 hs hl hb0 hblk hz hvv v
  generalize mayN name = r at HN HE
  generalize mayL l = r2 at HA HE
  generalize l.length = n at HA HX ⊢
  cases r with
  | false =>
    go_enter Try.func18, Try.ntmps18
    go_wp2_with (go_at_call 14; (with_reducible refine (HN.out _).mono ?_); rintro e w1 ⟨rfl, hb1⟩)
    go_ret
    exact ⟨by rw [HE.out]; rfl, HX.out.1.trans (hb1.mono HX.out.2.1)⟩
  | true =>
    rw [Bool.true_and] at HE
    go_enter Try.func18, Try.ntmps18
    go_wp2_with (first
      | (go_at_call 14; (with_reducible refine (HN.out _).mono ?_); rintro e w1 ⟨rfl, hb1⟩; have HB1 := Lib.hid hb1; have HA1 := Lib.hid (HA.out _ hb1); have e1 := (HX.out.2.2.on hb1).cell 1; clear hb1)
      | (go_at_call 16; (with_reducible refine HA1.out.mono ?_); rintro e w2 ⟨rfl, hb2⟩))
    go_ret
    exact ⟨by rw [HE.out]; rfl, HX.out.1.trans ((HB1.out.trans (hb2.mono HB1.out.size)).mono HX.out.2.1)⟩

def szA (x : At) : Nat := min x.t.length 20001 + min x.v.length 20001
def sumK (l : List At) (k : Nat) : Nat := ((List.range k).map fun i => szA (l.getD i default)).sum
theorem sumK_succ (l : List At) (k : Nat) : sumK l (k + 1) = sumK l k + szA (l.getD k default) := by unfold sumK; rw [List.range_succ, List.map_append, List.sum_append]; simp
theorem sumK_le (l : List At) : ∀ k, sumK l k ≤ k * 40002
  | 0 => Nat.le_refl _
  | k + 1 => by
    have := sumK_le l k
    rw [sumK_succ]
    unfold szA
    omega
def muchV (l : List At) : Bool := decide (120 < l.length) || decide (20000 < sumK l (min l.length 121))
set_option maxHeartbeats 2000000 in
theorem much_any (l : List At) (v : Value) (w : World) (hv : RdV w v l) (hs : Sm l) (hl : l.length ≤ 9223372036854775807) :
    Calls Try.prog 9 #[v] w fun e w' => e = .returned (.bool (muchV l)) ∧ Below w.heap.size w w' := by
  obtain ⟨A, c, rfl, _, hr⟩ := hv
  have HR := Lib.hid hr
  have HS := Lib.hid hs
  have HM : Hid (muchV l = (decide (120 < l.length) || decide (20000 < sumK l (min l.length 121)))) := Lib.hid rfl
  obtain ⟨n, hn⟩ : ∃ n, n = l.length := ⟨_, rfl⟩
  rw [← hn] at HM hl ⊢
  have HN := Lib.hid hn
  clear hr hs hn
  go_enter Try.func9, Try.ntmps9
  go_wp2
  go_loopw [3, 4] (fun s3 s4 wr => ∃ k : Nat, s4 = .int .i64 k ∧ s3 = .int .i64 (sumK l k : Nat) ∧ k ≤ n ∧ k ≤ 121 ∧ Below w.heap.size w wr) (fun _ s4 _ => 121 - (intOf s4).toNat)
  case atStart => exact ⟨0, rfl, rfl, Nat.zero_le _, by omega, Below.refl _ _⟩
  case round =>
    obtain ⟨k, rfl, rfl, hk, hk121, hB⟩ := hrel
    have HB := Lib.hid hB
    clear hB
    have hsle := sumK_le l k
    by_cases hlt : k < n
    · by_cases h120 : k ≤ 120
      · obtain ⟨b, off, rfl, hbl, c0, c1⟩ := at_cells HR.out HB.out (show k < l.length by have := HN.out; omega)
        have hx := sm_get HS.out k (by have := HN.out; omega)
        have hss := sumK_succ l k
        unfold szA at hss
        generalize l.getD k default = x at c0 c1 hx hss
        have z1 := sx_size x.t
        have z2 := sx_size x.v
        have HSS := Lib.hid hss
        obtain ⟨S, hS⟩ : ∃ S, S = sumK l k := ⟨_, rfl⟩
        rw [← hS] at hsle HSS ⊢
        clear hss hS
        go_wp2_with fail
        go_region
        go_wp2
        go_roundw
        case rel => exact ⟨k + 1, by go_num, by rw [HSS.out]; congr 1; omega, by omega, by omega, below_drew HB.out⟩
        case measure => simp [intOf]; omega
      · have hke : k = 121 := by omega
        have HF : Hid (muchV l = true) := Lib.hid (by rw [HM.out, decide_eq_true (show 120 < n by omega), Bool.true_or])
        subst hke
        have hgt : 120 < n := by omega
        generalize sumK l 121 = S at hsle ⊢
        go_wp2
        go_ret
        exact ⟨by rw [HF.out]; rfl, HB.out⟩
    · have hkn : k = n := by omega
      have hs2 : sumK l (min n 121) = sumK l k := by rw [show min n 121 = k by omega]
      rw [hs2] at HM
      have HF := HM
      clear hs2 HM
      generalize sumK l k = S at hsle HF ⊢
      have HF2 : Hid (muchV l = (decide ((120 : Int) < (n : Int)) || decide ((20000 : Int) < (S : Int)))) := Lib.hid (by
        rw [HF.out, show decide (120 < n) = decide ((120 : Int) < (n : Int)) from decide_eq_decide.2 (by omega), show decide (20000 < S) = decide ((20000 : Int) < (S : Int)) from decide_eq_decide.2 (by omega)])
      clear HF
      go_wp2
      all_goals go_ret
      all_goals first
        | exact ⟨by rw [HF2.out]; rfl, HB.out⟩
        | exact ⟨by rw [HF2.out, decide_eq_true (by assumption)]; rfl, HB.out⟩
end Go.Proofs.Ytlhbnmaalhainaa
