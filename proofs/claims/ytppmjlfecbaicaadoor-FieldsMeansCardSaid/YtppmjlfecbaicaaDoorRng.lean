/- Ranges out of their texts. -/
import Derived.Test.YtppmjlfecbaicaaDoorHex
import Derived.Test.YtppmjlfecbaicaaDoorShelf
import Derived.Lib.CutLaws
namespace Go.Proofs.YtppmjlfecbaicaaDoor
open Go.RowKit
set_option linter.unusedVariables false
set_option linter.unusedSimpArgs false

def dots : List UInt8 := [46, 46]
/-- The place of the first two dots. -/
def dotAt (s : ByteArray) : Int := Lib.index s.data.toList dots
def both (a b : Option Int) : Option (Int × Int) := a.bind fun x => b.bind fun y => if x ≤ y then some (x, y) else none
/-- The range that a field says. -/
def rangeV (s : ByteArray) : Option (Int × Int) :=
  if dotAt s = -1 then (codeV (bl s)).map fun a => (a, a) else both (codeV (bl (s.extract 0 (dotAt s).toNat))) (codeV (bl (s.extract ((dotAt s).toNat + 2) s.size)))
def tup3 (o : Option (Int × Int)) : Value := .tuple #[.int .i32 (o.map (·.1) |>.getD 0), .int .i32 (o.map (·.2) |>.getD 0), .bool o.isSome]
theorem occ_dots (s : ByteArray) (i : Nat) (h : i + 1 < s.size) : Lib.occAt s.data.toList dots i = true ↔ ((s[i]'(by omega)).toNat = 46 ∧ (s[i + 1]'h).toNat = 46) := by
  have hl : s.data.toList.length = s.size := by rw [Array.length_toList]; rfl
  rw [Lib.occAt_iff_take _ _ _ (by rw [hl]; show i + 2 ≤ _; omega)]
  rw [List.drop_eq_getElem_cons (by omega), List.drop_eq_getElem_cons (by omega)]
  have e1 : s.data.toList[i]'(by omega) = s[i]'(by omega) := rfl
  have e2 : s.data.toList[i + 1]'(by omega) = s[i + 1]'h := rfl
  rw [e1, e2]
  show (List.take 2 _ == [46, 46]) = true ↔ _
  simp [← UInt8.toNat_inj]
theorem occ_far (s : ByteArray) (i : Nat) (h : ¬ i + 1 < s.size) : Lib.occAt s.data.toList dots i = false := by
  have hl : s.data.toList.length = s.size := by rw [Array.length_toList]; rfl
  cases e : Lib.occAt s.data.toList dots i with
  | false => rfl
  | true =>
    rcases Lib.occAt_room e with h1 | h1
    · rw [hl] at h1
      have : i + 2 ≤ s.size := h1
      omega
    · cases h1
theorem sub_size (s : ByteArray) (a b : Nat) : (s.extract a b).size ≤ s.size := by
  rw [ByteArray.size_extract]; omega

set_option maxHeartbeats 4000000 in
theorem range_any (s : ByteArray) (m : Int) (w : World) (hs : s.size < 4294967281) (hm : w.cell? ⟨0, 0, none⟩ = some (.int .i64 m)) : Calls Tryd.prog 12 #[.string s] w fun e w' => e = .returned (tup3 (rangeV s)) ∧ Below w.heap.size w w' := by
  have hcut := Lib.hid (Tryd.strings_Cut s ⟨dots.toArray⟩ m w hs hm)
  have HR : Hid (∃ (a b : ByteArray) (t : Bool), (Calls Tryd.prog 25 #[.string s, .string { data := #[46, 46] }] w fun e w' => e = .returned (.tuple #[.string a, .string b, .bool t]) ∧ ∃ n, w' = w.drewN n) ∧ a.size ≤ s.size ∧ b.size ≤ s.size ∧
      (t = true → rangeV s = both (codeV (bl a)) (codeV (bl b))) ∧ (t = false → rangeV s = (codeV (bl a)).map fun x => (x, x))) := Lib.hid (by
    have h0 := hcut.out
    rcases Lib.indexB_cases s ⟨dots.toArray⟩ with h | ⟨i, h, _⟩
    · obtain ⟨e1, e2, e3⟩ := Lib.cutB_miss s ⟨dots.toArray⟩ h
      rw [e1, e2, e3] at h0
      refine ⟨_, _, _, h0, Nat.le_refl _, Nat.zero_le _, fun h => (by cases h), fun _ => ?_⟩
      unfold rangeV
      rw [if_pos (show dotAt s = -1 from h)]
    · obtain ⟨e1, e2, e3⟩ := Lib.cutB_hit s ⟨dots.toArray⟩ i h
      rw [e1, e2, e3] at h0
      refine ⟨_, _, _, h0, sub_size _ _ _, sub_size _ _ _, fun _ => ?_, fun h => (by cases h)⟩
      have h' : dotAt s = i := h
      unfold rangeV
      rw [if_neg (by omega), h']
      rfl)
  clear hcut hm
  obtain ⟨a, b, t, hc, ha, hb, hy, hn⟩ := HR.out
  clear HR
  have HC := Lib.hid hc
  have HY := Lib.hid hy
  have HN := Lib.hid hn
  clear hc hy hn
  have CA : ∀ W, Hid (Calls Tryd.prog 10 #[.string a] W fun e w' => e = .returned (.tuple #[.int .i32 ((codeV (bl a)).getD 0), .bool (codeV (bl a)).isSome]) ∧ Below W.heap.size W w') := fun W => Lib.hid (code_any a W (by omega))
  have CB : ∀ W, Hid (Calls Tryd.prog 10 #[.string b] W fun e w' => e = .returned (.tuple #[.int .i32 ((codeV (bl b)).getD 0), .bool (codeV (bl b)).isSome]) ∧ Below W.heap.size W w') := fun W => Lib.hid (code_any b W (by omega))
  have HBD : ∀ (n : Nat) (w2 : World), Below (w.drewN n).heap.size (w.drewN n) w2 → Below w.heap.size w w2 := fun n w2 h => ⟨h.os, h.tape, h.output, h.size, h.block⟩
  generalize codeV (bl a) = oa at *
  generalize codeV (bl b) = ob at *
  cases t with
  | false =>
    have HN2 := Lib.hid (HN.out rfl)
    clear HN HY CB ha hb hs
    cases oa with
    | none =>
      go_enter Tryd.func12, Tryd.ntmps12
      go_wp2_with fail
      refine HC.out.mono ?_
      rintro e w1 ⟨rfl, n, rfl⟩
      go_wp2_with fail
      refine (CA _).out.mono ?_
      rintro e w2 ⟨rfl, hb2⟩
      have HB2 := Lib.hid (HBD n w2 hb2)
      clear hb2
      go_wp2_with fail
      refine (CA _).out.mono ?_
      rintro e w3 ⟨rfl, hb3⟩
      have HB3 := Lib.hid (HB2.out.trans (hb3.mono HB2.out.size))
      clear hb3
      go_wp2_with fail
      go_ret3
      exact ⟨by rw [HN2.out]; rfl, HB3.out⟩
    | some x =>
      go_enter Tryd.func12, Tryd.ntmps12
      go_wp2_with fail
      refine HC.out.mono ?_
      rintro e w1 ⟨rfl, n, rfl⟩
      go_wp2_with fail
      refine (CA _).out.mono ?_
      rintro e w2 ⟨rfl, hb2⟩
      have HB2 := Lib.hid (HBD n w2 hb2)
      clear hb2
      go_wp2_with fail
      refine (CA _).out.mono ?_
      rintro e w3 ⟨rfl, hb3⟩
      have HB3 := Lib.hid (HB2.out.trans (hb3.mono HB2.out.size))
      clear hb3
      go_wp2_with fail
      go_ret3
      exact ⟨by rw [HN2.out]; rfl, HB3.out⟩
  | true =>
    have HY2 := Lib.hid (HY.out rfl)
    clear HN HY ha hb hs
    cases oa with
    | none =>
      go_enter Tryd.func12, Tryd.ntmps12
      go_wp2_with fail
      refine HC.out.mono ?_
      rintro e w1 ⟨rfl, n, rfl⟩
      go_wp2_with fail
      refine (CA _).out.mono ?_
      rintro e w2 ⟨rfl, hb2⟩
      have HB2 := Lib.hid (HBD n w2 hb2)
      clear hb2
      go_wp2_with fail
      refine (CB _).out.mono ?_
      rintro e w3 ⟨rfl, hb3⟩
      have HB3 := Lib.hid (HB2.out.trans (hb3.mono HB2.out.size))
      clear hb3
      go_wp2_with fail
      go_ret3
      exact ⟨by rw [HY2.out]; rfl, HB3.out⟩
    | some x =>
    cases ob with
    | none =>
      go_enter Tryd.func12, Tryd.ntmps12
      go_wp2_with fail
      refine HC.out.mono ?_
      rintro e w1 ⟨rfl, n, rfl⟩
      go_wp2_with fail
      refine (CA _).out.mono ?_
      rintro e w2 ⟨rfl, hb2⟩
      have HB2 := Lib.hid (HBD n w2 hb2)
      clear hb2
      go_wp2_with fail
      refine (CB _).out.mono ?_
      rintro e w3 ⟨rfl, hb3⟩
      have HB3 := Lib.hid (HB2.out.trans (hb3.mono HB2.out.size))
      clear hb3
      go_wp2_with fail
      go_ret3
      exact ⟨by rw [HY2.out]; rfl, HB3.out⟩
    | some y =>
      by_cases hxy : x ≤ y
      · have e : both (some x) (some y) = some (x, y) := by unfold both; simp [hxy]
        rw [e] at HY2
        clear e
        go_enter Tryd.func12, Tryd.ntmps12
        go_wp2_with fail
        refine HC.out.mono ?_
        rintro e w1 ⟨rfl, n, rfl⟩
        go_wp2_with fail
        refine (CA _).out.mono ?_
        rintro e w2 ⟨rfl, hb2⟩
        have HB2 := Lib.hid (HBD n w2 hb2)
        clear hb2
        go_wp2_with fail
        refine (CB _).out.mono ?_
        rintro e w3 ⟨rfl, hb3⟩
        have HB3 := Lib.hid (HB2.out.trans (hb3.mono HB2.out.size))
        clear hb3
        go_wp2_with fail
        go_ret3
        exact ⟨by rw [HY2.out]; rfl, HB3.out⟩
      · have e : both (some x) (some y) = none := by unfold both; simp [hxy]
        rw [e] at HY2
        clear e
        have hxy2 : y < x := by omega
        go_enter Tryd.func12, Tryd.ntmps12
        go_wp2_with fail
        refine HC.out.mono ?_
        rintro e w1 ⟨rfl, n, rfl⟩
        go_wp2_with fail
        refine (CA _).out.mono ?_
        rintro e w2 ⟨rfl, hb2⟩
        have HB2 := Lib.hid (HBD n w2 hb2)
        clear hb2
        go_wp2_with fail
        refine (CB _).out.mono ?_
        rintro e w3 ⟨rfl, hb3⟩
        have HB3 := Lib.hid (HB2.out.trans (hb3.mono HB2.out.size))
        clear hb3
        go_wp2_with fail
        go_ret3
        exact ⟨by rw [HY2.out]; rfl, HB3.out⟩
end Go.Proofs.YtppmjlfecbaicaaDoor
