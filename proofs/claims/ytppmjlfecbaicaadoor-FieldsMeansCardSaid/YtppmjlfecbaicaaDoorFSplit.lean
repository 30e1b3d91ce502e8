/- The program's split of a line; strings.Cut at one byte. -/
import Derived.Test.YtppmjlfecbaicaaDoorLns
import Derived.Test.YtppmjlfecbaicaaDoorFFunc
import Derived.Test.YtppmjlfecbaicaaDoorRowP
import Derived.Outline
namespace Go.Proofs.YtppmjlfecbaicaaDoor
open Go.RowKit
set_option linter.unusedVariables false
set_option linter.unusedSimpArgs false

theorem cut_any (l : List UInt8) (c : UInt8) (m : Int) (w : World) (hs : l.length < 4294967281) (hm : w.cell? ⟨0, 0, none⟩ = some (.int .i64 m)) :
    Calls Tryd.prog 25 #[.string (mk l), .string ⟨#[c]⟩] w fun e w' => e = .returned (.tuple #[.string (mk (Lib.cut l [c]).1), .string (mk (Lib.cut l [c]).2.1), .bool (Lib.cut l [c]).2.2]) ∧ ∃ n, w' = w.drewN n := by
  have h := Tryd.strings_Cut (mk l) ⟨#[c]⟩ m w (by rw [mk_size]; exact hs) hm
  rw [mk_data] at h
  exact h
theorem trimL_any (l : List UInt8) (w : World) (hs : l.length ≤ 9223372036854775807) : Calls Tryd.prog 26 #[.string (mk l), .string { data := #[9, 13, 32] }] w fun e w' => e = .returned (.string (mk (tl l))) ∧ Below w.heap.size w w' := by
  have h := trim_any (mk l) w (by rw [mk_size]; exact hs)
  rwa [trim_mk, mk_data] at h
/-- The fields that are told of a line. -/
def fieldsV (l : List UInt8) : List ByteArray := (fieldsL 59 l).map mk

set_option maxHeartbeats 4000000 in
set_option maxRecDepth 100000 in
theorem fsplit_any (l : List UInt8) (m : Int) (w : World) (hs : l.length ≤ 1000000) (hm : w.cell? ⟨0, 0, none⟩ = some (.int .i64 m)) :
    Calls Tryd.prog 33 #[.string (mk l)] w fun e w' => ∃ G, e = .returned (.slice (some ⟨G, 0, none⟩) (fieldsV l).length (fieldsV l).length) ∧ RowK kS w' w.heap.size (.slice (some ⟨G, 0, none⟩) (fieldsV l).length (fieldsV l).length) (fieldsV l) ∧ Below w.heap.size w w' := by
  have hS := Tryd.strings_Split (mk l) ⟨#[59]⟩ m w (by rw [mk_size]; omega) hm (Nat.le_refl _)
  have hcl := congrArg List.length (splitB_parts 59 (mk l))
  rw [splitB_parts, mk_data] at hS
  rw [mk_data, List.length_map] at hcl
  have hall := Lib.splitB_all ⟨#[59]⟩ (Nat.le_refl _) 0 _ (mk l) rfl
  rw [hcl] at hall
  rw [← hall] at hS
  have hpl := parts_len_le 59 l
  have hpm := parts_mem_le 59 l
  obtain ⟨P, hP⟩ : ∃ P, partsL 59 l = P := ⟨_, rfl⟩
  have hfv : Hid (fieldsV l = P.map fun x => mk (tl x)) := Lib.hid (by unfold fieldsV fieldsL; rw [hP, List.map_map]; rfl)
  have hfl : (fieldsV l).length = P.length := by rw [hfv.out, List.length_map]
  rw [hP] at hS hpl hpm
  rw [hfl]
  obtain ⟨n, hn⟩ : ∃ n, P.length = n := ⟨_, rfl⟩
  rw [hn] at hS hpl ⊢
  have HN := Lib.hid hn
  have HPM := Lib.hid hpm
  have hr0 : RowK kS (w.alloc (.cells ((P.map mk).map Value.string).toArray 9)) w.heap.size (.slice (some ⟨w.heap.size, 0, none⟩) n n) (P.map mk) := by
    refine ⟨flat_length _ _, .inr ⟨w.heap.size, n, ((P.map mk).map Value.string).toArray, by rw [List.length_map, hn], Nat.le_refl _, World.alloc_heap_new _ _, by rw [List.length_map, hn]; exact Nat.le_refl _, by unfold maxLen; omega, ?_, ?_⟩⟩
    · show _ = n * 1; rw [List.size_toArray, List.length_map, List.length_map, hn, Nat.mul_one]
    · rw [List.toList_toArray, flat_kS, List.take_of_length_le (by rw [List.length_map]; show _ ≤ _ * 1; omega)]
  rw [List.map_map] at hr0
  have HR0 := Lib.hid hr0
  have HS := Lib.hid hS
  clear hS hr0 hP hfl hall hcl hpm hn
  go_enter Tryd.func33, Tryd.ntmps33
  go_wp2_with (go_at_call 47; refine HS.out.mono ?_; rintro e w' ⟨rfl, rfl⟩)
  go_loopw [10] (fun i wx => ∃ (k : Nat) (R : List ByteArray), i = .int .i64 k ∧ k ≤ n ∧ R.length = n ∧ Hid (R.take k = (fieldsV l).take k) ∧ Hid (R.drop k = (P.map mk).drop k) ∧ Hid (RowK kS wx w.heap.size (.slice (some ⟨w.heap.size, 0, none⟩) n n) R) ∧ Hid (Below w.heap.size w wx)) (fun i _ => n - (intOf i).toNat)
  case atStart => exact ⟨0, P.map mk, rfl, Nat.zero_le _, by rw [List.length_map, HN.out], Lib.hid rfl, Lib.hid rfl, HR0, Lib.hid ((Below.refl _ _).alloc (Nat.le_refl _) _)⟩
  case round =>
    obtain ⟨k, R, rfl, hk, hRn, HT, HD, HR, HB⟩ := hrel
    by_cases hlt : k < n
    · have hkP : k < P.length := by rw [HN.out]; exact hlt
      have hRk : R[k]? = some (mk (P[k]'hkP)) := by
        have h := congrArg (fun z => z[0]?) HD.out
        simp only [List.getElem?_drop, Nat.add_zero, List.getElem?_map, List.getElem?_eq_getElem hkP] at h
        exact h
      have hxs : (P[k]'hkP).length ≤ 9223372036854775807 := by have := HPM.out _ (List.getElem_mem hkP); omega
      have HX : Hid ((fieldsV l)[k]? = some (mk (tl (P[k]'hkP)))) := Lib.hid (by rw [hfv.out, List.getElem?_map, List.getElem?_eq_getElem hkP]; rfl)
      have HC : Hid (∀ W, Calls Tryd.prog 26 #[.string (mk (P[k]'hkP)), .string { data := #[9, 13, 32] }] W fun e w' => e = .returned (.string (mk (tl (P[k]'hkP)))) ∧ Below W.heap.size W w') := Lib.hid fun W => trimL_any _ W hxs
      generalize P[k]'hkP = x at *
      have hA2 : wr.ownsRow w.heap.size 9 1 (.slice (some ⟨w.heap.size, 0, none⟩) n n) n (flatK kS R) := by have h := HR.out; unfold RowK at h; rw [hRn] at h; exact h
      have hcA : wr.cell? ⟨w.heap.size, k, none⟩ = some (.string (mk x)) := (hA2.cellAt k (by omega)).trans (by rw [flat_kS, List.getElem?_map, hRk]; rfl)
      have hle := HB.out.size
      clear hA2
      go_wp2_with (go_at_call 26; refine (HC.out _).mono ?_; rintro e w2 ⟨rfl, hb2⟩; have HR2 := Lib.hid (HR.out.on hb2); have HB2 := Lib.hid (HB.out.trans (hb2.mono hle)); have hA3 : w2.ownsRow w.heap.size 9 1 (.slice (some ⟨w.heap.size, 0, none⟩) n n) n (flatK kS R) := (by have h := HR2.out; unfold RowK at h; rw [hRn] at h; exact h); have hcB : w2.cell? ⟨w.heap.size, k, none⟩ = some (.string (mk x)) := (hA3.cellAt k (by omega)).trans (by rw [flat_kS, List.getElem?_map, hRk]; rfl); have hfB := hA3.frozenAt k; clear hA3 hb2)
      have HS2 := Lib.hid (rowS_set HR2.out hRn k (mk (tl x)))
      go_roundw
      case rel => exact ⟨k + 1, R.set k (mk (tl x)), by go_num, by omega, by rw [List.length_set]; exact hRn, Lib.hid (take_set HT.out (by omega) HX.out), Lib.hid (by rw [List.drop_set_of_lt (by omega), ← List.drop_drop, ← List.drop_drop, HD.out]), Lib.hid HS2.out.1, Lib.hid (HB2.out.grown HS2.out.2 HB2.out.size (fun k hk => by cases hk; exact Nat.le_refl _))⟩
      case measure => simp [intOf]; omega
    · have hk2 : k = n := by omega
      have HE : Hid (R = fieldsV l) := Lib.hid (by
        have h := HT.out
        rwa [List.take_of_length_le (by omega), List.take_of_length_le (by rw [hfv.out, List.length_map, HN.out]; omega)] at h)
      clear HT HD
      go_wp2
      go_ret
      exact ⟨_, rfl, by rw [← HE.out]; exact HR.out, HB.out⟩
end Go.Proofs.YtppmjlfecbaicaaDoor
