/- Texts of rows, by the program. -/
import Derived.Test.YtppmjlfecbaicaaDoorRowTx
import Derived.Test.YtppmjlfecbaicaaDoorFFunc
import Derived.Test.YtppmjlfecbaicaaDoorShelf
namespace Go.Proofs.YtppmjlfecbaicaaDoor
open Go.RowKit
set_option linter.unusedVariables false
set_option linter.unusedSimpArgs false

theorem join_snoc (sep x : List UInt8) : ∀ xs : List (List UInt8), Lib.join (xs ++ [x]) sep = if xs = [] then x else Lib.join xs sep ++ sep ++ x := by
  intro xs
  cases xs with
  | nil => simp [Lib.join]
  | cons y r =>
    rw [if_neg (by simp), List.cons_append, Lib.join_cons, Lib.join_cons]
    unfold Lib.joinTail
    rw [List.map_append, List.flatten_append]
    simp [List.append_assoc]
theorem ba_append (a b : ByteArray) : (a ++ b).data.toList = a.data.toList ++ b.data.toList := by rw [ByteArray.data_append, Array.toList_append]
theorem rtx_join (l : List Int) : ∀ k, k ≤ l.length → (rtx l k).data.toList = Lib.join ((l.take k).map fun r => (textV r).data.toList) [32] := by
  intro k
  induction k with
  | zero => intro _; rfl
  | succ k ih =>
    intro hk
    rw [rtx_succ, List.take_add_one, List.getElem?_eq_getElem (by omega), show (some (l[k]'(by omega))).toList = [l[k]'(by omega)] from rfl, List.map_append, show ([l[k]'(by omega)].map fun r => (textV r).data.toList) = [(textV (l[k]'(by omega))).data.toList] from rfl, join_snoc]
    unfold rst
    rw [ba_append, List.getD_eq_getElem?_getD, List.getElem?_eq_getElem (by omega), Option.getD_some]
    by_cases h0 : 0 < k
    · rw [if_pos h0, if_neg (by
        intro e
        rw [List.map_eq_nil_iff, List.take_eq_nil_iff] at e
        rcases e with e | e
        · omega
        · rw [e] at hk; simp at hk), ba_append, ih (by omega)]
    · obtain rfl : k = 0 := by omega
      rw [if_neg h0, if_pos (by rfl)]
      rfl
theorem rowT_join (l : List Int) : (⟨(Lib.join ((l.map textV).map (·.data.toList)) [32]).toArray⟩ : ByteArray) = rowT l := by
  have h := rtx_join l l.length (Nat.le_refl _)
  rw [List.take_of_length_le (Nat.le_refl _)] at h
  rw [List.map_map, show ((fun x : ByteArray => x.data.toList) ∘ textV) = fun r => (textV r).data.toList from rfl, ← h]
  unfold rowT
  cases rtx l l.length
  rfl

set_option maxHeartbeats 4000000 in
set_option maxRecDepth 100000 in
theorem rowText_any (A : Option Addr) (c : Nat) (l : List Int) (w : World) (hr : RdK kR w w.heap.size A l) (hl : l.length ≤ 1000000) (hin : ∀ x ∈ l, -2147483648 ≤ x ∧ x ≤ 2147483647) :
    Calls Tryd.prog 19 #[.slice A l.length c] w fun e w' => e = .returned (.string (rowT l)) ∧ Below w.heap.size w w' := by
  obtain ⟨i9, z9, hi9, hz90, hz91, hz92, hz93⟩ := info9
  have hz9' : z9 = .string ⟨#[]⟩ := by
    have h : (Tryd.prog.info? 9).map (fun i => (i.zero, i.size, i.bytes)) = some (some (.string ⟨#[]⟩), 1, 16) := by kernel_rfl
    rw [hi9] at h
    simp at h
    rw [hz90] at h
    simpa using h.1
  subst hz9'
  obtain ⟨n, hn⟩ : ∃ n, l.length = n := ⟨_, rfl⟩
  obtain ⟨W5, hmk5, hown5, hgr5⟩ := run_make_full (P := Tryd.prog) w w.heap.size 40 9 i9 _ 1 Tryd.underlying40 hi9 hz90 hz91 .i64 .i64 n (by rw [hz92]; omega) (by unfold maxLen; omega) (Nat.le_refl _)
  have HR6 := Lib.hid (made_row _ _ _ _ hown5)
  have HB6 := Lib.hid (grown_none (B := w.heap.size) hgr5 (Nat.le_refl _))
  have HN := Lib.hid hn
  rw [hn] at hl
  rw [hn]
  have HRD := Lib.hid hr
  have HIN := Lib.hid hin
  clear hown5 hgr5 hn hr hin
  go_enter Tryd.func19, Tryd.ntmps19
  go_wp2_with fail
  go_loopw [11] (fun i wx => ∃ (k : Nat) (m : List ByteArray), i = .int .i64 k ∧ k ≤ n ∧ m.length = n ∧ Hid (m.take k = (l.map textV).take k) ∧ Hid (RowK kS wx w.heap.size (.slice (some ⟨w.heap.size, 0, none⟩) n n) m) ∧ Hid (Below w.heap.size w wx)) (fun i _ => n - (intOf i).toNat)
  case atStart => exact ⟨0, _, rfl, Nat.zero_le _, List.length_replicate, Lib.hid rfl, HR6, HB6⟩
  case round =>
    obtain ⟨k, m, rfl, hk, hmn, HT, HM, HB⟩ := hrel
    by_cases hlt : k < n
    · have hkl : k < l.length := by rw [HN.out]; exact hlt
      obtain ⟨b, off, rfl, hb, x0⟩ := rune_cell HRD.out HB.out hkl
      obtain ⟨i0, i1⟩ := HIN.out (l.getD k default) (by rw [List.getD_eq_getElem?_getD, List.getElem?_eq_getElem hkl]; exact List.getElem_mem _)
      have HX : Hid ((l.map textV)[k]? = some (textV (l.getD k default))) := Lib.hid (by rw [List.getElem?_map, List.getElem?_eq_getElem hkl, List.getD_eq_getElem?_getD, List.getElem?_eq_getElem hkl]; rfl)
      have HC := fun W => Lib.hid (codeText_any (l.getD k default) W i0 i1)
      generalize l.getD k default = x at *
      obtain ⟨old, hold⟩ : ∃ old, (flatK kS m)[k]? = some old := ⟨_, List.getElem?_eq_getElem (by rw [flat_length]; show k < m.length * 1; omega)⟩
      have hA2 : wr.ownsRow w.heap.size 9 1 (.slice (some ⟨w.heap.size, 0, none⟩) n n) n (flatK kS m) := by have h := HM.out; unfold RowK at h; rw [hmn] at h; exact h
      have hcA := (hA2.cellAt k (by omega)).trans hold
      have hfA := hA2.frozenAt k
      have HS := Lib.hid (rowS_set HM.out hmn k (textV x))
      have HT2 := Lib.hid (take_set HT.out (by omega) HX.out)
      have HB2 := Lib.hid (HB.out.grown HS.out.2 HB.out.size (fun k hk => by cases hk; exact Nat.le_refl _))
      clear hA2 hold
      go_wp2_with (go_at_call 17; refine (HC _).out.mono ?_; rintro e w2 ⟨rfl, rfl⟩)
      go_roundw
      case rel => exact ⟨k + 1, m.set k (textV x), by go_num, by omega, by rw [List.length_set]; exact hmn, HT2, Lib.hid HS.out.1, HB2⟩
      case measure => simp [intOf]; omega
    · have hk2 : k = n := by omega
      have HE : Hid (m = l.map textV) := Lib.hid (by
        have h := HT.out
        rwa [List.take_of_length_le (by omega), List.take_of_length_le (by rw [List.length_map, HN.out]; omega)] at h)
      have HJ : Hid (Calls Tryd.prog 30 #[.slice (some ⟨w.heap.size, 0, none⟩) n n, .string ⟨#[32]⟩] wr fun e w' => e = .returned (.string (rowT l)) ∧ Below wr.heap.size wr w') := Lib.hid (by
        have hA2 : wr.ownsRow w.heap.size 9 1 (.slice (some ⟨w.heap.size, 0, none⟩) n n) n (flatK kS m) := by have h := HM.out; unfold RowK at h; rw [hmn] at h; exact h
        rw [HE.out] at hA2 hmn
        have hj := Tryd.strings_Join w.heap.size 0 n (l.map textV) ⟨#[32]⟩ wr (fun j x hj => by
            have hjn : j < n := by rw [← hmn]; exact (List.getElem?_eq_some_iff.1 hj).1
            rw [Nat.zero_add, hA2.cellAt j (by omega), flat_kS, List.getElem?_map, hj]
            rfl) (by
            rcases hA2.2 with ⟨h, _⟩ | ⟨g, cap, cur, h, _, hh, _⟩
            · cases h
            · injection h with h1
              injection h1 with h1
              injection h1 with h1
              subst h1
              exact (Array.getElem?_eq_some_iff.1 hh).1) (by rw [hmn]; omega) (by rw [hmn]; exact Nat.le_refl _) (by
            have h := rowT_join l
            have hz : (⟨(Lib.join ((l.map textV).map (·.data.toList)) [32]).toArray⟩ : ByteArray).size = (rowT l).size := by rw [h]
            have h2 : (⟨(Lib.join ((l.map textV).map (·.data.toList)) [32]).toArray⟩ : ByteArray).size = (Lib.join ((l.map textV).map (·.data.toList)) [32]).length := List.size_toArray
            have h3 := rtx_size l l.length
            unfold rowT at hz
            show (Lib.join ((l.map textV).map (·.data.toList)) [32]).length ≤ _
            rw [← h2, hz]
            have := HN.out
            omega)
        rw [hmn] at hj
        have e := rowT_join l
        rw [show ((⟨#[32]⟩ : ByteArray).data.toList) = [32] from rfl, e] at hj
        exact hj)
      clear HT HE HM
      go_wp2_with (go_at_call 30; refine HJ.out.mono ?_; rintro e w2 ⟨rfl, hb2⟩)
      go_ret
      exact ⟨rfl, HB.out.trans (hb2.mono HB.out.size)⟩
end Go.Proofs.YtppmjlfecbaicaaDoor
