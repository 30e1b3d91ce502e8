/- Rows of code points, by the program. -/
import Derived.Test.YtppmjlfecbaicaaDoorRowR
import Derived.Test.YtppmjlfecbaicaaDoorFFunc
import Derived.Test.YtppmjlfecbaicaaDoorIRune
import Derived.Test.YtppmjlfecbaicaaDoorTrim2
namespace Go.Proofs.YtppmjlfecbaicaaDoor
open Go.RowKit
set_option linter.unusedVariables false
set_option linter.unusedSimpArgs false

theorem drop_len (l : List UInt8) : (l.dropWhile bB).length ≤ l.length := (List.dropWhile_sublist bB).length_le
theorem dr_len (l : List UInt8) : (dr l).length ≤ l.length := by
  unfold dr
  rw [List.length_reverse]
  have := drop_len l.reverse
  rwa [List.length_reverse] at this
theorem trim_size (s : ByteArray) : (trimV s).size ≤ s.size := by
  show (dr (dl s.data.toList)).toArray.size ≤ _
  rw [List.size_toArray, ← size_list s]
  exact Nat.le_trans (dr_len _) (drop_len _)
theorem bl_0 {s : ByteArray} (h : 0 < s.size) : (bl s).getD 0 0 = ((s[0]'h).toNat : Int) := bl_get s 0 h
theorem trim_same {s : ByteArray} (h : 0 < s.size) (he : edgeB s = false) : trimV s = s := by
  unfold edgeB at he
  rw [bl_get s 0 h, bl_get s (s.size - 1) (by omega), Bool.or_eq_false_iff] at he
  have e1 := dl_end h he.1
  have e2 : dr s.data.toList = s.data.toList := by
    conv => lhs; rw [last_split h, dr_snoc, if_neg (by show ¬ isB _ = true; rw [he.2]; decide), ← last_split h]
  unfold trimV
  rw [e1, e2]
theorem trim_diff {s : ByteArray} (h : 0 < s.size) (he : edgeB s = true) : trimV s ≠ s := by
  intro e
  have hs : (trimV s).size = s.size := by rw [e]
  have hl := size_list s
  have hs2 : (dr (dl s.data.toList)).length = s.size := by rw [← hs]; show _ = (dr (dl s.data.toList)).toArray.size; rw [List.size_toArray]
  unfold edgeB at he
  rw [bl_get s 0 h, bl_get s (s.size - 1) (by omega), Bool.or_eq_true] at he
  have d1 := dr_len (dl s.data.toList)
  have d2 : (dl s.data.toList).length ≤ s.data.toList.length := drop_len _
  cases hb : isB ((s[0]'h).toNat : Int) with
  | true =>
    have h1 := dl_step h hb
    have h2 : (dl (s.extract 1 s.size).data.toList).length ≤ (s.extract 1 s.size).data.toList.length := drop_len _
    rw [h1, size_list, ByteArray.size_extract] at h2
    omega
  | false =>
    rw [hb] at he
    have he2 : isB ((s[s.size - 1]'(by omega)).toNat : Int) = true := by simpa using he
    rw [dl_end h hb] at hs2 d1 d2
    rw [last_split h, dr_snoc, if_pos (show bB _ = true from he2)] at hs2
    have := dr_len (s.extract 0 (s.size - 1)).data.toList
    rw [size_list, ByteArray.size_extract] at this
    omega
theorem RowK.low {α : Type} {K : Kind α} {w : World} {base base' : Nat} {v : Value} {l : List α} (h : RowK K w base v l) (hb : base' ≤ base) : RowK K w base' v l := by
  refine ⟨h.1, ?_⟩
  rcases h.2 with h0 | ⟨g, cap, cur, hv, hg, rest⟩
  · exact .inl h0
  · exact .inr ⟨g, cap, cur, hv, Nat.le_trans hb hg, rest⟩
theorem codes_far {l : List ByteArray} {i : Nat} (h : codesV (l.take i) = none) : codesV l = none := by
  rw [← List.take_append_drop i l]
  exact codes_cut h
theorem str_cell {w w' : World} {n k : Nat} {A : Option Addr} {l : List ByteArray} (h : RdK kS w n A l) (hb : Below n w w') (hk : k < l.length) : ∃ b off, A = some ⟨b, off, none⟩ ∧ b < n ∧ w'.cell? ⟨b, off + k, none⟩ = some (.string (l.getD k default)) := by
  obtain ⟨b, off, e, hlt, hc⟩ := h (by omega)
  refine ⟨b, off, e, hlt, ?_⟩
  have h2 := hc k hk 0 _ rfl
  rw [show off + k * kS.size + 0 = off + k from by show off + k * 1 + 0 = _; omega] at h2
  exact (hb.cell (p := ⟨b, off + k, none⟩) hlt).trans h2

set_option maxHeartbeats 8000000 in
set_option maxRecDepth 100000 in
theorem row_in (s : ByteArray) (w : World) (hs : s.size ≤ 1000000) (h0 : ¬ s.size = 0) (he : edgeB s = false) : Calls Tryd.prog 14 #[.string s] w fun e w' => ∃ v, e = .returned (.tuple #[v, .bool (rowV s).isSome]) ∧ RowK kR w' w.heap.size v ((rowV s).getD []) ∧ Below w.heap.size w w' := by
  have hne := ne_nil h0
  have hne2 : s.toList.isEmpty = false := by simpa using hne
  have hrv : Hid (rowV s = codesV (exts s (spans s))) := Lib.hid (by unfold rowV; rw [if_neg (by rw [he]; exact fun h => h.elim h0 (by decide))])
  have HT : Hid (∀ W, Calls Tryd.prog 26 #[.string s, .string { data := #[9, 13, 32] }] W fun e w' => e = .returned (.string s) ∧ Below W.heap.size W w') := Lib.hid fun W => by
    have h := trim_any s W (by omega)
    rwa [trim_same (by omega) he] at h
  have HF : Hid (∀ W, Calls Tryd.prog 27 #[.string s, .func (.func 28) #[] #[]] W fun e w' => ∃ v, e = .returned v ∧ RowK kS w' W.heap.size v (exts s (spans s)) ∧ Below W.heap.size W w') := Lib.hid fun W => fieldsFunc_any s W hs fun W x hx => blank_any x W (by omega)
  have hSL : Hid ((exts s (spans s)).length ≤ s.size + 1 ∧ ∀ x ∈ exts s (spans s), x.size ≤ s.size) := Lib.hid ⟨by unfold exts; rw [List.length_map]; exact (pcs_le s (s.size + 1)).2.1, fun x hx => by
    unfold exts at hx
    obtain ⟨y, _, rfl⟩ := List.mem_map.1 hx
    rw [ByteArray.size_extract]
    omega⟩
  obtain ⟨L, hL⟩ : ∃ L, exts s (spans s) = L := ⟨_, rfl⟩
  rw [hL] at hrv HF hSL
  clear hL he h0
  go_enter Tryd.func14, Tryd.ntmps14
  go_wp2_with (first
    | (go_at_call 26; (with_reducible refine (HT.out _).mono ?_); rintro e w1 ⟨rfl, hb1⟩; have HB1 := Lib.hid hb1; clear hb1)
    | (go_at_call 27; (with_reducible refine (HF.out _).mono ?_); rintro e w2 ⟨v2, rfl, hr2, hb2⟩; obtain ⟨A, c2, n, HN, rfl, hA0, hd⟩ := hr2.rdn; have HD := Lib.hid hd; have HB2 := Lib.hid (HB1.out.trans (hb2.mono HB1.out.size)); clear hr2 hb2 hd))
  have hnl : n ≤ s.size + 1 := by have := hSL.out.1; have := HN.out; omega
  have hle2 := HB2.out.size
  clear HT HF HB1
  go_loopw [4, 20] (fun v i wr => ∃ (k : Nat) (l : List Int), i = .int .i64 k ∧ k ≤ n ∧ l.length ≤ k ∧ Hid (codesV (L.take k) = some l) ∧ Hid (RowK kR wr w2.heap.size v l) ∧ Hid (Below w2.heap.size w2 wr)) (fun _ i _ => n - (intOf i).toNat)
  case atStart => exact ⟨0, [], rfl, Nat.zero_le _, Nat.le_refl _, Lib.hid rfl, Lib.hid (nil_row _ _ _), Lib.hid (Below.refl _ _)⟩
  case round =>
    obtain ⟨k, l, rfl, hk, hl, HC, HR, HW⟩ := hrel
    by_cases hlt : k < n
    · have hkL : k < L.length := by rw [← HN.out]; exact hlt
      obtain ⟨b, off, rfl, hb, x0⟩ := str_cell HD.out HW.out hkL
      have hxm : (L.getD k default).size ≤ 1000000 := by
        have := hSL.out.2 _ (show L.getD k default ∈ L by rw [List.getD_eq_getElem?_getD, List.getElem?_eq_getElem hkL]; exact List.getElem_mem _)
        omega
      have HX : Hid (codesV (L.take (k + 1)) = addC (some l) (L.getD k default)) := Lib.hid (by
        rw [List.take_add_one, List.getElem?_eq_getElem hkL, show (some L[k]).toList = [L[k]] from rfl, codes_snoc, HC.out, List.getD_eq_getElem?_getD, List.getElem?_eq_getElem hkL]
        rfl)
      generalize L.getD k default = x at *
      have hle := HW.out.size
      have HQ : Hid (∀ W, Calls Tryd.prog 10 #[.string x] W fun e w2 => e = .returned (tup (codeV (bl x))) ∧ Below W.heap.size W w2) := Lib.hid fun W => code_any x W (by omega)
      unfold addC at HX
      cases hcv : codeV (bl x) with
      | none =>
        have HV : Hid (rowV s = none) := Lib.hid (by rw [hrv.out]; exact codes_far (i := k + 1) (by rw [HX.out, hcv]; rfl))
        replace HQ : Hid (∀ W, Calls Tryd.prog 10 #[.string x] W fun e w2 => e = .returned (.tuple #[.int .i32 0, .bool false]) ∧ Below W.heap.size W w2) := Lib.hid fun W => by have h := HQ.out W; rw [hcv] at h; exact h
        clear hcv HX hrv HC
        go_wp2_with (go_at_call 10; (with_reducible refine (HQ.out _).mono ?_); rintro e w3 ⟨rfl, hb3⟩; have HB3 := Lib.hid hb3; clear hb3)
        go_ret2
        exact ⟨_, by rw [HV.out]; rfl, by rw [HV.out]; exact nil_row _ _ _, HB2.out.trans ((HW.out.trans (HB3.out.mono hle)).mono hle2)⟩
      | some r =>
        replace HQ : Hid (∀ W, Calls Tryd.prog 10 #[.string x] W fun e w2 => e = .returned (.tuple #[.int .i32 r, .bool true]) ∧ Below W.heap.size W w2) := Lib.hid fun W => by have h := HQ.out W; rw [hcv] at h; exact h
        have HC2 : Hid (codesV (L.take (k + 1)) = some (l ++ [r])) := Lib.hid (by rw [HX.out, hcv]; rfl)
        have hln : l.length + [r].length ≤ 1000000000 := by simp; omega
        clear hcv HX HC
        go_wp2_with (first
          | (go_at_call 10; (with_reducible refine (HQ.out _).mono ?_); rintro e w3 ⟨rfl, hb3⟩; have HB3 := Lib.hid (HW.out.trans (hb3.mono hle)); have HR3 := Lib.hid (HR.out.on hb3); have hle3 := HB3.out.size; clear hb3)
          | (at_builtin; refine wpList_app kR rfl _ _ rfl [r] rfl (HR3.out.alloc _) rfl (rd_block (K := kR) (l := [r]) (Blk.new _ _ _) rfl) (fun e => by cases e) hln (le_alloc hle3) ?_; intro v' w' hrow' hg'; have HB4 := Lib.hid ((HB3.out.alloc hle3 (.cells #[.int .i32 r] 21)).trans (row_below (HR3.out.alloc (.cells #[.int .i32 r] 21)) hg' (le_alloc hle3))); have HR4 := Lib.hid hrow'; clear hrow' hg'))
        go_roundw
        case rel => exact ⟨k + 1, l ++ [r], by go_num, by omega, by simp; omega, HC2, HR4, HB4⟩
        case measure => simp [intOf]; omega
    · have hk2 : k = n := by omega
      have HV : Hid (rowV s = some l) := Lib.hid (by
        have h := HC.out
        rw [List.take_of_length_le (by rw [← HN.out]; omega)] at h
        rw [hrv.out, h])
      clear hrv HC
      go_wp2
      go_ret2
      exact ⟨_, by rw [HV.out]; rfl, by rw [HV.out]; exact HR.out.low hle2, HB2.out.trans (HW.out.mono hle2)⟩
set_option maxHeartbeats 4000000 in
theorem row_any (s : ByteArray) (w : World) (hs : s.size ≤ 1000000) : Calls Tryd.prog 14 #[.string s] w fun e w' => ∃ v, e = .returned (.tuple #[v, .bool (rowV s).isSome]) ∧ RowK kR w' w.heap.size v ((rowV s).getD []) ∧ Below w.heap.size w w' := by
  by_cases h0 : s.size = 0
  · have e : s = ⟨#[]⟩ := by
      have : s.data = #[] := Array.eq_empty_of_size_eq_zero h0
      cases s
      simp_all
    subst e
    go_enter Tryd.func14, Tryd.ntmps14
    go_wp2_with fail
    go_ret2
    exact ⟨_, rfl, nil_row _ _ _, Below.refl _ _⟩
  · cases he : edgeB s with
    | true =>
      have hv : rowV s = none := by unfold rowV; rw [if_pos (.inr he)]
      rw [hv]
      have hne := ne_nil h0
      have hne2 : s.toList.isEmpty = false := by simpa using hne
      have hd := trim_diff (by omega) he
      have HT : Hid (∀ W, Calls Tryd.prog 26 #[.string s, .string { data := #[9, 13, 32] }] W fun e w' => e = .returned (.string (trimV s)) ∧ Below W.heap.size W w') := Lib.hid fun W => trim_any s W (by omega)
      have hd2 : (trimV s).toList ≠ s.toList := fun e => hd (by rw [ByteArray.toList_eq, ByteArray.toList_eq] at e; cases h : trimV s; cases s; rw [h] at e; simp at e; rw [e])
      have hd3 : (!(trimV s).toList == s.toList) = true := by simpa using hd2
      clear hd hd2
      generalize trimV s = t at *
      clear he hv h0
      go_enter Tryd.func14, Tryd.ntmps14
      go_wp2_with (go_at_call 26; (with_reducible refine (HT.out _).mono ?_); rintro e w1 ⟨rfl, hb1⟩; have HB1 := Lib.hid hb1; clear hb1)
      go_ret2
      exact ⟨_, rfl, nil_row _ _ _, HB1.out⟩
    | false => exact row_in s w hs h0 he
end Go.Proofs.YtppmjlfecbaicaaDoor
