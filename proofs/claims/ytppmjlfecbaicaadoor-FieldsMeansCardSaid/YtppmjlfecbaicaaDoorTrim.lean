/- Texts without the blanks at their ends, by the document. -/
import Derived.Test.YtppmjlfecbaicaaDoorTxt
import Derived.Lib.CutLaws
namespace Go.Proofs.YtppmjlfecbaicaaDoor
open Go.RowKit
set_option linter.unusedVariables false
set_option linter.unusedSimpArgs false

def isB (c : Int) : Bool := c == 9 || c == 13 || c == 32
def bB (b : UInt8) : Bool := isB (b.toNat : Int)
def dl (l : List UInt8) : List UInt8 := l.dropWhile bB
def dr (l : List UInt8) : List UInt8 := (l.reverse.dropWhile bB).reverse
/-- A text without the blanks at its ends. -/
def trimV (s : ByteArray) : ByteArray := ⟨(dr (dl s.data.toList)).toArray⟩
theorem refBlank_any (c : Int) (w : World) : Calls Tryd.prog 29 #[.int .u8 c] w fun e w' => e = .returned (.bool (isB c)) ∧ w = w' := by
  go_enter Tryd.func29, Tryd.ntmps29
  go_wp2
  all_goals go_ret
  all_goals exact ⟨by simp_all [isB], rfl⟩
theorem size_list (s : ByteArray) : s.data.toList.length = s.size := by rw [Array.length_toList]; rfl
theorem ext_list (s : ByteArray) (a b : Nat) : (s.extract a b).data.toList = (s.data.toList.take b).drop a := by
  rw [ByteArray.data_extract, Array.toList_extract]
  simp [List.extract_eq_take_drop, List.drop_take]
theorem dl_step {s : ByteArray} (h : 0 < s.size) (hb : isB ((s[0]'h).toNat : Int) = true) : dl (s.extract 1 s.size).data.toList = dl s.data.toList := by
  have hl := size_list s
  rw [ext_list, List.take_of_length_le (by omega)]
  conv => rhs; rw [show s.data.toList = s.data.toList.drop 0 from rfl, List.drop_eq_getElem_cons (by omega)]
  unfold dl
  rw [List.dropWhile_cons_of_pos (by exact hb)]
theorem dl_end {s : ByteArray} (h : 0 < s.size) (hb : isB ((s[0]'h).toNat : Int) = false) : dl s.data.toList = s.data.toList := by
  have hl := size_list s
  have e : s.data.toList = s.data.toList[0]'(by omega) :: s.data.toList.drop 1 := by
    conv => lhs; rw [show s.data.toList = s.data.toList.drop 0 from rfl, List.drop_eq_getElem_cons (by omega)]
  rw [e]
  unfold dl
  rw [List.dropWhile_cons_of_neg (by show ¬ bB _ = true; have : bB (s[0]'h) = false := hb; exact fun h2 => by rw [show s.data.toList[0]'(by omega) = s[0]'h from rfl, this] at h2; cases h2)]
theorem dr_snoc {l : List UInt8} {b : UInt8} : dr (l ++ [b]) = if bB b = true then dr l else l ++ [b] := by
  unfold dr
  rw [List.reverse_append]
  simp only [List.reverse_cons, List.reverse_nil, List.nil_append, List.singleton_append, List.dropWhile_cons]
  split
  · rfl
  · simp
theorem last_split {s : ByteArray} (h : 0 < s.size) : s.data.toList = (s.extract 0 (s.size - 1)).data.toList ++ [s[s.size - 1]'(by omega)] := by
  have hl := size_list s
  rw [ext_list, List.drop_zero]
  have e : s.data.toList = s.data.toList.take (s.size - 1 + 1) := by rw [List.take_of_length_le (by omega)]
  conv => lhs; rw [e]
  rw [List.take_add_one, List.getElem?_eq_getElem (by omega)]
  rfl

set_option maxHeartbeats 4000000 in
theorem refTrim_any (s : ByteArray) (w : World) (hs : s.size ≤ 9223372036854775807) : Calls Tryd.prog 22 #[.string s] w fun e w' => e = .returned (.string (trimV s)) ∧ w = w' := by
  have G : ∀ (c : Int) (v : Bool), isB c = v → ∀ W, Calls Tryd.prog 29 #[.int .u8 c] W fun e w' => e = .returned (.bool v) ∧ W = w' := fun c v h W => by have := refBlank_any c W; rwa [h] at this
  go_enter Tryd.func22, Tryd.ntmps22
  go_wp2
  go_loopw [0] (fun i wr => ∃ t : ByteArray, i = .string t ∧ t.size ≤ s.size ∧ wr = w ∧ Hid (dl t.data.toList = dl s.data.toList)) (fun i _ => lenOf i)
  case atStart => exact ⟨s, rfl, Nat.le_refl _, rfl, Lib.hid rfl⟩
  case round =>
    obtain ⟨t, rfl, ht, rfl, HT⟩ := hrel
    by_cases h0 : 0 < t.size
    · cases hb : isB ((t[0]'h0).toNat : Int) with
      | true =>
        have HS := Lib.hid ((dl_step h0 hb).trans HT.out)
        have G1 := Lib.hid (G _ _ hb)
        have hz : (t.extract 1 t.size).size = t.size - 1 := by rw [ByteArray.size_extract]; omega
        have HZ := Lib.hid hz
        clear hb HT hz
        go_wp2_with (go_at_call 29; refine (G1.out _).mono ?_; rintro e w' ⟨rfl, rfl⟩)
        go_roundw
        case rel => exact ⟨_, rfl, by rw [HZ.out]; omega, by trivial, HS⟩
        case measure => show (t.extract 1 t.size).size < t.size; rw [HZ.out]; omega
      | false =>
        have HE := Lib.hid ((dl_end h0 hb).symm.trans HT.out)
        have G1 := Lib.hid (G _ _ hb)
        clear hb HT
        go_wp2_with (go_at_call 29; refine (G1.out _).mono ?_; rintro e w' ⟨rfl, rfl⟩)
        go_loopw [0] (fun i wx => ∃ u : ByteArray, i = .string u ∧ u.size ≤ s.size ∧ wx = wr ∧ Hid (dr u.data.toList = dr (dl s.data.toList))) (fun i _ => lenOf i)
        case atStart => exact ⟨t, rfl, ht, rfl, Lib.hid (by rw [HE.out])⟩
        case round =>
          obtain ⟨u, rfl, hu, rfl, HU⟩ := hrel
          clear HE
          by_cases h1 : 0 < u.size
          · have hsp := last_split h1
            have hlast : u.size - 1 < u.size := by omega
            cases hb2 : isB ((u[u.size - 1]'hlast).toNat : Int) with
            | true =>
              have HS2 : Hid (dr (u.extract 0 (u.size - 1)).data.toList = dr (dl s.data.toList)) := Lib.hid (by
                have h := HU.out
                rw [hsp, dr_snoc, if_pos (show bB _ = true from hb2)] at h
                exact h)
              have G2 := Lib.hid (G _ _ hb2)
              have HZ2 : Hid ((u.extract 0 (u.size - 1)).size = u.size - 1) := Lib.hid (by rw [ByteArray.size_extract]; omega)
              clear hb2 HU hsp
              go_wp2_with (go_at_call 29; refine (G2.out _).mono ?_; rintro e w' ⟨rfl, rfl⟩)
              go_roundw
              case rel => exact ⟨_, rfl, by rw [HZ2.out]; omega, by trivial, HS2⟩
              case measure => show (u.extract 0 (u.size - 1)).size < u.size; rw [HZ2.out]; omega
            | false =>
              have HF : Hid (trimV s = u) := Lib.hid (by
                unfold trimV
                have h : dr u.data.toList = u.data.toList := by
                  conv => lhs; rw [hsp, dr_snoc, if_neg (by show ¬ isB _ = true; rw [hb2]; decide), ← hsp]
                rw [← HU.out, h])
              have G2 := Lib.hid (G _ _ hb2)
              clear hb2 HU hsp
              go_wp2_with (go_at_call 29; refine (G2.out _).mono ?_; rintro e w' ⟨rfl, rfl⟩)
              go_ret
              exact ⟨by rw [HF.out]; rfl, rfl⟩
          · have HF : Hid (trimV s = u) := Lib.hid (by
              unfold trimV
              have e : u.data.toList = [] := List.eq_nil_of_length_eq_zero (by rw [size_list]; omega)
              rw [← HU.out, e]
              have : u.data = #[] := by rw [← Array.toList_eq_nil_iff]; exact e
              cases u
              simp_all [dr])
            clear HU
            go_wp2_with fail
            go_ret
            exact ⟨by rw [HF.out]; rfl, rfl⟩
    · have HE : Hid (t.data.toList = dl s.data.toList) := Lib.hid (by
        have h := HT.out
        have e : t.data.toList = [] := List.eq_nil_of_length_eq_zero (by rw [size_list]; omega)
        rw [← h, e]
        rfl)
      clear HT
      go_wp2_with fail
      go_loopw [0] (fun i wx => ∃ u : ByteArray, i = .string u ∧ u.size ≤ s.size ∧ wx = wr ∧ Hid (dr u.data.toList = dr (dl s.data.toList))) (fun i _ => lenOf i)
      case atStart => exact ⟨t, rfl, ht, rfl, Lib.hid (by rw [HE.out])⟩
      case round =>
        obtain ⟨u, rfl, hu, rfl, HU⟩ := hrel
        clear HE
        by_cases h1 : 0 < u.size
        · have hsp := last_split h1
          have hlast : u.size - 1 < u.size := by omega
          cases hb2 : isB ((u[u.size - 1]'hlast).toNat : Int) with
          | true =>
            have HS2 : Hid (dr (u.extract 0 (u.size - 1)).data.toList = dr (dl s.data.toList)) := Lib.hid (by
              have h := HU.out
              rw [hsp, dr_snoc, if_pos (show bB _ = true from hb2)] at h
              exact h)
            have G2 := Lib.hid (G _ _ hb2)
            have HZ2 : Hid ((u.extract 0 (u.size - 1)).size = u.size - 1) := Lib.hid (by rw [ByteArray.size_extract]; omega)
            clear hb2 HU hsp
            go_wp2_with (go_at_call 29; refine (G2.out _).mono ?_; rintro e w' ⟨rfl, rfl⟩)
            go_roundw
            case rel => exact ⟨_, rfl, by rw [HZ2.out]; omega, by trivial, HS2⟩
            case measure => show (u.extract 0 (u.size - 1)).size < u.size; rw [HZ2.out]; omega
          | false =>
            have HF : Hid (trimV s = u) := Lib.hid (by
              unfold trimV
              have h : dr u.data.toList = u.data.toList := by
                conv => lhs; rw [hsp, dr_snoc, if_neg (by show ¬ isB _ = true; rw [hb2]; decide), ← hsp]
              rw [← HU.out, h])
            have G2 := Lib.hid (G _ _ hb2)
            clear hb2 HU hsp
            go_wp2_with (go_at_call 29; refine (G2.out _).mono ?_; rintro e w' ⟨rfl, rfl⟩)
            go_ret
            exact ⟨by rw [HF.out]; rfl, rfl⟩
        · have HF : Hid (trimV s = u) := Lib.hid (by
            unfold trimV
            have e : u.data.toList = [] := List.eq_nil_of_length_eq_zero (by rw [size_list]; omega)
            rw [← HU.out, e]
            have : u.data = #[] := by rw [← Array.toList_eq_nil_iff]; exact e
            cases u
            simp_all [dr])
          clear HU
          go_wp2_with fail
          go_ret
          exact ⟨by rw [HF.out]; rfl, rfl⟩
end Go.Proofs.YtppmjlfecbaicaaDoor
