/- Texts without the blanks at their ends: the library's Trim is the document's. -/
import Derived.Test.YtppmjlfecbaicaaDoorTrim
import Derived.Test.YtppmjlfecbaicaaDoorShelf
import Derived.Shelf.Strings.SlTrimAscii
namespace Go.Proofs.YtppmjlfecbaicaaDoor
open Go.RowKit
set_option linter.unusedVariables false
set_option linter.unusedSimpArgs false

theorem dr_cons (a : UInt8) (t : List UInt8) : dr (a :: t) = if (dr t).isEmpty = true ∧ bB a = true then [] else a :: dr t := by
  unfold dr
  rw [List.reverse_cons, List.dropWhile_append]
  cases h : (t.reverse.dropWhile bB).isEmpty with
  | true =>
    have e : t.reverse.dropWhile bB = [] := List.isEmpty_iff.1 h
    rw [e]
    cases hb : bB a <;> simp [hb]
  | false =>
    have e : ¬ (t.reverse.dropWhile bB) = [] := fun e => by rw [e] at h; cases h
    simp [h, e]
theorem dl_dr : ∀ l : List UInt8, dl (dr l) = dr (dl l) := by
  intro l
  induction l with
  | nil => rfl
  | cons a t ih =>
    cases hb : bB a with
    | true =>
      have e1 : dl (a :: t) = dl t := by unfold dl; rw [List.dropWhile_cons_of_pos hb]
      rw [e1, dr_cons]
      by_cases h : (dr t).isEmpty = true
      · have e2 : dr t = [] := List.isEmpty_iff.1 h
        rw [if_pos ⟨h, hb⟩, ← ih, e2]
      · rw [if_neg (fun x => h x.1), ← ih]
        unfold dl
        rw [List.dropWhile_cons_of_pos hb]
    | false =>
      have e1 : dl (a :: t) = a :: t := by unfold dl; rw [List.dropWhile_cons_of_neg (by rw [hb]; decide)]
      rw [e1, dr_cons, if_neg (fun x => by rw [hb] at x; cases x.2)]
      unfold dl
      rw [List.dropWhile_cons_of_neg (by rw [hb]; decide)]
def blanks : ByteArray := ⟨#[9, 13, 32]⟩
theorem blank_eq (b : UInt8) : (blanks.data.toList.contains b) = bB b := by
  unfold bB isB blanks
  show (b == 9 || (b == 13 || (b == 32 || false))) = _
  rw [Bool.or_false, ← Bool.or_assoc]
  have h : ∀ n : UInt8, (b == n) = (((b.toNat : Nat) : Int) == ((n.toNat : Nat) : Int)) := fun n => by
    rw [Bool.eq_iff_iff, beq_iff_eq, beq_iff_eq, ← UInt8.toNat_inj]
    omega
  rw [h 9, h 13, h 32]
  rfl
theorem trimS_eq (s : ByteArray) : (⟨(Lib.trimS s.data.toList blanks.data.toList).toArray⟩ : ByteArray) = trimV s := by
  unfold Lib.trimS Lib.trimLeftS Lib.trimRightS trimV
  have e : (fun b => blanks.data.toList.contains b) = bB := funext blank_eq
  show (⟨(List.dropWhile (fun b => blanks.data.toList.contains b) (List.dropWhile (fun b => blanks.data.toList.contains b) s.data.toList.reverse).reverse).toArray⟩ : ByteArray) = _
  rw [e, ← dl_dr]
  rfl
theorem trim_any (s : ByteArray) (w : World) (hs : s.size ≤ 9223372036854775807) : Calls Tryd.prog 26 #[.string s, .string { data := #[9, 13, 32] }] w fun e w' => e = .returned (.string (trimV s)) ∧ Below w.heap.size w w' := by
  have h := Any.strings_Trim_laid Tryd.lays160 (by kernel_rfl) s blanks w hs (by decide) (fun j b hj => by
    have : ∀ b ∈ blanks.data.toList, b.toNat < 128 := by decide
    exact this b (List.mem_of_getElem? hj))
  rw [trimS_eq] at h
  exact h
end Go.Proofs.YtppmjlfecbaicaaDoor
