/- The document's texts of code points. -/
import Derived.Test.YtppmjlfecbaicaaDoorTxt
import Derived.Lib.ConvBytes
namespace Go.Proofs.YtppmjlfecbaicaaDoor
open Go.RowKit
set_option linter.unusedVariables false
set_option linter.unusedSimpArgs false

def mkS (l : List Int) : ByteArray := l.foldl (fun r n => r.push (UInt8.ofNat n.toNat)) ByteArray.empty
theorem conv_one (w : World) (x : UInt8) : (convert 57 9 (.slice (some ⟨w.heap.size, 0, none⟩) 1 1)).run Tryd.prog (w.alloc (.cells #[.int .u8 (x.toNat : Int)] 5)) = .ok (.string ⟨#[x]⟩) (w.alloc (.cells #[.int .u8 (x.toNat : Int)] 5)) := by
  rw [run_convert_bytes_string (P := Tryd.prog) _ 57 9 5 _ _ _ Tryd.underlying57 Tryd.underlying5 Tryd.underlying9]
  have h := run_loadCells_list (P := Tryd.prog) (w := w.alloc (.cells #[.int .u8 (x.toNat : Int)] 5)) ⟨w.heap.size, 0, none⟩ [.int .u8 (x.toNat : Int)] (fun j u hu => by
    have hj : j = 0 := by
      have := (List.getElem?_eq_some_iff.1 hu).1
      simp at this
      exact this
    subst hj
    simp at hu
    subst hu
    show (w.alloc _).cell? ⟨w.heap.size, 0, none⟩ = _
    rw [World.cell?_alloc_at _ _ _ _ (by simp)]
    rfl)
  have h2 := run_bytesToString (w.alloc (.cells #[.int .u8 (x.toNat : Int)] 5)) ⟨w.heap.size, 0, none⟩ 1 1 [(x.toNat : Int)] (by simpa using h)
  rw [h2]
  have : mkS [(x.toNat : Int)] = ⟨#[x]⟩ := by
    unfold mkS
    simp [ByteArray.push]
  exact congrArg (fun b => Result.ok (Value.string b) _) this
theorem dg_get (m : Nat) (h : m < 16) (h2 : m < ({ data := #[48, 49, 50, 51, 52, 53, 54, 55, 56, 57, 65, 66, 67, 68, 69, 70] } : ByteArray).size) : (⟨#[({ data := #[48, 49, 50, 51, 52, 53, 54, 55, 56, 57, 65, 66, 67, 68, 69, 70] } : ByteArray)[m]'h2]⟩ : ByteArray) = dg m := by
  have : ∀ m : Fin 16, (⟨#[({ data := #[48, 49, 50, 51, 52, 53, 54, 55, 56, 57, 65, 66, 67, 68, 69, 70] } : ByteArray)[m.val]'m.isLt]⟩ : ByteArray) = dg m.val := by decide +kernel
  exact this ⟨m, h⟩

set_option maxRecDepth 20000 in
set_option maxHeartbeats 4000000 in
theorem refCodeText_any (r : Int) (w : World) (h1 : -2147483648 ≤ r) (h2 : r ≤ 2147483647) : Calls Tryd.prog 18 #[.int .i32 r] w fun e w' => e = .returned (.string (textV r)) ∧ Below w.heap.size w w' := by
  by_cases hr : r < 0 ∨ 1114111 < r
  · have e : textV r = ⟨#[]⟩ := by unfold textV; rw [if_pos hr]
    rw [e]
    clear e
    go_enter Tryd.func18, Tryd.ntmps18
    go_wp2
    all_goals go_ret
    all_goals first | exact ⟨rfl, Below.refl _ _⟩ | (exfalso; omega)
  · have e : textV r = tx 8 r.toNat ⟨#[]⟩ := by unfold textV; rw [if_neg hr]
    rw [e]
    obtain ⟨n0, rfl⟩ := Int.eq_ofNat_of_zero_le (show 0 ≤ r by omega)
    have hn0 : n0 ≤ 1114111 := by omega
    have HT : Hid ((n0 : Int).toNat = n0) := Lib.hid (by omega)
    clear e hr
    go_enter Tryd.func18, Tryd.ntmps18
    go_wp2
    go_loopw [0, 4] (fun i s wr => ∃ (f n : Nat) (t : ByteArray), s = .string t ∧ i = .int .i32 n ∧ n ≤ n0 ∧ n < 16 ^ f ∧ 4 ≤ t.size + f ∧ f + t.size ≤ 8 ∧ Hid (Below w.heap.size w wr) ∧ Hid (tx f n t = tx 8 n0 ⟨#[]⟩)) (fun i s _ => (intOf i).toNat + (4 - lenOf s))
    case atStart => exact ⟨8, n0, ⟨#[]⟩, rfl, rfl, Nat.le_refl _, by omega, by decide, by decide, Lib.hid (Below.refl _ _), Lib.hid rfl⟩
    case round =>
      obtain ⟨f, n, t, rfl, rfl, hn, hf, h4, h8, HB, HX⟩ := hrel
      have hm : n % 16 < 16 := Nat.mod_lt _ (by decide)
      by_cases hgo : 0 < n ∨ t.size < 4
      · cases f with
        | zero => exfalso; have : n < 1 := by simpa using hf
                  omega
        | succ f =>
          have HE := Lib.hid ((tx_step (f := f) hgo).symm.trans HX.out)
          have hp : n < 16 ^ f * 16 := by rw [← Nat.pow_succ]; exact hf
          have hq : n / 16 < 16 ^ f := by omega
          have hz := Lib.hid (dg_size (n % 16) t)
          clear hf hp
          have hx := Lib.hid (dg_get (n % 16) hm hm)
          have hrem : Int.tmod (n : Int) 16 = ((n % 16 : Nat) : Int) := by rw [Int.tmod_eq_emod_of_nonneg (by omega)]; omega
          generalize n % 16 = m at *
          by_cases hn1 : 0 < n
          · have hd : decide (0 < (n : Int)) = true := by simp; omega
            have hcv := conv_one wr
            go_wp2_with fail
            rw [hx.out]
            refine ⟨⟨f, n / 16, _, rfl, by go_num, by omega, hq, by rw [hz.out]; omega, by rw [hz.out]; omega, Lib.hid (HB.out.alloc HB.out.size _), HE⟩, ?_⟩
            show ((n : Int) / 16).toNat + (4 - (dg m ++ t).size) < (n : Int).toNat + (4 - t.size)
            rw [hz.out]
            omega
          · have hd : decide (0 < (n : Int)) = false := by simp; omega
            have hn2 := Lib.hid (show n = 0 by omega)
            have ht : t.size < 4 := by omega
            have hcv := conv_one wr
            go_wp2_with fail
            rw [hx.out]
            refine ⟨⟨f, n / 16, _, rfl, by go_num, by omega, hq, by rw [hz.out]; omega, by rw [hz.out]; omega, Lib.hid (HB.out.alloc HB.out.size _), HE⟩, ?_⟩
            show ((n : Int) / 16).toNat + (4 - (dg m ++ t).size) < (n : Int).toNat + (4 - t.size)
            rw [hz.out]
            have := hn2.out
            omega
      · have HE := Lib.hid (HX.out.symm.trans (tx_end hgo))
        have hn1 : n = 0 := by omega
        have ht : 4 ≤ t.size := by omega
        subst hn1
        clear hgo
        go_wp2
        go_ret
        exact ⟨by rw [HT.out, HE.out]; rfl, HB.out⟩
end Go.Proofs.YtppmjlfecbaicaaDoor
