/- Names, types, and how many attributes, at their bounds. -/
import Derived.Test.YtlhbnmaalhainaaEnt
import Derived.Laws.IdiomStrings
import Derived.Laws.MakeOwn
namespace Go.Proofs.Ytlhbnmaalhainaa
open Go.RowKit Go.Lib Go.Sort
set_option linter.unusedVariables false
set_option linter.unusedSimpArgs false

/-- The long row, up to where it is filled. -/
def fillA (i : Nat) : Array Value := Array.ofFn (n := 1001) fun j => Value.int .u8 (if j.val < i then 97 else 0)
theorem fillA_size (i : Nat) : (fillA i).size = 1001 := by unfold fillA; exact Array.size_ofFn
theorem fillA_get (i j : Nat) (h : j < 1001) : (fillA i)[j]? = some (.int .u8 (if j < i then 97 else 0)) := by
  unfold fillA
  rw [Array.getElem?_ofFn, dif_pos h]
theorem fillA_set (i : Nat) (h : i < 1001) : (fillA i).setIfInBounds i (.int .u8 97) = fillA (i + 1) := by
  apply Array.ext_getElem?
  intro j
  rw [Array.getElem?_setIfInBounds]
  by_cases hj : j < 1001
  · rw [fillA_get _ _ hj, fillA_get _ _ hj]
    by_cases e : i = j
    · subst e
      rw [if_pos rfl, if_pos (by rw [fillA_size]; exact h), if_pos (by omega)]
    · rw [if_neg e]
      by_cases h2 : j < i
      · rw [if_pos h2, if_pos (by omega)]
      · rw [if_neg h2, if_neg (by omega)]
  · rw [Array.getElem?_eq_none (by rw [fillA_size]; omega), Array.getElem?_eq_none (by rw [fillA_size]; omega)]
    split
    · rw [if_neg (by rw [fillA_size]; omega)]
    · rfl
def as97 (m : Nat) : List UInt8 := List.replicate m 97
theorem conv_as (W : World) (g off m cap : Nat) (h : Blk W g 5 (fillA 1001)) (hm : off + m ≤ 1001) : (convert 33 9 (.slice (some ⟨g, off, none⟩) m cap)).run Try.prog W = .ok (.string (sx (as97 m))) W := by
  have hl : (as97 m).length = m := List.length_replicate
  have := run_convert_bytes_back (P := Try.prog) W 33 9 5 ⟨g, off, none⟩ cap (as97 m) Try.underlying33 Try.underlying5 Try.underlying9 (fun j hj => by
    rw [hl] at hj
    have e : (as97 m)[j]'(by rw [hl]; exact hj) = 97 := List.getElem_replicate _
    rw [e, show (⟨g, off, none⟩ : Addr).add j = ⟨g, off + j, none⟩ from by unfold Addr.add; by_cases h : j = 0 <;> simp [h], h.cell, fillA_get _ _ (by omega), if_pos (by omega)]
    rfl)
  rw [hl] at this
  exact this
theorem make_long (W : World) : (Instr.makeSlice 33 (.int .i64 1001) (.int .i64 1001)).run Try.prog W = .ok (.slice (some ⟨W.heap.size, 0, none⟩) 1001 1001) (W.alloc (.cells (fillA 0) 5)) := by
  have h : (Try.prog.info? 5).map (fun i => (i.zero, i.size, i.bytes)) = some (some (.int .u8 0), 1, 1) := by kernel_rfl
  obtain ⟨i, hi, h0, h1, h2⟩ := info_parts h
  have hmk := run_makeSlice (P := Try.prog) (w := W) 33 5 i (.int .u8 0) Try.underlying33 hi h0 .i64 .i64 1001 1001 (by decide) (by decide) (by rw [h1]; decide) (by rw [h2]; decide) (by decide)
  have t : Int.toNat 1001 = 1001 := by decide
  have z : (Value.int .u8 0).cells = #[Value.int .u8 0] := rfl
  have e : madeCells #[Value.int .u8 0] 1001 = fillA 0 := by
    apply Array.ext_getElem?
    intro j
    unfold madeCells
    rw [Array.getElem?_map]
    by_cases hj : j < 1001
    · rw [fillA_get _ _ hj, Array.getElem?_range, if_pos hj, if_neg (Nat.not_lt_zero _)]
      simp [Nat.mod_one]
    · rw [Array.getElem?_range, if_neg hj, Array.getElem?_eq_none (by rw [fillA_size]; omega)]
      rfl
  rw [h1, t, Nat.mul_one, z, e] at hmk
  exact hmk
/-- The many attributes. -/
def alN (i : Nat) : At := ⟨[97], [UInt8.ofNat (48 + i / 10), UInt8.ofNat (48 + i % 10)]⟩
def alL (k : Nat) : List At := (List.range k).map alN
theorem alL_succ (k : Nat) : alL (k + 1) = alL k ++ [alN k] := by unfold alL; rw [List.range_succ, List.map_append]; rfl
theorem alL_len (k : Nat) : (alL k).length = k := by unfold alL; simp
theorem alL_take (k : Nat) (h : k ≤ 51) : (alL 51).take k = alL k := by unfold alL; rw [← List.map_take, List.take_range, Nat.min_eq_left h]
end Go.Proofs.Ytlhbnmaalhainaa
