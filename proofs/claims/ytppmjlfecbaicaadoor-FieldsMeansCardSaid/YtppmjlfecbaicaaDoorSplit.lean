/- A text split at a byte, by the document. -/
import Derived.Test.YtppmjlfecbaicaaDoorRow
import Derived.Test.YtppmjlfecbaicaaDoorTxt
namespace Go.Proofs.YtppmjlfecbaicaaDoor
open Go.RowKit
set_option linter.unusedVariables false
set_option linter.unusedSimpArgs false

theorem info9 : ∃ (i : TypeInfo) (z : Value), Tryd.prog.info? 9 = some i ∧ i.zero = some z ∧ i.size = 1 ∧ i.bytes = 16 ∧ z.cells.size = 1 := by
  have h : (Tryd.prog.info? 9).map (fun i => (i.zero, i.size, i.bytes)) = some (some (.string ⟨#[]⟩), 1, 16) := by kernel_rfl
  obtain ⟨i, hi, h0, h1, h2⟩ := info_parts h
  exact ⟨i, _, hi, h0, h1, h2, rfl⟩
instance : Inhabited ByteArray := ⟨ByteArray.empty⟩
def kS : Kind ByteArray where
  e := 9
  st := 40
  size := 1
  bytes := 16
  cs := fun x => [.string x]
  len := fun _ => rfl
  one := fun x u hu => by simp at hu; subst hu; rfl
  pos := by decide
  sl := Tryd.underlying40
  zero := info9
  small := by decide

def stp (s : ByteArray) (c : Int) (st : List ByteArray × Nat) (k : Nat) : List ByteArray × Nat := if (bl s).getD k 0 = c then (st.1 ++ [s.extract st.2 k], k + 1) else st
def spl (s : ByteArray) (c : Int) (k : Nat) : List ByteArray × Nat := (List.range k).foldl (stp s c) ([], 0)
theorem spl_succ (s : ByteArray) (c : Int) (k : Nat) : spl s c (k + 1) = stp s c (spl s c k) k := by
  unfold spl
  rw [List.range_succ, List.foldl_append]
  rfl
theorem spl_le (s : ByteArray) (c : Int) : ∀ k, (spl s c k).2 ≤ k ∧ (spl s c k).1.length ≤ k := by
  intro k
  induction k with
  | zero => exact ⟨Nat.le_refl _, Nat.le_refl _⟩
  | succ k ih =>
    rw [spl_succ]
    unfold stp
    split
    · exact ⟨Nat.le_refl _, by simp; omega⟩
    · exact ⟨by omega, by omega⟩
/-- A text's parts between bytes. -/
def splitV (s : ByteArray) (c : Int) : List ByteArray := (spl s c s.size).1 ++ [s.extract (spl s c s.size).2 s.size]

set_option maxHeartbeats 4000000 in
theorem refSplit_any (s : ByteArray) (c : Int) (w : World) (hs : s.size ≤ 1000000) : Calls Tryd.prog 21 #[.string s, .int .u8 c] w fun e w' => ∃ v, e = .returned v ∧ RowK kS w' w.heap.size v (splitV s c) ∧ Below w.heap.size w w' := by
  go_enter Tryd.func21, Tryd.ntmps21
  go_wp2
  go_loopw [5, 6, 7] (fun v fr i wr => ∃ (k f : Nat) (l : List ByteArray), i = .int .i64 k ∧ fr = .int .i64 f ∧ k ≤ s.size ∧ f ≤ k ∧ l.length ≤ k ∧ Hid (spl s c k = (l, f)) ∧ Hid (RowK kS wr w.heap.size v l) ∧ Hid (Below w.heap.size w wr)) (fun _ _ i _ => s.size - (intOf i).toNat)
  case atStart => exact ⟨0, 0, [], rfl, rfl, Nat.zero_le _, Nat.le_refl _, Nat.le_refl _, Lib.hid rfl, Lib.hid (nil_row _ _ _), Lib.hid (Below.refl _ _)⟩
  case round =>
    obtain ⟨k, f, l, rfl, rfl, hk, hf, hl, HS, HR, HB⟩ := hrel
    have hle := HB.out.size
    by_cases hlt : k < s.size
    · have hb := bl_get s k hlt
      have HN := Lib.hid (spl_succ s c k)
      rw [HS.out] at HN
      unfold stp at HN
      rw [hb] at HN
      clear hb
      by_cases hc : (((s[k]'hlt).toNat : Nat) : Int) = c
      · rw [if_pos hc] at HN
        have hln : l.length + 1 ≤ 1000000000 := by omega
        have hc2 := hc.symm
        subst hc2
        go_wp2_with (at_builtin; refine wpList_app kS rfl _ _ rfl [s.extract f k] rfl (HR.out.alloc _) rfl (rd_block (K := kS) (l := [s.extract f k]) (Blk.new _ _ _) rfl) (fun e => by cases e) hln (le_alloc hle) ?_; intro v' w' hrow' hg'; have HB' := Lib.hid ((HB.out.alloc hle (.cells #[.string (s.extract f k)] 9)).trans (row_below (HR.out.alloc (.cells #[.string (s.extract f k)] 9)) hg' (le_alloc hle))); have HR' := Lib.hid hrow'; clear hrow' hg')
        go_roundw
        case rel => exact ⟨k + 1, k + 1, l ++ [s.extract f k], by go_num, by go_num, by omega, by omega, by simp; omega, HN, HR', HB'⟩
        case measure => simp [intOf]; omega
      · rw [if_neg hc] at HN
        go_wp2
        go_roundw
        case rel => exact ⟨k + 1, f, l, by go_num, rfl, by omega, by omega, by omega, HN, HR, HB⟩
        case measure => simp [intOf]; omega
    · have hk2 : k = s.size := by omega
      have hv2 : splitV s c = l ++ [s.extract f s.size] := by
        unfold splitV
        rw [← hk2, HS.out]
      have HV := Lib.hid hv2
      have hln : l.length + 1 ≤ 1000000000 := by omega
      clear HS hv2 hk2
      go_wp2_with (at_builtin; refine wpList_app kS rfl _ _ rfl [s.extract f s.size] rfl (HR.out.alloc _) rfl (rd_block (K := kS) (l := [s.extract f s.size]) (Blk.new _ _ _) rfl) (fun e => by cases e) hln (le_alloc hle) ?_; intro v' w' hrow' hg'; have HB' := Lib.hid ((HB.out.alloc hle (.cells #[.string (s.extract f s.size)] 9)).trans (row_below (HR.out.alloc (.cells #[.string (s.extract f s.size)] 9)) hg' (le_alloc hle))); have HR' := Lib.hid hrow'; clear hrow' hg')
      go_ret
      exact ⟨_, rfl, by rw [HV.out]; exact HR'.out, HB'.out⟩
end Go.Proofs.YtppmjlfecbaicaaDoor
