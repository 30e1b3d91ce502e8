/- A rune among the blanks. -/
import Derived.Test.YtppmjlfecbaicaaDoorTrim
import Derived.Test.YtppmjlfecbaicaaDoorShelf
import Derived.Test.YtppmjlfecbaicaaDoorRow
import Derived.Test.YtppmjlfecbaicaaDoorPiece
import Derived.Laws.Runes
import Derived.ScopeJumps
import Derived.Outline
import Derived.BigQuiet
import Derived.Deep.QuietTactic
namespace Go.Proofs.YtppmjlfecbaicaaDoor
open Go.RowKit
set_option linter.unusedVariables false
set_option linter.unusedSimpArgs false

theorem valid_any (r : Int) (w : World) : Calls Tryd.prog 63 #[.int .i32 r] w fun e w' => e = .returned (.bool (Lib.validRune r)) ∧ w = w' := (Tryd.utf8_ValidRune r w).mono fun _ _ h => ⟨h.1, h.2.symm⟩
abbrev blankT : ByteArray := { data := #[9, 13, 32] }
set_option maxHeartbeats 2000000 in
set_option maxRecDepth 100000 in
theorem idx_bad (r : Int) (w : World) (h : 128 ≤ r) (hv : Lib.validRune r = false) (h2 : r ≠ 65533) : Calls Tryd.prog 52 #[.string blankT, .int .i32 r] w fun e w' => e = .returned (.int .i64 (-1)) ∧ Below w.heap.size w w' := by
  have hd : (r == 65533) = false := by simpa using h2
  go_enter Tryd.func52, Tryd.ntmps52
  go_wp2_with (go_at_call 63; refine (valid_any _ _).mono ?_; rintro e w' ⟨rfl, rfl⟩)
  go_ret
  exact ⟨rfl, Below.refl _ _⟩
set_option maxHeartbeats 2000000 in
set_option maxRecDepth 100000 in
theorem idx_err (w : World) : Calls Tryd.prog 52 #[.string blankT, .int .i32 65533] w fun e w' => e = .returned (.int .i64 (-1)) ∧ Below w.heap.size w w' := by
  go_enter Tryd.func52, Tryd.ntmps52
  go_wp2_with fail
  go_loopw [5, 6] (fun a b wr => ∃ k : Nat, k ≤ 3 ∧ wr = w.iter blankT k) (fun a b wr => match wr.heap[w.heap.size]? with | some (.stringIter _ k) => 3 - k | _ => 0)
  case atStart => exact ⟨0, by omega, rfl⟩
  case round =>
    obtain ⟨k, hk, rfl⟩ := hrel
    have hI : (w.iter blankT k).heap[w.heap.size]? = some (.stringIter blankT k) := World.iter_heap w blankT k
    by_cases h3 : k < 3
    · have hsz : k < blankT.size := h3
      have hc : (blankT[k]'hsz).toNat < 128 := by
        have h2 : ∀ b ∈ blankT.data.toList, b.toNat < 128 := by decide
        exact h2 _ (Array.getElem_mem_toList (xs := blankT.data) hsz)
      have hnx : ∀ ty, (Instr.next (.pointer (some ⟨w.heap.size, 0, none⟩)) true ty).run Tryd.prog (w.iter blankT k) = _ := fun ty => run_next_ascii w blankT k ty hsz hc
      generalize (blankT[k]'hsz).toNat = R at *
      have hd3 : ((R : Int) == 65533) = false := by simp; omega
      go_wp2_with fail
      go_roundw
      case rel => exact ⟨k + 1, by omega, rfl⟩
      case measure => simp only [World.iter_heap]; omega
    · have hnx : ∀ ty, (Instr.next (.pointer (some ⟨w.heap.size, 0, none⟩)) true ty).run Tryd.prog (w.iter blankT k) = _ := fun ty => Lib.run_next_end_at _ w.heap.size blankT k ty hI h3
      go_wp2_with fail
      go_ret
      exact ⟨rfl, (Below.refl _ _).alloc (Nat.le_refl _) _⟩
/-- The library looks for no rune's last byte among the blanks. -/
theorem idxByte_far : ∀ (l : List UInt8) (c : UInt8), (∀ b ∈ l, b.toNat < 128) → 128 ≤ c.toNat → Lib.indexByte l c = -1
  | [], _, _, _ => rfl
  | b :: l, c, h, hc => by
    have hb := h b (List.mem_cons_self ..)
    have e : (b == c) = false := by
      rw [beq_eq_false_iff_ne]
      intro e
      subst e
      omega
    unfold Lib.indexByte
    rw [e, idxByte_far l c (fun x hx => h x (List.mem_cons_of_mem _ hx)) hc]
    rfl
theorem byte_far (s : ByteArray) (hs : ∀ b ∈ s.data.toList, b.toNat < 128) (c : Int) (h : 128 ≤ c) (h2 : c ≤ 255) (W : World) : Calls Tryd.prog 62 #[.string s, .int .u8 c] W fun e w' => e = .returned (.int .i64 (-1)) ∧ W = w' := by
  refine (Tryd.strings_IndexByte _ _ _).mono ?_
  rintro e w' ⟨rfl, rfl⟩
  refine ⟨?_, rfl⟩
  rw [idxByte_far _ _ hs (by show 128 ≤ (UInt8.ofNat c.toNat).toNat; rw [UInt8.toNat_ofNat']; omega)]
theorem end_two {t : ByteArray} (hn : t.size = 2) (hb : ∀ h : t.size - 1 < t.size, 128 ≤ (t[t.size - 1]'h).toNat) : ∃ h : 1 < t.size, 128 ≤ (t[1]'h).toNat := by
  refine ⟨by omega, ?_⟩
  have h := hb (by omega)
  simpa [hn] using h
set_option maxHeartbeats 2000000 in
set_option maxRecDepth 100000 in
theorem idx_two (r : Int) (w : World) (h : 128 ≤ r) (hv : Lib.validRune r = true) (h2 : r ≠ 65533) (hn : (Utf8.encode r).size = 2) : Calls Tryd.prog 52 #[.string blankT, .int .i32 r] w fun e w' => e = .returned (.int .i64 (-1)) ∧ Below w.heap.size w w' := by
  have hd : (r == 65533) = false := by simpa using h2
  obtain ⟨h1, hb⟩ := end_two hn (encode_facts r (by rw [validRune_eq]; exact hv) h).2.2
  go_enter Tryd.func52, Tryd.ntmps52
  go_wp2_with (go_at_call 63; refine (valid_any _ _).mono ?_; rintro e w' ⟨rfl, rfl⟩)
  go_step3
  go_wp2_with fail
  generalize Utf8.encode r = t at *
  have hl := UInt8.toNat_lt (t[1]'h1)
  have g1 : (128 : Int) ≤ ((t[1]'h1).toNat : Int) := by omega
  have g2 : ((t[1]'h1).toNat : Int) ≤ 255 := by omega
  have hq : (((blankT[1]'(by decide)).toNat : Int) != ((t[1]'h1).toNat : Int)) = true := by show ((13 : Int) != ((t[1]'h1).toNat : Int)) = true; simp; omega
  refine wp_loop_rounds 1 ?_
  rw [rounds_succ]
  go_wp2_with fail
  go_step3
  go_wp2_with fail
  go_quiet (fail)
  have HB := Lib.hid (below_drewN (Below.refl w.heap.size w) nq)
  generalize w.drewN nq = W at *
  go_wp2_with fail
  go_quiet ((go_at_call 62; refine Calls.quiet_of_same ((byte_far _ ?_ _ g1 g2 _).mono fun e w' h => ⟨h.1, h.2.symm⟩); decide))
  go_wp2_with fail
  simp only [Exit.noGoto_ret, Exit.inBlock, Exit.then]
  go_ret
  exact ⟨rfl, below_drewN HB.out _⟩
theorem end_three {t : ByteArray} (hn : t.size = 3) (hb : ∀ h : t.size - 1 < t.size, 128 ≤ (t[t.size - 1]'h).toNat) : ∃ h : 2 < t.size, 128 ≤ (t[2]'h).toNat := by
  refine ⟨by omega, ?_⟩
  have h := hb (by omega)
  simpa [hn] using h
set_option maxHeartbeats 2000000 in
set_option maxRecDepth 100000 in
theorem idx_three (r : Int) (w : World) (h : 128 ≤ r) (hv : Lib.validRune r = true) (h2 : r ≠ 65533) (hn : (Utf8.encode r).size = 3) : Calls Tryd.prog 52 #[.string blankT, .int .i32 r] w fun e w' => e = .returned (.int .i64 (-1)) ∧ Below w.heap.size w w' := by
  have hd : (r == 65533) = false := by simpa using h2
  obtain ⟨h1, hb⟩ := end_three hn (encode_facts r (by rw [validRune_eq]; exact hv) h).2.2
  go_enter Tryd.func52, Tryd.ntmps52
  go_wp2_with (go_at_call 63; refine (valid_any _ _).mono ?_; rintro e w' ⟨rfl, rfl⟩)
  go_step3
  go_wp2_with fail
  generalize Utf8.encode r = t at *
  have hl := UInt8.toNat_lt (t[2]'h1)
  have g1 : (128 : Int) ≤ ((t[2]'h1).toNat : Int) := by omega
  have g2 : ((t[2]'h1).toNat : Int) ≤ 255 := by omega
  have hq : (((blankT[2]'(by decide)).toNat : Int) != ((t[2]'h1).toNat : Int)) = true := by show ((32 : Int) != ((t[2]'h1).toNat : Int)) = true; simp; omega
  refine wp_loop_rounds 1 ?_
  rw [rounds_succ]
  go_wp2_with fail
  go_step3
  go_wp2_with fail
  go_quiet (fail)
  have HB := Lib.hid (below_drewN (Below.refl w.heap.size w) nq)
  generalize w.drewN nq = W at *
  go_wp2_with fail
  go_quiet ((go_at_call 62; refine Calls.quiet_of_same ((byte_far _ ?_ _ g1 g2 _).mono fun e w' h => ⟨h.1, h.2.symm⟩); decide))
  go_wp2_with fail
  simp only [Exit.noGoto_ret, Exit.inBlock, Exit.then]
  go_ret
  exact ⟨rfl, below_drewN HB.out _⟩
set_option maxHeartbeats 2000000 in
set_option maxRecDepth 100000 in
theorem idx_four (r : Int) (w : World) (h : 128 ≤ r) (hv : Lib.validRune r = true) (h2 : r ≠ 65533) (hn : (Utf8.encode r).size = 4) : Calls Tryd.prog 52 #[.string blankT, .int .i32 r] w fun e w' => e = .returned (.int .i64 (-1)) ∧ Below w.heap.size w w' := by
  have hd : (r == 65533) = false := by simpa using h2
  go_enter Tryd.func52, Tryd.ntmps52
  go_wp2_with (go_at_call 63; refine (valid_any _ _).mono ?_; rintro e w' ⟨rfl, rfl⟩)
  go_step3
  go_wp2_with fail
  refine wp_loop_rounds 1 ?_
  rw [rounds_succ]
  go_wp2_with fail
  simp only [Exit.noGoto_ret, Exit.inBlock, Exit.then]
  go_ret
  exact ⟨rfl, Below.refl _ _⟩

/-- No rune beyond ASCII is found among the blanks. -/
theorem idx_far (r : Int) (w : World) (h : 128 ≤ r) : Calls Tryd.prog 52 #[.string blankT, .int .i32 r] w fun e w' => e = .returned (.int .i64 (-1)) ∧ Below w.heap.size w w' := by
  by_cases he : r = 65533
  · subst he; exact idx_err w
  · cases hv : Lib.validRune r with
    | false => exact idx_bad r w h hv he
    | true =>
      have hf := encode_facts r (by rw [validRune_eq]; exact hv) h
      have h3 : (Utf8.encode r).size = 2 ∨ (Utf8.encode r).size = 3 ∨ (Utf8.encode r).size = 4 := by omega
      rcases h3 with h3 | h3 | h3
      · exact idx_two r w h hv he h3
      · exact idx_three r w h hv he h3
      · exact idx_four r w h hv he h3
set_option maxHeartbeats 2000000 in
theorem has_any (r : Int) (w : World) (h0 : 0 ≤ r) : Calls Tryd.prog 42 #[.string blankT, .int .i32 r] w fun e w' => e = .returned (.bool (isB r)) ∧ Below w.heap.size w w' := by
  by_cases h : r < 128
  · refine (Tryd.strings_ContainsRune_ascii blankT r w h0 h).mono ?_
    rintro e w' ⟨rfl, rfl⟩
    refine ⟨?_, Below.refl _ _⟩
    have hn : ∃ n : Nat, n < 128 ∧ r = (n : Int) := ⟨r.toNat, by omega, by omega⟩
    obtain ⟨n, hn, rfl⟩ := hn
    have key : ∀ n : Nat, n < 128 → decide (0 ≤ Lib.indexByte blankT.data.toList ((n : Int).toNat.toUInt8)) = isB (n : Int) := by decide
    rw [key n hn]
  · rw [isB_hi (by omega)]
    go_enter Tryd.func42, Tryd.ntmps42
    go_wp2_with (go_at_call 52; refine (idx_far _ _ (by omega)).mono ?_; rintro e w' ⟨rfl, hb⟩)
    go_ret
    exact ⟨rfl, hb⟩
theorem blank_any (r : Int) (w : World) (h0 : 0 ≤ r) : Calls Tryd.prog 28 #[.int .i32 r] w fun e w' => e = .returned (.bool (isB r)) ∧ Below w.heap.size w w' := by
  go_enter Tryd.func28, Tryd.ntmps28
  go_wp2_with (go_at_call 42; refine (has_any _ _ h0).mono ?_; rintro e w' ⟨rfl, hb⟩)
  go_ret
  exact ⟨rfl, hb⟩
end Go.Proofs.YtppmjlfecbaicaaDoor
