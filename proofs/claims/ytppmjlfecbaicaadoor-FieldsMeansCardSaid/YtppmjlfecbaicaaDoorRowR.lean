/- Rows of code points, by the document. -/
import Derived.Test.YtppmjlfecbaicaaDoorPiece
import Derived.Test.YtppmjlfecbaicaaDoorSame
import Derived.Test.YtppmjlfecbaicaaDoorSplit
import Derived.Outline
namespace Go.Proofs.YtppmjlfecbaicaaDoor
open Go.RowKit
set_option linter.unusedVariables false
set_option linter.unusedSimpArgs false

def addC (acc : Option (List Int)) (b : ByteArray) : Option (List Int) := acc.bind fun l => (codeV (bl b)).map fun r => l ++ [r]
def codesV (l : List ByteArray) : Option (List Int) := l.foldl addC (some [])
theorem codes_none : ∀ l : List ByteArray, l.foldl addC none = none
  | [] => rfl
  | b :: l => codes_none l
theorem codes_snoc (l : List ByteArray) (b : ByteArray) : codesV (l ++ [b]) = addC (codesV l) b := by
  unfold codesV
  rw [List.foldl_append]
  rfl
theorem codes_cut {l m : List ByteArray} (h : codesV l = none) : codesV (l ++ m) = none := by
  unfold codesV at *
  rw [List.foldl_append, h, codes_none]
theorem codes_len' : ∀ (l : List ByteArray) (a m : List Int), l.foldl addC (some a) = some m → m.length = a.length + l.length
  | [], a, m, h => by cases h; rfl
  | b :: l, a, m, h => by
    rw [List.foldl_cons] at h
    unfold addC at h
    rw [Option.bind_some] at h
    cases hb : codeV (bl b) with
    | none => rw [hb] at h; rw [show Option.map (fun r => a ++ [r]) none = none from rfl] at h; have := codes_none l; unfold addC at this; rw [this] at h; cases h
    | some r =>
      rw [hb] at h
      have := codes_len' l (a ++ [r]) m h
      rw [this]
      simp
      omega
theorem codes_len {l : List ByteArray} {m : List Int} (h : codesV l = some m) : m.length = l.length := by
  have := codes_len' l [] m h
  simpa using this
/-- Does a text open, or end, with a blank? -/
def edgeB (s : ByteArray) : Bool := isB ((bl s).getD 0 0) || isB ((bl s).getD (s.size - 1) 0)
/-- The row that a text says. -/
def rowV (s : ByteArray) : Option (List Int) := if s.size = 0 ∨ edgeB s = true then none else codesV (exts s (spans s))
theorem pcs_grows (s : ByteArray) (k : Nat) : ∀ m, ∃ t, (pcs s (k + m)).1 = (pcs s k).1 ++ t := by
  intro m
  induction m with
  | zero => exact ⟨[], by simp⟩
  | succ m ih =>
    obtain ⟨t, ht⟩ := ih
    rw [← Nat.add_assoc, pcs_succ]
    unfold pst
    split
    · exact ⟨t, ht⟩
    · show ∃ t, (if (pcs s (k + m)).2 < k + m then _ else _) = _
      split
      · exact ⟨t ++ [((pcs s (k + m)).2, k + m)], by rw [ht, List.append_assoc]⟩
      · exact ⟨t, ht⟩
theorem exts_app (s : ByteArray) (a b : List (Nat × Nat)) : exts s (a ++ b) = exts s a ++ exts s b := List.map_append

theorem ne_nil {s : ByteArray} (h : ¬ s.size = 0) : ¬ s.toList = [] := by
  rw [ByteArray.toList_eq]
  intro e
  have := size_list s
  rw [e] at this
  exact h this.symm
/-- How far the document has come in a row. -/
def RInv (s : ByteArray) (k f : Nat) (l : List Int) : Prop := (pcs s k).2 = f ∧ codesV (exts s (pcs s k).1) = some l
theorem rowV_none {s : ByteArray} {k : Nat} (hk : k ≤ s.size + 1) (h : codesV (exts s (pcs s k).1) = none) : rowV s = none := by
  unfold rowV
  split
  · rfl
  · obtain ⟨t, ht⟩ := pcs_grows s k (s.size + 1 - k)
    rw [show k + (s.size + 1 - k) = s.size + 1 by omega] at ht
    unfold spans
    rw [ht, exts_app]
    exact codes_cut h

set_option maxHeartbeats 4000000 in
set_option maxRecDepth 100000 in
theorem refRow_edge (s : ByteArray) (w : World) (hs : s.size ≤ 1000000) (h0 : ¬ s.size = 0) (he : edgeB s = true) : Calls Tryd.prog 15 #[.string s] w fun e w' => e = .returned (.tuple #[.slice none 0 0, .bool false]) ∧ w = w' := by
  have hne := ne_nil h0
  have hne2 : s.toList.isEmpty = false := by simpa using hne
  have hp0 : 0 < s.size := by omega
  have hpl : s.size - 1 < s.size := by omega
  have g0 := bl_get s 0 hp0
  have g1 := bl_get s (s.size - 1) hpl
  unfold edgeB at he
  rw [g0, g1] at he
  cases hb0 : isB ((s[0]'hp0).toNat : Int) with
  | true =>
    have G0 := Lib.hid (refBlank_any ((s[0]'hp0).toNat : Int))
    rw [hb0] at G0
    clear he g0 g1 hb0
    go_enter Tryd.func15, Tryd.ntmps15
    go_wp2_with (go_at_call 29; refine (G0.out _).mono ?_; rintro e w' ⟨rfl, rfl⟩)
    go_ret2
    exact ⟨rfl, rfl⟩
  | false =>
    rw [hb0, Bool.false_or] at he
    have G0 := Lib.hid (refBlank_any ((s[0]'hp0).toNat : Int))
    have G1 := Lib.hid (refBlank_any ((s[s.size - 1]'hpl).toNat : Int))
    rw [hb0] at G0
    rw [he] at G1
    clear he g0 g1 hb0
    go_enter Tryd.func15, Tryd.ntmps15
    go_wp2_with (first
      | (go_at_call 29; (with_reducible refine (G0.out _).mono ?_); rintro e w' ⟨rfl, rfl⟩)
      | (go_at_call 29; (with_reducible refine (G1.out _).mono ?_); rintro e w' ⟨rfl, rfl⟩))
    go_ret2
    exact ⟨rfl, rfl⟩

set_option maxHeartbeats 8000000 in
set_option maxRecDepth 100000 in
theorem refRow_in (s : ByteArray) (w : World) (hs : s.size ≤ 1000000) (h0 : ¬ s.size = 0) (he : edgeB s = false) : Calls Tryd.prog 15 #[.string s] w fun e w' => ∃ v, e = .returned (.tuple #[v, .bool (rowV s).isSome]) ∧ RowK kR w' w.heap.size v ((rowV s).getD []) ∧ Below w.heap.size w w' := by
  have hne := ne_nil h0
  have hne2 : s.toList.isEmpty = false := by simpa using hne
  have hp0 : 0 < s.size := by omega
  have hpl : s.size - 1 < s.size := by omega
  have g0 := bl_get s 0 hp0
  have g1 := bl_get s (s.size - 1) hpl
  have hrv : Hid (rowV s = codesV (exts s (spans s))) := Lib.hid (by unfold rowV; rw [if_neg (by rw [he]; exact fun h => h.elim h0 (by decide))])
  unfold edgeB at he
  rw [g0, g1, Bool.or_eq_false_iff] at he
  have G0 := Lib.hid (refBlank_any ((s[0]'hp0).toNat : Int))
  have G1 := Lib.hid (refBlank_any ((s[s.size - 1]'hpl).toNat : Int))
  rw [he.1] at G0
  rw [he.2] at G1
  clear he g0 g1
  go_enter Tryd.func15, Tryd.ntmps15
  go_wp2_with (first
    | (go_at_call 29; (with_reducible refine (G0.out _).mono ?_); rintro e w' ⟨rfl, rfl⟩)
    | (go_at_call 29; (with_reducible refine (G1.out _).mono ?_); rintro e w' ⟨rfl, rfl⟩))
  clear G0 G1
  go_loopw [4, 5, 6] (fun v fr i wr => ∃ (k f : Nat) (l : List Int), i = .int .i64 k ∧ fr = .int .i64 f ∧ k ≤ s.size + 1 ∧ f ≤ k ∧ l.length ≤ k ∧ Hid (RInv s k f l) ∧ Hid (RowK kR wr w.heap.size v l) ∧ Hid (Below w.heap.size w wr)) (fun _ _ i _ => s.size + 1 - (intOf i).toNat)
  case atStart => exact ⟨0, 0, [], rfl, rfl, Nat.zero_le _, Nat.le_refl _, Nat.le_refl _, Lib.hid ⟨rfl, rfl⟩, Lib.hid (nil_row _ _ _), Lib.hid (Below.refl _ _)⟩
  case round =>
    obtain ⟨k, f, l, rfl, rfl, hk, hf, hl, HS, HR, HB⟩ := hrel
    have hle := HB.out.size
    by_cases hlt : k ≤ s.size
    · by_cases hin : k < s.size ∧ isB ((bl s).getD k 0) = false
      · obtain ⟨hks, hbk⟩ := hin
        have HN : Hid (RInv s (k + 1) f l) := Lib.hid (by unfold RInv; rw [pcs_stay hks hbk]; exact HS.out)
        rw [bl_get s k hks] at hbk
        have G2 := Lib.hid (refBlank_any ((s[k]'hks).toNat : Int))
        rw [hbk] at G2
        clear hbk
        go_wp2_with (go_at_call 29; refine (G2.out _).mono ?_; rintro e w' ⟨rfl, rfl⟩)
        go_roundw
        case rel => exact ⟨k + 1, f, l, by go_num, rfl, by omega, by omega, by omega, HN, HR, HB⟩
        case measure => simp [intOf]; omega
      · by_cases hfk : f < k
        · have HP := Lib.hid (pcs_cut hin (by rw [HS.out.1]; exact hfk))
          rw [HS.out.1] at HP
          have HX : Hid (codesV (exts s (pcs s (k + 1)).1) = addC (some l) (s.extract f k)) := Lib.hid (by
            rw [HP.out, exts_app, show exts s [(f, k)] = [s.extract f k] from rfl, codes_snoc, HS.out.2])
          have hsz : (s.extract f k).size ≤ 9223372036854775807 := by rw [ByteArray.size_extract]; omega
          have HC : Hid (∀ W, Calls Tryd.prog 11 #[.string (s.extract f k)] W fun e w2 => e = .returned (tup (codeV (bl (s.extract f k)))) ∧ W = w2) := Lib.hid fun W => refCode_any (s.extract f k) W hsz
          by_cases hks : k < s.size
          · have hbk : isB ((bl s).getD k 0) = true := by cases hx : isB ((bl s).getD k 0) with | true => rfl | false => exact absurd ⟨hks, hx⟩ hin
            rw [bl_get s k hks] at hbk
            have G2 := Lib.hid (refBlank_any ((s[k]'hks).toNat : Int))
            rw [hbk] at G2
            clear hbk hin
            have HN := HX
            unfold addC at HN
            cases hcv : codeV (bl (s.extract f k)) with
            | none =>
              replace HC : Hid (∀ W, Calls Tryd.prog 11 #[.string (s.extract f k)] W fun e w2 => e = .returned (.tuple #[.int .i32 0, .bool false]) ∧ W = w2) := Lib.hid fun W => by have h := HC.out W; rw [hcv] at h; exact h
              have HV : Hid (rowV s = none) := Lib.hid (rowV_none (k := k + 1) (by omega) (by rw [HX.out]; unfold addC; rw [hcv]; rfl))
              clear HN HX hcv HP hrv HS
              go_wp2_with (first
                | (go_at_call 29; (with_reducible refine (G2.out _).mono ?_); rintro e w' ⟨rfl, rfl⟩)
                | (go_at_call 11; (with_reducible refine (HC.out _).mono ?_); rintro e w' ⟨rfl, rfl⟩))
              go_ret2
              exact ⟨_, by rw [HV.out]; rfl, by rw [HV.out]; exact nil_row _ _ _, HB.out⟩
            | some r =>
              replace HC : Hid (∀ W, Calls Tryd.prog 11 #[.string (s.extract f k)] W fun e w2 => e = .returned (.tuple #[.int .i32 r, .bool true]) ∧ W = w2) := Lib.hid fun W => by have h := HC.out W; rw [hcv] at h; exact h
              have HN2 : Hid (RInv s (k + 1) (k + 1) (l ++ [r])) := Lib.hid ⟨by rw [HP.out], by rw [HX.out]; unfold addC; rw [hcv]; rfl⟩
              have hln : l.length + [r].length ≤ 1000000000 := by simp; omega
              clear HN HX hcv HP
              go_wp2_with (first
                | (go_at_call 29; (with_reducible refine (G2.out _).mono ?_); rintro e w' ⟨rfl, rfl⟩)
                | (go_at_call 11; (with_reducible refine (HC.out _).mono ?_); rintro e w' ⟨rfl, rfl⟩)
                | (at_builtin; refine wpList_app kR rfl _ _ rfl [r] rfl (HR.out.alloc _) rfl (rd_block (K := kR) (l := [r]) (Blk.new _ _ _) rfl) (fun e => by cases e) hln (le_alloc hle) ?_; intro v' w' hrow' hg'; have HB4 := Lib.hid ((HB.out.alloc hle (.cells #[.int .i32 r] 21)).trans (row_below (HR.out.alloc (.cells #[.int .i32 r] 21)) hg' (le_alloc hle))); have HR4 := Lib.hid hrow'; clear hrow' hg'))
              go_roundw
              case rel => exact ⟨k + 1, k + 1, l ++ [r], by go_num, by go_num, by omega, by omega, by simp; omega, HN2, HR4, HB4⟩
              case measure => simp [intOf]; omega
          · have G2 := Lib.hid (refBlank_any (0 : Int))
            clear hin
            have HN := HX
            unfold addC at HN
            cases hcv : codeV (bl (s.extract f k)) with
            | none =>
              replace HC : Hid (∀ W, Calls Tryd.prog 11 #[.string (s.extract f k)] W fun e w2 => e = .returned (.tuple #[.int .i32 0, .bool false]) ∧ W = w2) := Lib.hid fun W => by have h := HC.out W; rw [hcv] at h; exact h
              have HV : Hid (rowV s = none) := Lib.hid (rowV_none (k := k + 1) (by omega) (by rw [HX.out]; unfold addC; rw [hcv]; rfl))
              clear HN HX hcv HP hrv HS
              go_wp2_with (first
                | (go_at_call 29; (with_reducible refine (G2.out _).mono ?_); rintro e w' ⟨rfl, rfl⟩)
                | (go_at_call 11; (with_reducible refine (HC.out _).mono ?_); rintro e w' ⟨rfl, rfl⟩))
              go_ret2
              exact ⟨_, by rw [HV.out]; rfl, by rw [HV.out]; exact nil_row _ _ _, HB.out⟩
            | some r =>
              replace HC : Hid (∀ W, Calls Tryd.prog 11 #[.string (s.extract f k)] W fun e w2 => e = .returned (.tuple #[.int .i32 r, .bool true]) ∧ W = w2) := Lib.hid fun W => by have h := HC.out W; rw [hcv] at h; exact h
              have HN2 : Hid (RInv s (k + 1) (k + 1) (l ++ [r])) := Lib.hid ⟨by rw [HP.out], by rw [HX.out]; unfold addC; rw [hcv]; rfl⟩
              have hln : l.length + [r].length ≤ 1000000000 := by simp; omega
              clear HN HX hcv HP
              go_wp2_with (first
                | (go_at_call 29; (with_reducible refine (G2.out _).mono ?_); rintro e w' ⟨rfl, rfl⟩)
                | (go_at_call 11; (with_reducible refine (HC.out _).mono ?_); rintro e w' ⟨rfl, rfl⟩)
                | (at_builtin; refine wpList_app kR rfl _ _ rfl [r] rfl (HR.out.alloc _) rfl (rd_block (K := kR) (l := [r]) (Blk.new _ _ _) rfl) (fun e => by cases e) hln (le_alloc hle) ?_; intro v' w' hrow' hg'; have HB4 := Lib.hid ((HB.out.alloc hle (.cells #[.int .i32 r] 21)).trans (row_below (HR.out.alloc (.cells #[.int .i32 r] 21)) hg' (le_alloc hle))); have HR4 := Lib.hid hrow'; clear hrow' hg'))
              go_roundw
              case rel => exact ⟨k + 1, k + 1, l ++ [r], by go_num, by go_num, by omega, by omega, by simp; omega, HN2, HR4, HB4⟩
              case measure => simp [intOf]; omega
        · have HN : Hid (RInv s (k + 1) (k + 1) l) := Lib.hid (by unfold RInv; rw [pcs_skip hin (by rw [HS.out.1]; exact hfk)]; exact ⟨rfl, HS.out.2⟩)
          have hfk2 : f = k := by omega
          by_cases hks : k < s.size
          · have hbk : isB ((bl s).getD k 0) = true := by cases hx : isB ((bl s).getD k 0) with | true => rfl | false => exact absurd ⟨hks, hx⟩ hin
            rw [bl_get s k hks] at hbk
            have G2 := Lib.hid (refBlank_any ((s[k]'hks).toNat : Int))
            rw [hbk] at G2
            clear hbk hin
            subst hfk2
            go_wp2_with (go_at_call 29; (with_reducible refine (G2.out _).mono ?_); rintro e w' ⟨rfl, rfl⟩)
            go_roundw
            case rel => exact ⟨f + 1, f + 1, l, by go_num, by go_num, by omega, by omega, by omega, HN, HR, HB⟩
            case measure => simp [intOf]; omega
          · have G2 := Lib.hid (refBlank_any (0 : Int))
            clear hin
            subst hfk2
            go_wp2_with (go_at_call 29; (with_reducible refine (G2.out _).mono ?_); rintro e w' ⟨rfl, rfl⟩)
            go_roundw
            case rel => exact ⟨f + 1, f + 1, l, by go_num, by go_num, by omega, by omega, by omega, HN, HR, HB⟩
            case measure => simp [intOf]; omega
    · have hk2 : k = s.size + 1 := by omega
      have HV : Hid (rowV s = some l) := Lib.hid (by rw [hrv.out]; unfold spans; rw [← hk2]; exact HS.out.2)
      clear hrv HS
      go_wp2
      go_ret2
      exact ⟨_, by rw [HV.out]; rfl, by rw [HV.out]; exact HR.out, HB.out⟩
theorem refRow_any (s : ByteArray) (w : World) (hs : s.size ≤ 1000000) : Calls Tryd.prog 15 #[.string s] w fun e w' => ∃ v, e = .returned (.tuple #[v, .bool (rowV s).isSome]) ∧ RowK kR w' w.heap.size v ((rowV s).getD []) ∧ Below w.heap.size w w' := by
  by_cases h0 : s.size = 0
  · have e : s = ⟨#[]⟩ := by
      have : s.data = #[] := Array.eq_empty_of_size_eq_zero h0
      cases s
      simp_all
    subst e
    go_enter Tryd.func15, Tryd.ntmps15
    go_wp2_with fail
    go_ret2
    exact ⟨_, rfl, nil_row _ _ _, Below.refl _ _⟩
  · cases he : edgeB s with
    | true =>
      refine (refRow_edge s w hs h0 he).mono ?_
      rintro e w' ⟨rfl, rfl⟩
      have hv : rowV s = none := by unfold rowV; rw [if_pos (.inr he)]
      rw [hv]
      exact ⟨_, rfl, nil_row _ _ _, Below.refl _ _⟩
    | false => exact refRow_in s w hs h0 he
end Go.Proofs.YtppmjlfecbaicaaDoor
