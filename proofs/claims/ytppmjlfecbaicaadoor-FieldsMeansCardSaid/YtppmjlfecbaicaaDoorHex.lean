/- Code points out of their texts: digit, Code, and the document's Code. -/
import Derived.Test.YtppmjlfecbaicaaDoorProg
import Derived.WalkKit
import Derived.ProofKit
import Derived.Below
import Derived.BigQuiet
import Derived.Deep.QuietTactic
import Derived.IntWalk
import Derived.OwnWalk
import Derived.WalkSpells
import Derived.Lib.Hide
import Derived.Outline
import Derived.LoopTactic
import Derived.Laws.RangeAny
namespace Go.Proofs.YtppmjlfecbaicaaDoor
open Go.RowKit
set_option linter.unusedVariables false
set_option linter.unusedSimpArgs false

/-- What a digit says. -/
def dig (c : Int) : Option Int := if 48 ≤ c ∧ c ≤ 57 then some (c - 48) else if 65 ≤ c ∧ c ≤ 70 then some (c - 55) else if 97 ≤ c ∧ c ≤ 102 then some (c - 87) else none
theorem dig_le {c d : Int} (h : dig c = some d) : 0 ≤ d ∧ d ≤ 15 ∧ 48 ≤ c ∧ c ≤ 102 := by
  unfold dig at h
  split at h
  · injection h; omega
  split at h
  · injection h; omega
  split at h
  · injection h; omega
  · cases h
def tup (o : Option Int) : Value := .tuple #[.int .i32 (o.getD 0), .bool o.isSome]
theorem digit_any (c : Int) (w : World) : Calls Tryd.prog 24 #[.int .i32 c] w fun e w' => e = .returned (tup (dig c)) ∧ w = w' := by
  by_cases h1 : 48 ≤ c ∧ c ≤ 57
  · have e : dig c = some (c - 48) := by unfold dig; rw [if_pos h1]
    rw [e]
    obtain ⟨a, b⟩ := h1
    clear e
    go_enter Tryd.func24, Tryd.ntmps24
    go_wp2
    go_ret2
    exact ⟨rfl, rfl⟩
  by_cases h2 : 65 ≤ c ∧ c ≤ 70
  · have e : dig c = some (c - 55) := by unfold dig; rw [if_neg h1, if_pos h2]
    rw [e]
    obtain ⟨a, b⟩ := h2
    clear e h1
    go_enter Tryd.func24, Tryd.ntmps24
    go_wp2
    go_ret2
    exact ⟨by unfold tup; congr 2; simp; omega, rfl⟩
  by_cases h3 : 97 ≤ c ∧ c ≤ 102
  · have e : dig c = some (c - 87) := by unfold dig; rw [if_neg h1, if_neg h2, if_pos h3]
    rw [e]
    obtain ⟨a, b⟩ := h3
    clear e h1 h2
    go_enter Tryd.func24, Tryd.ntmps24
    go_wp2
    go_ret2
    exact ⟨by unfold tup; congr 2; simp; omega, rfl⟩
  · have e : dig c = none := by unfold dig; rw [if_neg h1, if_neg h2, if_neg h3]
    rw [e]
    clear e
    go_enter Tryd.func24, Tryd.ntmps24
    go_wp2
    all_goals go_ret2
    all_goals first | exact ⟨rfl, rfl⟩ | (exfalso; omega)

/-- A text's bytes. -/
def bl (s : ByteArray) : List Int := s.data.toList.map fun b => (b.toNat : Int)
theorem bl_len (s : ByteArray) : (bl s).length = s.size := by
  unfold bl
  rw [List.length_map, Array.length_toList]
  rfl
theorem bl_get (s : ByteArray) (k : Nat) (h : k < s.size) : (bl s).getD k 0 = ((s[k]'h).toNat : Int) := by
  unfold bl
  rw [List.getD_eq_getElem?_getD, List.getElem?_map, List.getElem?_eq_getElem (by rw [Array.length_toList]; exact h), Option.map_some, Option.getD_some, Array.getElem_toList]
  rfl
def stepV (o : Option Int) (c : Int) : Option Int := o.bind fun n => (dig c).map fun d => 16 * n + d
def valV (l : List Int) : Option Int := l.foldl stepV (some 0)
theorem val_snoc {l : List Int} {k : Nat} (hk : k < l.length) : valV (l.take (k + 1)) = stepV (valV (l.take k)) (l.getD k 0) := by
  unfold valV
  rw [List.take_add_one, List.getElem?_eq_getElem hk, List.foldl_append, List.getD_eq_getElem?_getD, List.getElem?_eq_getElem hk]
  rfl
theorem val_none {l : List Int} {k : Nat} (h : valV (l.take k) = none) : valV l = none := by
  have e : ∀ t : List Int, t.foldl stepV none = none := by
    intro t
    induction t with
    | nil => rfl
    | cons x t ih => exact ih
  have : valV l = (l.drop k).foldl stepV (valV (l.take k)) := by
    unfold valV
    rw [← List.foldl_append, List.take_append_drop]
  rw [this, h, e]
/-- The code point that a field says. -/
def codeV (l : List Int) : Option Int := if 4 ≤ l.length ∧ l.length ≤ 6 then (valV l).bind fun n => if n ≤ 1114111 then some n else none else none

set_option maxHeartbeats 4000000 in
theorem refCode_any (s : ByteArray) (w : World) (hs : s.size ≤ 9223372036854775807) : Calls Tryd.prog 11 #[.string s] w fun e w' => e = .returned (tup (codeV (bl s))) ∧ w = w' := by
  have hl := bl_len s
  by_cases h46 : 4 ≤ s.size ∧ s.size ≤ 6
  · obtain ⟨h4, h6⟩ := h46
    go_enter Tryd.func11, Tryd.ntmps11
    go_wp2
    go_loopw [4, 5] (fun s4 i wr => ∃ (k : Nat) (n : Int), s4 = .int .i32 n ∧ i = .int .i64 k ∧ k ≤ s.size ∧ 0 ≤ n ∧ n < 16 ^ k ∧ wr = w ∧ Hid (valV ((bl s).take k) = some n)) (fun _ i _ => s.size - (intOf i).toNat)
    case atStart => exact ⟨0, 0, rfl, rfl, Nat.zero_le _, by omega, by decide, rfl, Lib.hid rfl⟩
    case round =>
      obtain ⟨k, n, rfl, rfl, hk, hn0, hn1, rfl, HV⟩ := hrel
      have hn2 : n < 16777216 := by
        have h1 : (16 : Int) ^ k ≤ 16 ^ 6 := by
          have : k = 0 ∨ k = 1 ∨ k = 2 ∨ k = 3 ∨ k = 4 ∨ k = 5 ∨ k = 6 := by omega
          rcases this with rfl | rfl | rfl | rfl | rfl | rfl | rfl <;> decide
        have h2 : (16 : Int) ^ 6 = 16777216 := by decide
        omega
      by_cases hlt : k < s.size
      · have hb := bl_get s k hlt
        have hbb := (s[k]'hlt).toNat_lt
        have HS := Lib.hid (val_snoc (l := bl s) (k := k) (by omega))
        rw [hb, HV.out] at HS
        have hpow : (16 : Int) ^ (k + 1) = 16 * 16 ^ k := by rw [Int.pow_succ]; omega
        have HN : Hid (dig ((s[k]'hlt).toNat : Int) = none → codeV (bl s) = none) := Lib.hid fun e => by
          have h1 : valV ((bl s).take (k + 1)) = none := by rw [HS.out]; unfold stepV; rw [e]; rfl
          unfold codeV
          rw [val_none h1]
          split <;> rfl
        have HY : Hid (∀ d, dig ((s[k]'hlt).toNat : Int) = some d → valV ((bl s).take (k + 1)) = some (16 * n + d) ∧ 16 * n + d < 16 ^ (k + 1)) := Lib.hid fun d e => by
          have := dig_le e
          refine ⟨by rw [HS.out]; unfold stepV; rw [e]; rfl, by omega⟩
        clear HS hpow hn1 HV
        clear hb
        generalize hc : ((s[k]'hlt).toNat) = c at *
        by_cases h1 : 48 ≤ (c : Int) ∧ (c : Int) ≤ 57
        · have HD := Lib.hid (HY.out (c - 48) (by unfold dig; rw [if_pos h1]))
          obtain ⟨a, b⟩ := h1
          clear HN HY
          go_wp2
          go_roundw
          case rel => exact ⟨k + 1, 16 * n + (c - 48), by go_num, by go_num, by omega, by omega, HD.out.2, by trivial, Lib.hid HD.out.1⟩
          case measure => simp [intOf]; omega
        by_cases h2 : 65 ≤ (c : Int) ∧ (c : Int) ≤ 70
        · have HD := Lib.hid (HY.out (c - 55) (by unfold dig; rw [if_neg h1, if_pos h2]))
          obtain ⟨a, b⟩ := h2
          clear HN HY h1
          go_wp2
          go_roundw
          case rel => exact ⟨k + 1, 16 * n + (c - 55), by go_num, by go_num, by omega, by omega, HD.out.2, by trivial, Lib.hid HD.out.1⟩
          case measure => simp [intOf]; omega
        by_cases h3 : 97 ≤ (c : Int) ∧ (c : Int) ≤ 102
        · have HD := Lib.hid (HY.out (c - 87) (by unfold dig; rw [if_neg h1, if_neg h2, if_pos h3]))
          obtain ⟨a, b⟩ := h3
          clear HN HY h1 h2
          go_wp2
          go_roundw
          case rel => exact ⟨k + 1, 16 * n + (c - 87), by go_num, by go_num, by omega, by omega, HD.out.2, by trivial, Lib.hid HD.out.1⟩
          case measure => simp [intOf]; omega
        · have HD := Lib.hid (HN.out (by unfold dig; rw [if_neg h1, if_neg h2, if_neg h3]))
          clear HN HY
          go_wp2
          all_goals first
            | (go_ret2; exact ⟨by rw [HD.out]; rfl, rfl⟩)
            | (exfalso; omega)
      · have : k = s.size := by omega
        subst this
        have hv := HV.out
        rw [List.take_of_length_le (by omega)] at hv
        have hcv : codeV (bl s) = if n ≤ 1114111 then some n else none := by
          unfold codeV
          rw [if_pos (by omega), hv]
          rfl
        have HC := Lib.hid hcv
        clear hcv hv HV hn1
        by_cases hn : n ≤ 1114111
        · go_wp2
          go_ret2
          exact ⟨by rw [HC.out, if_pos hn]; rfl, rfl⟩
        · go_wp2
          go_ret2
          exact ⟨by rw [HC.out, if_neg (by omega)]; rfl, rfl⟩
  · have e : codeV (bl s) = none := by unfold codeV; rw [if_neg (by rw [hl]; exact h46)]
    rw [e]
    go_enter Tryd.func11, Tryd.ntmps11
    go_wp2
    all_goals go_ret2
    all_goals first | exact ⟨rfl, rfl⟩ | (exfalso; omega)

theorem or_dig {n d : Int} (h0 : 0 ≤ n) (h1 : n < 1048576) (d0 : 0 ≤ d) (d1 : d ≤ 15) : bits BinOp.or IntKind.i32 (n * 16) d = 16 * n + d := by
  obtain ⟨a, rfl⟩ := Int.eq_ofNat_of_zero_le h0
  obtain ⟨b, rfl⟩ := Int.eq_ofNat_of_zero_le d0
  have e : ((a : Int) * 16) = ((2 ^ 4 * a : Nat) : Int) := by omega
  rw [e]
  show IntKind.i32.wrap ((BitVec.ofInt 32 ((2 ^ 4 * a : Nat) : Int) ||| BitVec.ofInt 32 (b : Int)).toNat : Int) = _
  rw [BitVec.toNat_or, ofInt_u32 _ (by omega), ofInt_u32 _ (by omega), ← Nat.two_pow_add_eq_or_of_lt (by omega), IntWalk.i32_in _ (by omega)]
  omega
theorem below_iter (w : World) (s : ByteArray) (pos : Nat) : Below w.heap.size w (w.iter s pos) := (Below.refl _ _).alloc (Nat.le_refl _) _

set_option maxHeartbeats 4000000 in
theorem code_any (s : ByteArray) (w : World) (hs : s.size ≤ 9223372036854775807) : Calls Tryd.prog 10 #[.string s] w fun e w' => e = .returned (tup (codeV (bl s))) ∧ Below w.heap.size w w' := by
  have hl := bl_len s
  go_enter Tryd.func10, Tryd.ntmps10
  go_wp2
  go_loopw [4, 5] (fun s4 i wr => ∃ (k : Nat) (n : Int), s4 = .int .i32 n ∧ i = .int .i64 k ∧ k ≤ s.size ∧ k ≤ 6 ∧ 0 ≤ n ∧ n < 16 ^ k ∧ wr = w.iter s k ∧ Hid (valV ((bl s).take k) = some n)) (fun _ i _ => s.size - (intOf i).toNat)
  case atStart => exact ⟨0, 0, rfl, rfl, Nat.zero_le _, by omega, by omega, by decide, rfl, Lib.hid rfl⟩
  case round =>
    obtain ⟨k, n, rfl, rfl, hk, hk6, hn0, hn1, rfl, HV⟩ := hrel
    have hn2 : n < 16777216 := by
      have h1 : (16 : Int) ^ k ≤ 16 ^ 6 := by
        have : k = 0 ∨ k = 1 ∨ k = 2 ∨ k = 3 ∨ k = 4 ∨ k = 5 ∨ k = 6 := by omega
        rcases this with rfl | rfl | rfl | rfl | rfl | rfl | rfl <;> decide
      have h2 : (16 : Int) ^ 6 = 16777216 := by decide
      omega
    have hn3 : k < 6 → n < 1048576 := fun h => by
      have h1 : (16 : Int) ^ k ≤ 16 ^ 5 := by
        have : k = 0 ∨ k = 1 ∨ k = 2 ∨ k = 3 ∨ k = 4 ∨ k = 5 := by omega
        rcases this with rfl | rfl | rfl | rfl | rfl | rfl <;> decide
      have h2 : (16 : Int) ^ 5 = 1048576 := by decide
      omega
    by_cases hlt : k < s.size
    · have hb := bl_get s k hlt
      have hbb := (s[k]'hlt).toNat_lt
      have HS := Lib.hid (val_snoc (l := bl s) (k := k) (by omega))
      rw [hb, HV.out] at HS
      have hpow : (16 : Int) ^ (k + 1) = 16 * 16 ^ k := by rw [Int.pow_succ]; omega
      have HN : Hid (dig ((s[k]'hlt).toNat : Int) = none → codeV (bl s) = none) := Lib.hid fun e => by
        have h1 : valV ((bl s).take (k + 1)) = none := by rw [HS.out]; unfold stepV; rw [e]; rfl
        unfold codeV
        rw [val_none h1]
        split <;> rfl
      have HY : Hid (∀ d, dig ((s[k]'hlt).toNat : Int) = some d → valV ((bl s).take (k + 1)) = some (16 * n + d) ∧ 16 * n + d < 16 ^ (k + 1)) := Lib.hid fun d e => by
        have := dig_le e
        refine ⟨by rw [HS.out]; unfold stepV; rw [e]; rfl, by omega⟩
      clear HS hpow hn1 HV hb
      by_cases hc : (s[k]'hlt).toNat < 128
      · have hnx : ∀ ty, (Instr.next (.pointer (some ⟨w.heap.size, 0, none⟩)) true ty).run Tryd.prog (w.iter s k) = _ := fun ty => run_next_ascii w s k ty hlt hc
        generalize (s[k]'hlt).toNat = c at *
        cases hd : dig (c : Int) with
        | none =>
          have HD := Lib.hid (HN.out hd)
          have HG : Hid (∀ W, Calls Tryd.prog 24 #[.int .i32 c] W fun e w' => e = .returned (.tuple #[.int .i32 0, .bool false]) ∧ W = w') := Lib.hid fun W => by have := digit_any c W; rwa [hd] at this
          clear HN HY hd
          go_wp2_with (go_at_call 24; refine (HG.out _).mono ?_; rintro e w' ⟨rfl, rfl⟩)
          go_ret2
          exact ⟨by rw [HD.out]; rfl, below_iter _ _ _⟩
        | some d =>
          have HG : Hid (∀ W, Calls Tryd.prog 24 #[.int .i32 c] W fun e w' => e = .returned (.tuple #[.int .i32 d, .bool true]) ∧ W = w') := Lib.hid fun W => by have := digit_any c W; rwa [hd] at this
          have HD := Lib.hid (HY.out d hd)
          obtain ⟨d0, d1, _, _⟩ := dig_le hd
          clear HN HY hd
          by_cases h6 : k = 6
          · subst h6
            have HC : Hid (codeV (bl s) = none) := Lib.hid (by unfold codeV; rw [if_neg (by omega)])
            go_wp2_with (go_at_call 24; refine (HG.out _).mono ?_; rintro e w' ⟨rfl, rfl⟩)
            go_ret2
            exact ⟨by rw [HC.out]; rfl, below_iter _ _ _⟩
          · have hn4 := hn3 (by omega)
            have hk5 : k < 6 := by omega
            clear hn3
            go_wp2_with (go_at_call 24; refine (HG.out _).mono ?_; rintro e w' ⟨rfl, rfl⟩)
            rw [or_dig hn0 hn4 d0 d1]
            go_roundw
            case rel => exact ⟨k + 1, 16 * n + d, by go_num, by go_num, by omega, by omega, by omega, HD.out.2, by trivial, Lib.hid HD.out.1⟩
            case measure => simp [intOf]; omega
      · have hnx : ∀ ty, (Instr.next (.pointer (some ⟨w.heap.size, 0, none⟩)) true ty).run Tryd.prog (w.iter s k) = _ := fun ty => run_next_any w s k ty hlt
        obtain ⟨hh, _⟩ := decode_high s k hlt (by omega)
        have HD := Lib.hid (HN.out (by unfold dig; rw [if_neg (by omega), if_neg (by omega), if_neg (by omega)]))
        clear HN HY hc
        generalize (Utf8.decode s k).1 = c at *
        generalize (Utf8.decode s k).2 = wd at *
        have hdn : dig (c : Int) = none := by unfold dig; rw [if_neg (by omega), if_neg (by omega), if_neg (by omega)]
        have HG : Hid (∀ W, Calls Tryd.prog 24 #[.int .i32 c] W fun e w' => e = .returned (.tuple #[.int .i32 0, .bool false]) ∧ W = w') := Lib.hid fun W => by have := digit_any c W; rwa [hdn] at this
        clear hdn
        go_wp2_with (go_at_call 24; refine (HG.out _).mono ?_; rintro e w' ⟨rfl, rfl⟩)
        go_ret2
        exact ⟨by rw [HD.out]; rfl, below_iter _ _ _⟩
    · have hnx : ∀ ty, (Instr.next (.pointer (some ⟨w.heap.size, 0, none⟩)) true ty).run Tryd.prog (w.iter s k) = _ := fun ty => run_next_end w s k ty hlt
      have : k = s.size := by omega
      have hv := HV.out
      rw [List.take_of_length_le (by omega)] at hv
      have HC : Hid (codeV (bl s) = if 4 ≤ k ∧ n ≤ 1114111 then some n else none) := Lib.hid (by
        unfold codeV
        rw [hl, ← this, hv]
        by_cases h4 : 4 ≤ k
        · rw [if_pos ⟨h4, hk6⟩]
          by_cases h5 : n ≤ 1114111
          · rw [if_pos ⟨h4, h5⟩]; simp [h5]
          · rw [if_neg (fun h => h5 h.2)]; simp [h5]
        · rw [if_neg (fun h => h4 h.1), if_neg (fun h => h4 h.1)])
      clear hv HV hn1 hn3 this hk
      by_cases h4 : k < 4
      · go_wp2
        go_ret2
        exact ⟨by rw [HC.out, if_neg (by omega)]; rfl, below_iter _ _ _⟩
      by_cases h5 : n ≤ 1114111
      · go_wp2
        go_ret2
        exact ⟨by rw [HC.out, if_pos ⟨by omega, h5⟩]; rfl, below_iter _ _ _⟩
      · go_wp2
        go_ret2
        exact ⟨by rw [HC.out, if_neg (by omega)]; rfl, below_iter _ _ _⟩
end Go.Proofs.YtppmjlfecbaicaaDoor
