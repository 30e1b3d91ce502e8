/- The law on code points, ranges, rows, and their texts. -/
import Derived.Test.YtppmjlfecbaicaaDoorLaw1
import Derived.Test.YtppmjlfecbaicaaDoorRowTP
import Derived.Test.YtppmjlfecbaicaaDoorRngR
import Derived.Test.YtppmjlfecbaicaaDoorRng
namespace Go.Proofs.YtppmjlfecbaicaaDoor
open Go.RowKit
set_option linter.unusedVariables false
set_option linter.unusedSimpArgs false

/-- A contract, from a world on. -/
abbrev Acc (w : World) (f : FuncId) (args : Array Value) (u : Value) : Prop := ∀ W, Below w.heap.size w W → Calls Tryd.prog f args W fun e w' => e = .returned u ∧ Below w.heap.size w w'
theorem acc_below {w : World} {f : FuncId} {args : Array Value} {u : Value} (h : ∀ W, Below w.heap.size w W → Calls Tryd.prog f args W fun e w' => e = .returned u ∧ Below W.heap.size W w') : Acc w f args u := fun W hb => below_acc' hb (h W hb) hb.size
theorem acc_same {w : World} {f : FuncId} {args : Array Value} {u : Value} (h : ∀ W, Calls Tryd.prog f args W fun e w' => e = .returned u ∧ W = w') : Acc w f args u := fun W hb => (h W).mono fun e w' ⟨h1, h2⟩ => ⟨h1, h2 ▸ hb⟩

set_option maxHeartbeats 16000000 in
set_option maxRecDepth 100000 in
theorem law2_in (s : ByteArray) (r : Int) (A : Option Addr) (c : Nat) (l : List Int) (m : Int) (w : World) (hm : w.cell? ⟨0, 0, none⟩ = some (.int .i64 m)) (hw0 : 0 < w.heap.size)
    (h9 : s.size ≤ 9000) (h3 : l.length ≤ 300) (hr0 : -2147483648 ≤ r) (hr1 : r ≤ 2147483647) (hrd : RdK kR w w.heap.size A l) (hin : ∀ x ∈ l, -2147483648 ≤ x ∧ x ≤ 2147483647) :
    Calls Tryd.prog 4 #[.string s, .int .i32 r, .slice A l.length c] w fun e w' => e = .returned (.bool true) ∧ Below w.heap.size w w' := by
  have H6 : Hid (Acc w 6 #[] (.bool true)) := Lib.hid (acc_below fun W hb => known_any m W ((hb.cell (p := ⟨0, 0, none⟩) hw0).trans hm) (Nat.lt_of_lt_of_le hw0 hb.size))
  have H10 : Hid (Acc w 10 #[.string s] (tup (codeV (bl s)))) := Lib.hid (acc_below fun W hb => code_any s W (by omega))
  have H11 : Hid (Acc w 11 #[.string s] (tup (codeV (bl s)))) := Lib.hid (acc_same fun W => refCode_any s W (by omega))
  have H12 : Hid (Acc w 12 #[.string s] (tup3 (rangeV s))) := Lib.hid (acc_below fun W hb => range_any s m W (by omega) ((hb.cell (p := ⟨0, 0, none⟩) hw0).trans hm))
  have H13 : Hid (Acc w 13 #[.string s] (tup3 (rangeV s))) := Lib.hid (acc_same fun W => refRange_any s W (by omega))
  have H14 : Hid (∀ W, Below w.heap.size w W → Calls Tryd.prog 14 #[.string s] W fun e w' => ∃ v, e = .returned (.tuple #[v, .bool (rowV s).isSome]) ∧ RowK kR w' W.heap.size v ((rowV s).getD []) ∧ Below W.heap.size W w') := Lib.hid fun W hb => row_any s W (by omega)
  have H15 : Hid (∀ W, Below w.heap.size w W → Calls Tryd.prog 15 #[.string s] W fun e w' => ∃ v, e = .returned (.tuple #[v, .bool (rowV s).isSome]) ∧ RowK kR w' W.heap.size v ((rowV s).getD []) ∧ Below W.heap.size W w') := Lib.hid fun W hb => refRow_any s W (by omega)
  have H17 : Hid (Acc w 17 #[.int .i32 r] (.string (textV r))) := Lib.hid (acc_same fun W => codeText_any r W hr0 hr1)
  have H18 : Hid (Acc w 18 #[.int .i32 r] (.string (textV r))) := Lib.hid (acc_below fun W hb => refCodeText_any r W hr0 hr1)
  have H19 : Hid (Acc w 19 #[.slice A l.length c] (.string (rowT l))) := Lib.hid (acc_below fun W hb => rowText_any A c l W ((hrd.below hb).more hb.size) (by omega) hin)
  have H20 : Hid (Acc w 20 #[.slice A l.length c] (.string (rowT l))) := Lib.hid (acc_below fun W hb => refRowText_any A c l W ((hrd.below hb).more hb.size) (by omega) hin)
  have HSM : Hid (∀ (A1 A2 : Option Addr) (c1 c2 n : Nat) (X : List Int) (W : World), n = X.length → n ≤ 1000000000 → RdK kR W W.heap.size A1 X → RdK kR W W.heap.size A2 X → Below w.heap.size w W →
      Calls Tryd.prog 16 #[.slice A1 n c1, .slice A2 n c2] W fun e w' => e = .returned (.bool true) ∧ Below w.heap.size w w') := Lib.hid fun A1 A2 c1 c2 n X W hn hle r1 r2 hb => by
    subst hn
    have h := same_any A1 A2 c1 c2 X X W r1 r2 hle hle
    rw [decide_eq_true rfl] at h
    exact below_acc' hb h hb.size
  have HXL : Hid (((rowV s).getD []).length ≤ 1000000000) := Lib.hid (by
    cases hv : rowV s with
    | none => exact Nat.zero_le _
    | some X =>
      unfold rowV at hv
      split at hv
      · cases hv
      · have h1 := codes_len hv
        have h2 := (pcs_le s (s.size + 1)).2.1
        unfold exts spans at h1
        rw [List.length_map] at h1
        show X.length ≤ _
        omega)
  unfold tup at H10 H11
  unfold tup3 at H12 H13
  generalize (codeV (bl s)).getD 0 = x1 at *
  generalize (codeV (bl s)).isSome = b1 at *
  generalize ((rangeV s).map (·.1)).getD 0 = x2 at *
  generalize ((rangeV s).map (·.2)).getD 0 = x3 at *
  generalize (rangeV s).isSome = b2 at *
  generalize (rowV s).isSome = b3 at *
  generalize (rowV s).getD [] = X at *
  generalize textV r = tr at *
  generalize rowT l = tl' at *
  have hln : l.length ≤ 300 := h3
  generalize l.length = nl at *
  have hb0 : Below w.heap.size w w := Below.refl _ _
  clear hm hrd hin
  go_enter Tryd.func4, Tryd.ntmps4
  go_wp2_with (first
    | (go_at_call 10; (with_reducible refine (H10.out _ (by assumption)).mono ?_); rintro e w2 ⟨rfl, hb2⟩; clear hb0; have hb0 := hb2; clear hb2)
    | (go_at_call 11; (with_reducible refine (H11.out _ (by assumption)).mono ?_); rintro e w2 ⟨rfl, hb2⟩; clear hb0; have hb0 := hb2; clear hb2)
    | (go_at_call 12; (with_reducible refine (H12.out _ (by assumption)).mono ?_); rintro e w2 ⟨rfl, hb2⟩; clear hb0; have hb0 := hb2; clear hb2)
    | (go_at_call 13; (with_reducible refine (H13.out _ (by assumption)).mono ?_); rintro e w2 ⟨rfl, hb2⟩; clear hb0; have hb0 := hb2; clear hb2)
    | (go_at_call 14; (with_reducible refine (H14.out _ (by assumption)).mono ?_); rintro e w2 ⟨v14, rfl, hr14, hb2⟩; obtain ⟨A14, c14, n14, HN14, rfl, _, hd14⟩ := hr14.rdn; have HD14 := Lib.hid hd14; have hbb := hb0.trans (hb2.mono hb0.size); clear hb0 hb2 hr14 hd14; have hb0 := hbb; clear hbb)
    | (go_at_call 15; (with_reducible refine (H15.out _ (by assumption)).mono ?_); rintro e w2 ⟨v15, rfl, hr15, hb2⟩; obtain ⟨A15, c15, n15, HN15, rfl, _, hd15⟩ := hr15.rdn; have hnn : n15 = n14 := HN15.out.trans HN14.out.symm; subst hnn; have hnl : n15 ≤ 1000000000 := HN15.out ▸ HXL.out; have HD15 := Lib.hid hd15; have HD14' := Lib.hid (HD14.out.on hb2); have hbb := hb0.trans (hb2.mono hb0.size); clear hb0 hb2 hr15 hd15; have hb0 := hbb; clear hbb)
    | (go_at_call 16; (refine (HSM.out _ _ _ _ _ X _ HN15.out hnl HD14'.out HD15.out (by assumption)).mono ?_); rintro e w2 ⟨rfl, hb2⟩; clear hb0; have hb0 := hb2; clear hb2)
    | (go_at_call 17; (with_reducible refine (H17.out _ (by assumption)).mono ?_); rintro e w2 ⟨rfl, hb2⟩; clear hb0; have hb0 := hb2; clear hb2)
    | (go_at_call 18; (with_reducible refine (H18.out _ (by assumption)).mono ?_); rintro e w2 ⟨rfl, hb2⟩; clear hb0; have hb0 := hb2; clear hb2)
    | (go_at_call 19; (with_reducible refine (H19.out _ (by assumption)).mono ?_); rintro e w2 ⟨rfl, hb2⟩; clear hb0; have hb0 := hb2; clear hb2)
    | (go_at_call 20; (with_reducible refine (H20.out _ (by assumption)).mono ?_); rintro e w2 ⟨rfl, hb2⟩; clear hb0; have hb0 := hb2; clear hb2)
    | (go_at_call 6; (with_reducible refine (H6.out _ (by assumption)).mono ?_); rintro e w2 ⟨rfl, hb2⟩; clear hb0; have hb0 := hb2; clear hb2))
  go_ret
  exact ⟨rfl, by assumption⟩
set_option maxHeartbeats 4000000 in
set_option maxRecDepth 100000 in
theorem law2_out (s : ByteArray) (r : Int) (A : Option Addr) (c n : Nat) (m : Int) (w : World) (hm : w.cell? ⟨0, 0, none⟩ = some (.int .i64 m)) (hw0 : 0 < w.heap.size)
    (h9 : 9000 < s.size ∨ 300 < n) : Calls Tryd.prog 4 #[.string s, .int .i32 r, .slice A n c] w fun e w' => e = .returned (.bool true) ∧ Below w.heap.size w w' := by
  have H6 := Lib.hid (known_any m w hm hw0)
  by_cases h : 9000 < s.size
  · clear hm h9
    go_enter Tryd.func4, Tryd.ntmps4
    go_wp2_with (go_at_call 6; refine H6.out.mono ?_; rintro e w' ⟨rfl, hb⟩)
    go_ret
    exact ⟨rfl, hb⟩
  · have h2 : s.size ≤ 9000 := by omega
    have h3 : 300 < n := by omega
    clear hm h9 h
    go_enter Tryd.func4, Tryd.ntmps4
    go_wp2_with (go_at_call 6; refine H6.out.mono ?_; rintro e w' ⟨rfl, hb⟩)
    go_ret
    exact ⟨rfl, hb⟩
end Go.Proofs.YtppmjlfecbaicaaDoor
