/- A log: its looks; one more. -/
import Derived.Test.YtniaijgejljjbaaL8
namespace Go.Proofs.Ytniaijgejljjbaa.Tlv
open Go.RowKit
set_option maxRecDepth 100000
set_option linter.unusedVariables false
set_option linter.unusedSimpArgs false

theorem none_is (g : Nat) (m : Bool) (x y z : Value) (w : World) (h : Blk w g 54 #[.bool m, x, y, z]) : Calls Try.prog 35 #[.pointer (some ⟨g, 0, none⟩)] w fun e w' => e = .returned (.bool (!m)) ∧ w = w' := by
  have c0 : w.cell? ⟨g, 0, none⟩ = some (.bool m) := h.cell 0
  clear h
  cases m <;>
  · go_enter Try.func35, Try.ntmps35
    go_wp2
    go_ret
    exact ⟨rfl, rfl⟩
theorem none_nil (w : World) : Calls Try.prog 35 #[.pointer none] w fun e w' => e = .returned (.bool true) ∧ w = w' := by
  go_enter Try.func35, Try.ntmps35
  go_wp2
  go_ret
  exact ⟨rfl, rfl⟩
theorem base_is (g : Nat) (b : Int) (y z : Value) (w : World) (h : Blk w g 54 #[.bool true, .int .u64 b, y, z]) : Calls Try.prog 19 #[.pointer (some ⟨g, 0, none⟩)] w fun e w' => e = .returned (.int .u64 b) ∧ w = w' := by
  have c1 : w.cell? ⟨g, 1, none⟩ = some (.int .u64 b) := h.cell 1
  have HN := Lib.hid (none_is g true _ _ _ w h)
  clear h
  go_enter Try.func19, Try.ntmps19
  go_wp2_with (go_at_call 35; (with_reducible refine HN.out.mono ?_); rintro e w1 ⟨rfl, rfl⟩)
  go_ret
  exact ⟨rfl, rfl⟩
theorem len_is (g : Nat) (x z : Value) (A : Option Addr) (k c : Nat) (w : World) (h : Blk w g 54 #[.bool true, x, .slice A k c, z]) : Calls Try.prog 14 #[.pointer (some ⟨g, 0, none⟩)] w fun e w' => e = .returned (.int .i64 k) ∧ w = w' := by
  have c2 : w.cell? ⟨g, 2, none⟩ = some (.slice A k c) := h.cell 2
  have HN := Lib.hid (none_is g true _ _ _ w h)
  clear h
  go_enter Try.func14, Try.ntmps14
  go_wp2_with (go_at_call 35; (with_reducible refine HN.out.mono ?_); rintro e w1 ⟨rfl, rfl⟩)
  go_ret
  exact ⟨rfl, rfl⟩
theorem end_is (g b k c : Nat) (A : Option Addr) (z : Value) (w : World) (h : Blk w g 54 #[.bool true, .int .u64 b, .slice A k c, z]) (hb : b ≤ 4611686018427387904) (hk : k ≤ 1000000) : Calls Try.prog 20 #[.pointer (some ⟨g, 0, none⟩)] w fun e w' => e = .returned (.int .u64 (b + k : Nat)) ∧ w = w' := by
  have HB := Lib.hid (base_is g b _ _ w h)
  have HL := Lib.hid (len_is g _ _ A k c w h)
  have h4 : IntKind.u64.wrap ((b : Int) + (k : Int)) = (b : Int) + (k : Int) := by rw [IntKind.wrap_u64]; omega
  have h5 : IntKind.u64.wrap ((k : Int)) = (k : Int) := by rw [IntKind.wrap_u64]; omega
  clear h
  go_enter Try.func20, Try.ntmps20
  go_wp2_with (first
    | (go_at_call 19; (with_reducible refine HB.out.mono ?_); rintro e w1 ⟨rfl, rfl⟩)
    | (go_at_call 14; (with_reducible refine HL.out.mono ?_); rintro e w1 ⟨rfl, rfl⟩))
  go_ret
  exact ⟨by simp, rfl⟩
theorem new_any (w : World) : Calls Try.prog 12 #[] w fun e w' => e = .returned (.pointer (some ⟨w.heap.size, 0, none⟩)) ∧ w' = w.alloc (.cells #[.bool true, .int .u64 0, .slice none 0 0, .int .i64 0] 54) := by
  go_enter Try.func12, Try.ntmps12
  go_wp2
  go_ret
  exact ⟨rfl, rfl⟩
theorem LogS.new (w : World) : LogS (w.alloc (.cells #[.bool true, .int .u64 0, .slice none 0 0, .int .i64 0] 54)) w.heap.size w.heap.size 0 (.slice none 0 0) [] := ⟨Blk.new w 54 _, nil_row _ _ _⟩
theorem LogS.blk {W : World} {base g : Nat} {b : Int} {v : Value} {l : List Int} (h : LogS W base g b v l) : ∃ A c, v = .slice A l.length c ∧ Blk W g 54 #[.bool true, .int .u64 b, .slice A l.length c, .int .i64 (50 * l.length : Nat)] := by
  obtain ⟨A, c, rfl, _, _⟩ := h.2.rd0
  exact ⟨A, c, rfl, h.1⟩
set_option maxHeartbeats 4000000 in
theorem append_ok (g base b : Nat) (n : Int) (v : Value) (l : List Int) (w : World) (hs : LogS w base g b v l) (hb : base ≤ g) (hl : l.length < 4096) (hbb : b ≤ 4611686018427387904) (hn : 0 ≤ n) (hn2 : n < 18446744073709551616) :
    Calls Try.prog 13 #[.pointer (some ⟨g, 0, none⟩), rqV n] w fun e w' => e = .returned (.tuple #[.int .u64 (b + (l.length + 1) : Nat), .int .i64 0]) ∧ (∃ v', LogS w' base g b v' (l ++ [n])) ∧ Below base w w' ∧ ∀ b' cs, Blk w b' 42 cs → Blk w' b' 42 cs := by
  have hb1 := (Below.refl w.heap.size w).alloc (Nat.le_refl _) (.cells #[.int .u64 1, .int .u64 n, .int .i64 6, .string ⟨#[97]⟩, .string ⟨#[]⟩, .slice none 0 0, .slice none 0 0, .slice none 0 0, .int .i64 0] 42)
  have k1 := Blk.new w 42 #[.int .u64 1, .int .u64 n, .int .i64 6, .string ⟨#[97]⟩, .string ⟨#[]⟩, .slice none 0 0, .slice none 0 0, .slice none 0 0, .int .i64 0]
  have hs1 := hs.on hb1
  have hgl := hs.1.lt
  have HN := Lib.hid (none_is g true _ _ _ _ hs1.1)
  have a0 := k1.cell 0
  have a1 := k1.cell 1
  have a2 := k1.cell 2
  have a3 := k1.cell 3
  have a4 := k1.cell 4
  have a5 := k1.cell 5
  have a6 := k1.cell 6
  have a7 := k1.cell 7
  have a8 := k1.cell 8
  simp only [List.getElem?_toArray, List.getElem?_cons_zero, List.getElem?_cons_succ] at a0 a1 a2 a3 a4 a5 a6 a7 a8
  have HB := Lib.hid (And.intro hb1 hs1)
  have HNN := Lib.hid (And.intro hn hn2)
  have hbw : base ≤ w.heap.size := by omega
  have hz1 : w.heap.size ≤ (w.alloc (.cells #[.int .u64 1, .int .u64 n, .int .i64 6, .string ⟨#[97]⟩, .string ⟨#[]⟩, .slice none 0 0, .slice none 0 0, .slice none 0 0, .int .i64 0] 42)).heap.size := by simp
  clear hs hs1 hb1 hn hn2 k1
  go_enter Try.func13, Try.ntmps13
  go_wp2_with (first
    | (go_at_call 35; (with_reducible refine HN.out.mono ?_); rintro e w1 ⟨rfl, rfl⟩)
    | (go_at_call 26; (with_reducible refine (itemOf_any n _ HNN.out.1 HNN.out.2).mono ?_); clear a0 a1 a2 a3 a4 a5 a6 a7 a8; rintro e w2 ⟨rfl, hb2⟩; have hb3 := hb2.alloc hb2.size (.cells #[.int .u64 1, .int .u64 n, .int .i64 6, .string ⟨#[97]⟩, .string ⟨#[]⟩, .slice none 0 0, .slice none 0 0, .slice none 0 0, .int .i64 0, .int .i64 50] 66); have HS3 := Lib.hid (HB.out.2.on hb3); have HB3 := Lib.hid ((HB.out.1.mono hbw).trans (hb3.mono (Nat.le_trans hbw hz1))); have HK3 := Lib.hid (HB.out.1.trans (hb3.mono hz1)); have HP := Lib.hid (put_ok g base b n v l _ HS3.out hb hl); have k3 := Blk.new w2 66 #[.int .u64 1, .int .u64 n, .int .i64 6, .string ⟨#[97]⟩, .string ⟨#[]⟩, .slice none 0 0, .slice none 0 0, .slice none 0 0, .int .i64 0, .int .i64 50]; have i0 := k3.cell 0; have i1 := k3.cell 1; have i2 := k3.cell 2; have i3 := k3.cell 3; have i4 := k3.cell 4; have i5 := k3.cell 5; have i6 := k3.cell 6; have i7 := k3.cell 7; have i8 := k3.cell 8; have i9 := k3.cell 9; simp only [List.getElem?_toArray, List.getElem?_cons_zero, List.getElem?_cons_succ] at i0 i1 i2 i3 i4 i5 i6 i7 i8 i9; clear hb2 hb3 k3)
    | (go_at_call 27; (with_reducible refine HP.out.mono ?_); clear HP i0 i1 i2 i3 i4 i5 i6 i7 i8 i9; rintro e w4 ⟨rfl, ⟨v4, hs4⟩, hb4, hkp4⟩; have HB4 := Lib.hid (HB3.out.trans hb4); have HKP := Lib.hid hkp4; clear hkp4; have HS4 := Lib.hid hs4; obtain ⟨A4, c4, rfl, hk4⟩ := hs4.blk; have HEN := Lib.hid (end_is g b _ c4 A4 _ w4 hk4 hbb (by rw [List.length_append, List.length_singleton]; omega)); clear hs4 hk4 hb4)
    | (go_at_call 20; (with_reducible refine HEN.out.mono ?_); rintro e w5 ⟨rfl, rfl⟩))
  go_ret2
  exact ⟨by simp, ⟨_, HS4.out⟩, HB4.out, fun b' cs h => HKP.out b' cs (h.on HK3.out)⟩
set_option maxHeartbeats 4000000 in
theorem append_full (g base b : Nat) (n : Int) (v : Value) (l : List Int) (w : World) (hs : LogS w base g b v l) (hb : base ≤ g) (hl : l.length = 4096) (hn : 0 ≤ n) (hn2 : n < 18446744073709551616) :
    Calls Try.prog 13 #[.pointer (some ⟨g, 0, none⟩), rqV n] w fun e w' => e = .returned (.tuple #[.int .u64 0, .int .i64 10]) ∧ Below w.heap.size w w' := by
  have hb1 := (Below.refl w.heap.size w).alloc (Nat.le_refl _) (.cells #[.int .u64 1, .int .u64 n, .int .i64 6, .string ⟨#[97]⟩, .string ⟨#[]⟩, .slice none 0 0, .slice none 0 0, .slice none 0 0, .int .i64 0] 42)
  have k1 := Blk.new w 42 #[.int .u64 1, .int .u64 n, .int .i64 6, .string ⟨#[97]⟩, .string ⟨#[]⟩, .slice none 0 0, .slice none 0 0, .slice none 0 0, .int .i64 0]
  have hs1 := hs.on hb1
  have HN := Lib.hid (none_is g true _ _ _ _ hs1.1)
  have a0 := k1.cell 0
  have a1 := k1.cell 1
  have a2 := k1.cell 2
  have a3 := k1.cell 3
  have a4 := k1.cell 4
  have a5 := k1.cell 5
  have a6 := k1.cell 6
  have a7 := k1.cell 7
  have a8 := k1.cell 8
  simp only [List.getElem?_toArray, List.getElem?_cons_zero, List.getElem?_cons_succ] at a0 a1 a2 a3 a4 a5 a6 a7 a8
  have HB := Lib.hid (And.intro hb1 hs1)
  have HNN := Lib.hid (And.intro hn hn2)
  have HL := Lib.hid hl
  have hz1 : w.heap.size ≤ (w.alloc (.cells #[.int .u64 1, .int .u64 n, .int .i64 6, .string ⟨#[97]⟩, .string ⟨#[]⟩, .slice none 0 0, .slice none 0 0, .slice none 0 0, .int .i64 0] 42)).heap.size := by simp
  clear hs hs1 hb1 hn hn2 k1 hl
  go_enter Try.func13, Try.ntmps13
  go_wp2_with (first
    | (go_at_call 35; (with_reducible refine HN.out.mono ?_); rintro e w1 ⟨rfl, rfl⟩)
    | (go_at_call 26; (with_reducible refine (itemOf_any n _ HNN.out.1 HNN.out.2).mono ?_); clear a0 a1 a2 a3 a4 a5 a6 a7 a8; rintro e w2 ⟨rfl, hb2⟩; have hb3 := hb2.alloc hb2.size (.cells #[.int .u64 1, .int .u64 n, .int .i64 6, .string ⟨#[97]⟩, .string ⟨#[]⟩, .slice none 0 0, .slice none 0 0, .slice none 0 0, .int .i64 0, .int .i64 50] 66); have HS3 := Lib.hid (HB.out.2.on hb3); have HB3 := Lib.hid (HB.out.1.trans (hb3.mono hz1)); have HP := Lib.hid (put_full g base b n v l _ HS3.out HL.out); have k3 := Blk.new w2 66 #[.int .u64 1, .int .u64 n, .int .i64 6, .string ⟨#[97]⟩, .string ⟨#[]⟩, .slice none 0 0, .slice none 0 0, .slice none 0 0, .int .i64 0, .int .i64 50]; have i0 := k3.cell 0; have i1 := k3.cell 1; have i2 := k3.cell 2; have i3 := k3.cell 3; have i4 := k3.cell 4; have i5 := k3.cell 5; have i6 := k3.cell 6; have i7 := k3.cell 7; have i8 := k3.cell 8; have i9 := k3.cell 9; simp only [List.getElem?_toArray, List.getElem?_cons_zero, List.getElem?_cons_succ] at i0 i1 i2 i3 i4 i5 i6 i7 i8 i9; clear hb2 hb3 k3)
    | (go_at_call 27; (with_reducible refine HP.out.mono ?_); clear HP i0 i1 i2 i3 i4 i5 i6 i7 i8 i9; rintro e w4 ⟨rfl, hb4⟩; have HB4 := Lib.hid (HB3.out.trans (hb4.mono HB3.out.size)); clear hb4))
  go_ret2
  exact ⟨rfl, HB4.out⟩
end Go.Proofs.Ytniaijgejljjbaa.Tlv
