/- The chapter's tree of five keys. -/
import Derived.Test.YtpldeobobfbkiaaV14
import Derived.Test.YtpldeobobfbkiaaV13
namespace Go.Proofs.Ytpldeobobfbkiaa.Tlv
open Go.RowKit
set_option maxRecDepth 100000
set_option linter.unusedVariables false
set_option linter.unusedSimpArgs false

set_option maxHeartbeats 8000000 in
theorem known_any (w : World) : Calls Try.prog 13 #[] w fun e w' => e = .returned (.bool true) ∧ Below w.heap.size w w' := by
  have hw : ∀ x ∈ [(0 : Int), 1, 2, 3, 4, 5, 6], IntKind.u8.wrap x = x ∧ IntKind.i64.wrap x = x := by decide
  have u1 := (hw 1 (by decide)).1
  have u2 := (hw 2 (by decide)).1
  have u3 := (hw 3 (by decide)).1
  have u4 := (hw 4 (by decide)).1
  have u5 := (hw 5 (by decide)).1
  have i1 := (hw 1 (by decide)).2
  have i2 := (hw 2 (by decide)).2
  have i3 := (hw 3 (by decide)).2
  have i4 := (hw 4 (by decide)).2
  have i5 := (hw 5 (by decide)).2
  have i6 := (hw 6 (by decide)).2
  clear hw
  obtain ⟨n0, hn0⟩ : ∃ n, n = w.heap.size := ⟨_, rfl⟩
  obtain ⟨N, hN⟩ : ∃ n, n = w.heap.size := ⟨_, rfl⟩
  obtain ⟨T, hT⟩ : ∃ n, n = w.heap.size + 1 := ⟨_, rfl⟩
  have hnew := new_any n0 w (by omega)
  rw [← hT, ← hN] at hnew
  rw [← hn0]
  have HN := Lib.hid hnew
  have H00 := Lib.hid (And.intro hn0 (And.intro hN hT))
  clear hnew hn0 hN hT
  go_enter Try.func13, Try.ntmps13
  go_wp2_with (go_at_call 25; with_reducible refine HN.out.mono ?_; rintro e w0 ⟨rfl, st0, bl0⟩; dsimp only; have ST0 := Lib.hid st0; have BL0 := Lib.hid bl0; clear st0 bl0)
  clear HN
  refine wp_loop_rounds 6 ?_
  rw [rounds_succ]
  have KB : Key (w0.alloc (.cells #[.int .u8 1] 5)) w0.heap.size 1 ∧ Below w0.heap.size w0 (w0.alloc (.cells #[.int .u8 1] 5)) := ⟨⟨_, Blk.new w0 5 #[.int .u8 1], rfl⟩, (Below.refl _ _).alloc (Nat.le_refl _) _⟩
  have ST := ST0.out.on KB.2
  have HS := Lib.hid (stepA n0 T N w0.heap.size 1 0 1 1 1 (.slice none 0 0) [] _ ST rfl (by simp) i1 KB.1 (fun X b c hb hk => find0 N b c _ 1 X (ST.n.on hb) hk))
  have FA := Lib.hid (fun k i (hk : Key w0 k i) => ST.key (hk.on KB.2))
  have LO := Lib.hid (And.intro ST.lo ST.le)
  have KB1 := Lib.hid KB
  clear KB ST
  go_wp2_with (go_at_call 4; (with_reducible refine HS.out.mono ?_); rintro e w1 ⟨rfl, v1, b1, c1, st1, k1, f1⟩; dsimp only)
  simp only [List.nil_append, List.cons_append] at st1
  have ST1 := Lib.hid st1
  have BL1 := Lib.hid ((BL0.out.trans (KB1.out.2.mono (by have := ST0.out.le; exact this))).trans (f1.below LO.out.1 LO.out.2))
  have K1_1 := Lib.hid k1
  clear st1 k1 f1 HS FA LO KB1 ST0 BL0
  rw [rounds_succ]
  have KB : Key (w1.alloc (.cells #[.int .u8 2] 5)) w1.heap.size 2 ∧ Below w1.heap.size w1 (w1.alloc (.cells #[.int .u8 2] 5)) := ⟨⟨_, Blk.new w1 5 #[.int .u8 2], rfl⟩, (Below.refl _ _).alloc (Nat.le_refl _) _⟩
  have ST := ST1.out.on KB.2
  have HS := Lib.hid (stepA n0 T N w1.heap.size 1 1 2 2 2 v1 [⟨b1, c1, 1⟩] _ ST rfl (by simp) i2 KB.1 (fun X b c hb hk => find1 N b c n0 _ _ ⟨b1, c1, 1⟩ 1 2 X (ST.n.on hb) (ST.r.on hb) ((K1_1.out.on KB.2).on hb) hk (by decide +kernel)))
  have FA := Lib.hid (fun k i (hk : Key w1 k i) => ST.key (hk.on KB.2))
  have LO := Lib.hid (And.intro ST.lo ST.le)
  have KB1 := Lib.hid KB
  clear KB ST
  go_wp2_with (go_at_call 4; (with_reducible refine HS.out.mono ?_); rintro e w2 ⟨rfl, v2, b2, c2, st2, k2, f2⟩; dsimp only)
  simp only [List.nil_append, List.cons_append] at st2
  have ST2 := Lib.hid st2
  have BL2 := Lib.hid ((BL1.out.trans (KB1.out.2.mono (by have := ST1.out.le; exact this))).trans (f2.below LO.out.1 LO.out.2))
  have K1_2 := Lib.hid (f2.key (K1_1.out.on KB1.out.2) (FA.out _ _ K1_1.out))
  have K2_2 := Lib.hid k2
  clear st2 k2 f2 HS FA LO KB1 ST1 BL1 K1_1
  rw [rounds_succ]
  have KB : Key (w2.alloc (.cells #[.int .u8 3] 5)) w2.heap.size 3 ∧ Below w2.heap.size w2 (w2.alloc (.cells #[.int .u8 3] 5)) := ⟨⟨_, Blk.new w2 5 #[.int .u8 3], rfl⟩, (Below.refl _ _).alloc (Nat.le_refl _) _⟩
  have ST := ST2.out.on KB.2
  have HS := Lib.hid (stepA n0 T N w2.heap.size 1 2 3 3 3 v2 [⟨b1, c1, 1⟩, ⟨b2, c2, 2⟩] _ ST rfl (by simp) i3 KB.1 (fun X b c hb hk => find2 N b c n0 _ _ ⟨b1, c1, 1⟩ ⟨b2, c2, 2⟩ 2 3 X (ST.n.on hb) (ST.r.on hb) ((K2_2.out.on KB.2).on hb) hk (by decide +kernel)))
  have FA := Lib.hid (fun k i (hk : Key w2 k i) => ST.key (hk.on KB.2))
  have LO := Lib.hid (And.intro ST.lo ST.le)
  have KB1 := Lib.hid KB
  clear KB ST
  go_wp2_with (go_at_call 4; (with_reducible refine HS.out.mono ?_); rintro e w3 ⟨rfl, v3, b3, c3, st3, k3, f3⟩; dsimp only)
  simp only [List.nil_append, List.cons_append] at st3
  have ST3 := Lib.hid st3
  have BL3 := Lib.hid ((BL2.out.trans (KB1.out.2.mono (by have := ST2.out.le; exact this))).trans (f3.below LO.out.1 LO.out.2))
  have K1_3 := Lib.hid (f3.key (K1_2.out.on KB1.out.2) (FA.out _ _ K1_2.out))
  have K2_3 := Lib.hid (f3.key (K2_2.out.on KB1.out.2) (FA.out _ _ K2_2.out))
  have K3_3 := Lib.hid k3
  clear st3 k3 f3 HS FA LO KB1 ST2 BL2 K1_2 K2_2
  rw [rounds_succ]
  have KB : Key (w3.alloc (.cells #[.int .u8 4] 5)) w3.heap.size 4 ∧ Below w3.heap.size w3 (w3.alloc (.cells #[.int .u8 4] 5)) := ⟨⟨_, Blk.new w3 5 #[.int .u8 4], rfl⟩, (Below.refl _ _).alloc (Nat.le_refl _) _⟩
  have ST := ST3.out.on KB.2
  have HS := Lib.hid (step4 n0 T N w3.heap.size 1 3 4 v3 ⟨b1, c1, 1⟩ ⟨b2, c2, 2⟩ ⟨b3, c3, 3⟩ _ ST i4 KB.1 (by show (2 : Int) ≠ 3; decide) (K2_3.out.on KB.2) (K3_3.out.on KB.2))
  have KB1 := Lib.hid KB
  clear KB ST
  go_wp2_with (go_at_call 4; (with_reducible refine HS.out.mono ?_); rintro e w4 ⟨rfl, P, R, vP, vC, vR, vN, b4, c4, st4, hvN, k4, bl4, kk4⟩; dsimp only)
  obtain ⟨gN, cN, rfl⟩ := hvN
  have ST4 := Lib.hid st4
  have BL4 := Lib.hid ((BL3.out.trans (KB1.out.2.mono ST3.out.le)).trans bl4)
  have K2_4 := Lib.hid (kk4 _ _ (K2_3.out.on KB1.out.2))
  have K3_4 := Lib.hid (kk4 _ _ (K3_3.out.on KB1.out.2))
  have K4_4 := Lib.hid k4
  clear st4 k4 bl4 kk4 HS KB1 ST3 BL3 K1_3 K2_3 K3_3
  rw [rounds_succ]
  have KB : Key (w4.alloc (.cells #[.int .u8 5] 5)) w4.heap.size 5 ∧ Below w4.heap.size w4 (w4.alloc (.cells #[.int .u8 5] 5)) := ⟨⟨_, Blk.new w4 5 #[.int .u8 5], rfl⟩, (Below.refl _ _).alloc (Nat.le_refl _) _⟩
  have ST := ST4.out.on KB.2
  have HS := Lib.hid (step5 n0 T P N R w4.heap.size 1 4 5 vP vC _ vR ⟨b2, c2, 2⟩ ⟨b3, c3, 3⟩ ⟨b4, c4, 4⟩ _ ST i5 KB.1 (by show (2 : Int) ≠ 3; decide) (K2_4.out.on KB.2) (K4_4.out.on KB.2))
  have KB1 := Lib.hid KB
  clear KB ST
  go_wp2_with (go_at_call 4; (with_reducible refine HS.out.mono ?_); rintro e w5 ⟨rfl, vR5, b5, c5, st5, k5, bl5, kk5⟩; dsimp only)
  have ST5 := Lib.hid st5
  have BL5 := Lib.hid ((BL4.out.trans (KB1.out.2.mono ST4.out.le)).trans bl5)
  have K2_5 := Lib.hid (kk5 _ _ (K2_4.out.on KB1.out.2))
  have K3_5 := Lib.hid (kk5 _ _ (K3_4.out.on KB1.out.2))
  have K4_5 := Lib.hid (kk5 _ _ (K4_4.out.on KB1.out.2))
  clear st5 k5 bl5 kk5 HS KB1 ST4 BL4 K2_4 K3_4 K4_4
  rw [rounds_succ]
  have KB : Key (w5.alloc (.cells #[.int .u8 3] 5)) w5.heap.size 3 ∧ Below w5.heap.size w5 (w5.alloc (.cells #[.int .u8 3] 5)) := ⟨⟨_, Blk.new w5 5 #[.int .u8 3], rfl⟩, (Below.refl _ _).alloc (Nat.le_refl _) _⟩
  have HG := Lib.hid (get_any n0 T P N R w5.heap.size 1 5 vP vC _ vR5 ⟨b2, c2, 2⟩ ⟨b3, c3, 3⟩ ⟨b4, c4, 4⟩ ⟨b5, c5, 5⟩ _ (ST5.out.on KB.2) (K2_5.out.on KB.2) (K3_5.out.on KB.2) (K4_5.out.on KB.2) KB.1)
  have KB1 := Lib.hid KB.2
  clear KB
  go_wp2_with (first
    | (go_at_call 5; (with_reducible refine HG.out.mono ?_); rintro e w6 ⟨rfl, bl6⟩; dsimp only; have B6 := Lib.hid (KB1.out.trans (bl6.mono KB1.out.size)); have ST6 := Lib.hid (ST5.out.on B6.out); clear bl6)
    | (go_at_call 9; (with_reducible refine (len_tree _ _ _ _ _ ST6.out.t).mono ?_); rintro e wx ⟨rfl, rfl⟩; dsimp only)
    | (go_at_call 11; (with_reducible refine (shape_any _ _ _ _ _ _ _ 5 _ _ _ _ _ _ _ _ ST6.out).mono ?_); rintro e w7 ⟨gS, cS, g1, c1', g2, c2', rfl, s0, s1, a0, b0', b1', bl7⟩; dsimp only; have HSS := Lib.hid (sound_any gS cS g1 c1' g2 c2' w7 s0 s1 a0 b0' b1'); have B7 := Lib.hid (B6.out.trans (bl7.mono B6.out.size)); clear s0 s1 a0 b0' b1' bl7)
    | (go_at_call 26; (with_reducible refine HSS.out.mono ?_); rintro e wx ⟨rfl, rfl⟩; dsimp only))
  go_ret
  exact ⟨rfl, BL5.out.trans (B7.out.mono ST5.out.le)⟩
end Go.Proofs.Ytpldeobobfbkiaa.Tlv
