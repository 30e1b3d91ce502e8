/- An item put below a root of two. -/
import Derived.Test.YtpldeobobfbkiaaV4
namespace Go.Proofs.Ytpldeobobfbkiaa.Tlv
open Go.RowKit
set_option maxRecDepth 100000
set_option linter.unusedVariables false
set_option linter.unusedSimpArgs false

set_option maxHeartbeats 8000000 in
theorem put_inner (n0 T P R gC cP cC b c n cN : Nat) (v : Int) (y z : Value) (A AP : Option Addr) (l : List It) (w : World)
    (hT : Blk w T 24 #[.int .i64 2, y, z]) (hP : Blk w P 44 #[.slice AP 1 cP, .slice (some ⟨gC, 0, none⟩) 2 cC]) (hC : w.cell? ⟨gC, 1, none⟩ = some (.pointer (some ⟨R, 0, none⟩)))
    (hN : Blk w R 44 #[.slice A n cN, .slice none 0 0]) (hr : RowK kI w n0 (.slice A n cN) l) (h0 : n0 ≤ w.heap.size) (hl : l.length ≤ 900) (hn : ((n : Int) == 3) = false)
    (HF1 : ∀ W, Below w.heap.size w W → Calls Try.prog 18 #[.pointer (some ⟨P, 0, none⟩), keyV b c] W fun e w' => e = .returned (.tuple #[.int .i64 1, .bool false]) ∧ Below W.heap.size W w')
    (HF : ∀ W, Below w.heap.size w W → Calls Try.prog 18 #[.pointer (some ⟨R, 0, none⟩), keyV b c] W fun e w' => e = .returned (.tuple #[.int .i64 n, .bool false]) ∧ Below W.heap.size W w') :
    Calls Try.prog 16 #[.pointer (some ⟨T, 0, none⟩), .pointer (some ⟨P, 0, none⟩), .agg #[keyV b c, .int .i64 v]] w (PutOut n0 R (.slice A n cN) (l ++ [⟨b, c, v⟩]) w) := by
  have hb : Below w.heap.size w (w.alloc (.cells #[keyV b c, .int .i64 v] 48)) := (Below.refl _ _).alloc (Nat.le_refl _) _
  have HB := Lib.hid (And.intro hb (And.intro (Blk.new w 48 #[keyV b c, .int .i64 v]) (And.intro (hN.on hb) (hr.on hb))))
  have HX := Lib.hid HF
  have HX1 := Lib.hid (HF1 _ hb)
  have H0 := Lib.hid (And.intro h0 hl)
  have hgc : gC < w.heap.size := block_lt_of_cell hC
  have HT := Lib.hid fun (W : World) (h : Below w.heap.size w W) => And.intro (hT.on h) (And.intro (hP.on h) (And.intro (hN.on h) ((h.cell (p := ⟨gC, 1, none⟩) hgc).trans hC)))
  have HN3 := Lib.hid hn
  clear hb hN hr HF HF1 h0 hl hT hP hC hn hgc
  go_enter Try.func16, Try.ntmps16
  go_wp2
  refine wp_loop_rounds 2 ?_
  rw [rounds_succ]
  go_upto_region 9 with (first
    | (go_at_call 18; with_reducible refine HX1.out.mono ?_; rintro e w1 ⟨rfl, hb1⟩; dsimp only; have HB0 := Lib.hid (And.intro (HB.out.1.trans (hb1.mono HB.out.1.size)) (And.intro (HB.out.2.1.on hb1) (And.intro (HB.out.2.2.1.on hb1) (HB.out.2.2.2.on hb1)))); clear hb1)
    | (go_at_call 19; (with_reducible refine (leaf_any _ _ _ _ _ _ (HT.out _ HB0.out.1).2.1).mono ?_); rintro e w2 ⟨rfl, rfl⟩; dsimp only))
  have p1 := (HT.out _ HB0.out.1).2.1.cell 1
  simp only [List.getElem?_toArray, List.getElem?_cons_zero, List.getElem?_cons_succ] at p1
  have p2 := (HT.out _ HB0.out.1).2.2.2
  go_wp2_with (go_at_call 15; (with_reducible refine (full_any _ _ _ _ _ _ _ _ _ (HT.out _ HB0.out.1).1 (HT.out _ HB0.out.1).2.2.1).mono ?_); rintro e w2 ⟨rfl, m, rfl⟩; dsimp only; rw [HN3.out])
  have HBa := Lib.hid (And.intro (below_drewN HB0.out.1 m) (And.intro (HB0.out.2.1.drewN m) (And.intro (HB0.out.2.2.1.drewN m) (HB0.out.2.2.2.drewN m))))
  have HFr := Lib.hid (Fr.of (S := SL R (.slice A n cN)) HBa.out.1)
  clear HB HB0 HX1 p1 p2
  rw [rounds_succ]
  have HXa := Lib.hid (HX.out _ HBa.out.1)
  have b0 := HBa.out.2.1.cell 0
  simp only [List.getElem?_toArray, List.getElem?_cons_zero, List.getElem?_cons_succ] at b0
  go_upto_region 7 with (first
    | (go_at_call 18; with_reducible refine HXa.out.mono ?_; rintro e wl1 ⟨rfl, hb1⟩; dsimp only; have HB1 := Lib.hid (And.intro (HBa.out.1.trans (hb1.mono HBa.out.1.size)) (And.intro (HBa.out.2.1.on hb1) (And.intro (HBa.out.2.2.1.on hb1) (HBa.out.2.2.2.on hb1)))); have HFr1 := Lib.hid (HFr.out.trans (Fr.of hb1)); clear hb1)
    | (go_at_call 19; (with_reducible refine (leaf_any _ _ _ _ _ _ HB1.out.2.2.1).mono ?_); rintro e wl2 ⟨rfl, rfl⟩; dsimp only))
  clear b0
  have b0 := HB1.out.2.1.cell 0
  have b1 := HB1.out.2.1.cell 1
  have n0c := HB1.out.2.2.1.cell 0
  simp only [List.getElem?_toArray, List.getElem?_cons_zero, List.getElem?_cons_succ] at b0 b1 n0c
  have HC := Lib.hid (insI n0 n cN A l ⟨b, c, v⟩ wl1.heap.size 1 ((wl1.alloc (.cells #[keyV b c, .int .i64 v] 48)).drew) (HB1.out.2.2.2.alloc _).drew (rd_one _ (Blk.new wl1 48 #[keyV b c, .int .i64 v]).drew rfl) (Nat.le_trans H0.out.2 (by decide)) (Nat.le_trans H0.out.1 (Nat.le_trans HB1.out.1.size (by simp))))
  clear HX HXa
  have HNN := Lib.hid ((HB1.out.2.2.1.alloc (.cells #[keyV b c, .int .i64 v] 48)).drew)
  have hne := own_ne (HB1.out.2.2.2.alloc (.cells #[keyV b c, .int .i64 v] 48)).drew HNN.out (by decide)
  have HE := Lib.hid hne
  clear hne
  have n1c := (HB1.out.2.2.1.alloc (.cells #[keyV b c, .int .i64 v] 48)).cell 0
  have n2c := HNN.out.cell 0
  simp only [List.getElem?_toArray, List.getElem?_cons_zero, List.getElem?_cons_succ] at n1c n2c
  have HA := Lib.hid ((Below.refl wl1.heap.size wl1).alloc (Nat.le_refl _) (.cells #[keyV b c, .int .i64 v] 48))
  go_region_law (first
    | (go_simp; (with_reducible refine HC.out.mono ?_); rintro e w4 ⟨v', rfl, hr4, hg4⟩; dsimp only; clear HC b0 b1 n0c n1c n2c; obtain ⟨A4, c4, n4, hn4, rfl, _, _⟩ := hr4.rdn; have kN4 := Lib.hid (HNN.out.grown hg4 (fun e => HE.out e.symm)); have n0c := kN4.out.cell 0; have n0f := kN4.out.frozen 0; simp only [List.getElem?_toArray, List.getElem?_cons_zero, List.getElem?_cons_succ] at n0c; have H4 := Lib.hid (And.intro hr4 hg4); clear hr4 hg4))
  all_goals
    go_wp2
    go_ret2
    have k := kN4.out.set_ 0 (.slice A4 n4 c4)
    refine ⟨_, rfl, by simpa using k, ?_, ?_⟩
    · exact H4.out.1.set (own_ne H4.out.1 kN4.out (by decide)) _
    · refine Fr.set ?_ (.inl rfl) _
      refine Fr.grown (w' := (wl1.alloc (.cells #[keyV b c, .int .i64 v] 48)).drew) (HFr1.out.trans (Fr.of (below_drew HA.out))) H4.out.2 (fun k hk => .inr hk)
end Go.Proofs.Ytpldeobobfbkiaa.Tlv
