/- An item put into a leaf. -/
import Derived.Test.YtpldeobobfbkiaaV3
namespace Go.Proofs.Ytpldeobobfbkiaa.Tlv
open Go.RowKit
set_option maxRecDepth 100000
set_option linter.unusedVariables false
set_option linter.unusedSimpArgs false

theorem below_drew {B : Nat} {a w : World} (h : Below B a w) : Below B a w.drew := ⟨h.os, h.tape, h.output, h.size, h.block⟩
/-- What was written: blocks of S alone. -/
structure Fr (S : Nat → Prop) (w w' : World) : Prop where
  bel : Below 0 w w'
  blk : ∀ k, k < w.heap.size → ¬ S k → w'.heap[k]? = w.heap[k]?
theorem Fr.below {S : Nat → Prop} {w w' : World} {n0 : Nat} (h : Fr S w w') (hS : ∀ k, S k → n0 ≤ k) (hn : n0 ≤ w.heap.size) : Below n0 w w' :=
  ⟨h.bel.os, h.bel.tape, h.bel.output, h.bel.size, fun k hk => h.blk k (by omega) fun hs => by have := hS k hs; omega⟩
theorem Fr.of {S : Nat → Prop} {w w' : World} (h : Below w.heap.size w w') : Fr S w w' := ⟨h.mono (Nat.zero_le _), fun k hk _ => h.block k hk⟩
theorem Fr.trans {S : Nat → Prop} {w w' w'' : World} (h : Fr S w w') (h' : Fr S w' w'') : Fr S w w'' :=
  ⟨h.bel.trans h'.bel, fun k hk hs => (h'.blk k (Nat.lt_of_lt_of_le hk h.bel.size) hs).trans (h.blk k hk hs)⟩
theorem Fr.mono {S S' : Nat → Prop} {w w' : World} (h : Fr S w w') (hs : ∀ k, S k → S' k) : Fr S' w w' := ⟨h.bel, fun k hk hn => h.blk k hk fun h1 => hn (hs k h1)⟩
theorem Fr.set {S : Nat → Prop} {w w' : World} (h : Fr S w w') {g i : Nat} (hg : S g) (u : Value) : Fr S w (w'.setCell ⟨g, i, none⟩ u) :=
  h.trans ⟨(Below.refl 0 _).setCell (p := ⟨g, i, none⟩) (Nat.zero_le _) u, fun k hk hs => Below.heap_setCell _ _ _ _ (fun e => hs (by subst e; exact hg))⟩
theorem Fr.grown {S : Nat → Prop} {w w' w'' : World} {row : Option Nat} (h : Fr S w w') (hg : w'.grownBy w'' row) (hr : ∀ k, row = some k → S k) : Fr S w w'' :=
  h.trans ⟨(Below.refl 0 _).grown hg (Nat.zero_le _) (fun _ _ => Nat.zero_le _), fun k hk hs => hg.block k hk fun e => hs (hr k e.symm)⟩
theorem Fr.row {S : Nat → Prop} {w w' : World} (h : Fr S w w') {α : Type} {K : Kind α} {base : Nat} {v : Value} {l : List α} (hr : RowK K w base v l) (hs : ∀ k, v.ownBlock = some k → ¬ S k) : RowK K w' base v l := by
  refine ⟨hr.1, ?_⟩
  rcases hr.2 with h0 | ⟨g, cap, cur, hv, hg, hh, rest⟩
  · exact .inl h0
  · exact .inr ⟨g, cap, cur, hv, hg, (h.blk g (Array.getElem?_eq_some_iff.1 hh).1 (hs g (by rw [hv]; rfl))).trans hh, rest⟩
theorem Fr.b {S : Nat → Prop} {w w' : World} (h : Fr S w w') {g : Nat} {t : TypeId} {cs : Array Value} (hb : Blk w g t cs) (hs : ¬ S g) : Blk w' g t cs := (h.blk g hb.lt hs).trans hb
theorem Fr.key {S : Nat → Prop} {w w' : World} (h : Fr S w w') {b : Nat} {i : Int} (hk : Key w b i) (hs : ¬ S b) : Key w' b i := hk.kept (h.blk b hk.lt hs)
theorem RowK.set {α : Type} {K : Kind α} {w : World} {base g i : Nat} {v : Value} {l : List α} (h : RowK K w base v l) (hg : v.ownBlock ≠ some g) (u : Value) : RowK K (w.setCell ⟨g, i, none⟩ u) base v l :=
  World.ownsRow.kept h (grownBy_set w ⟨g, i, none⟩ u) (.inr hg)
theorem own_key {w : World} {base : Nat} {e : TypeId} {size n b : Nat} {v : Value} {xs : List Value} {i : Int} (h : w.ownsRow base e size v n xs) (hk : Key w b i) (he : e ≠ 5) : v.ownBlock ≠ some b := by
  obtain ⟨cs, h1, _⟩ := hk
  exact own_ne h h1 he
/-- What a leaf's put writes: the node, and the row of its items. -/
def SL (N : Nat) (v : Value) : Nat → Prop := fun k => k = N ∨ v.ownBlock = some k
def PutOut (n0 N : Nat) (v : Value) (l : List It) (w : World) (e : Ending) (w' : World) : Prop :=
  ∃ v', e = .returned (.tuple #[.int .i64 0, .bool false]) ∧ Blk w' N 44 #[v', .slice none 0 0] ∧ RowK kI w' n0 v' l ∧ Fr (SL N v) w w'
set_option maxHeartbeats 4000000 in
theorem put_leaf (n0 N b c n cN : Nat) (v : Int) (T : Value) (A : Option Addr) (l : List It) (w : World) (hN : Blk w N 44 #[.slice A n cN, .slice none 0 0]) (hr : RowK kI w n0 (.slice A n cN) l) (h0 : n0 ≤ w.heap.size) (hl : l.length ≤ 900)
    (HF : ∀ W, Below w.heap.size w W → Calls Try.prog 18 #[.pointer (some ⟨N, 0, none⟩), keyV b c] W fun e w' => e = .returned (.tuple #[.int .i64 n, .bool false]) ∧ Below W.heap.size W w') :
    Calls Try.prog 16 #[T, .pointer (some ⟨N, 0, none⟩), .agg #[keyV b c, .int .i64 v]] w (PutOut n0 N (.slice A n cN) (l ++ [⟨b, c, v⟩]) w) := by
  have hb : Below w.heap.size w (w.alloc (.cells #[keyV b c, .int .i64 v] 48)) := (Below.refl _ _).alloc (Nat.le_refl _) _
  have HB := Lib.hid (And.intro hb (And.intro (Blk.new w 48 #[keyV b c, .int .i64 v]) (And.intro (hN.on hb) (hr.on hb))))
  have HX := Lib.hid (HF _ hb)
  have H0 := Lib.hid (And.intro h0 hl)
  have hN2 : N < w.heap.size := hN.lt
  have HN2 := Lib.hid hN2
  clear hb hN hr HF h0 hl hN2
  go_enter Try.func16, Try.ntmps16
  go_wp2
  refine wp_loop_rounds 1 ?_
  rw [rounds_succ]
  go_upto_region 7 with (first
    | (go_at_call 18; with_reducible refine HX.out.mono ?_; rintro e w1 ⟨rfl, hb1⟩; dsimp only; have HB1 := Lib.hid (And.intro (HB.out.1.trans (hb1.mono HB.out.1.size)) (And.intro (HB.out.2.1.on hb1) (And.intro (HB.out.2.2.1.on hb1) (HB.out.2.2.2.on hb1)))); clear hb1)
    | (go_at_call 19; (with_reducible refine (leaf_any _ _ _ _ _ _ HB1.out.2.2.1).mono ?_); rintro e w2 ⟨rfl, rfl⟩; dsimp only))
  have b0 := HB1.out.2.1.cell 0
  have b1 := HB1.out.2.1.cell 1
  have n0c := HB1.out.2.2.1.cell 0
  simp only [List.getElem?_toArray, List.getElem?_cons_zero, List.getElem?_cons_succ] at b0 b1 n0c
  obtain ⟨o, ho⟩ : ∃ o : Obj, o = .cells #[keyV b c, .int .i64 v] 48 := ⟨_, rfl⟩
  have HC := Lib.hid (insI n0 n cN A l ⟨b, c, v⟩ w1.heap.size 1 ((w1.alloc (.cells #[keyV b c, .int .i64 v] 48)).drew) (HB1.out.2.2.2.alloc _).drew (rd_one _ (Blk.new w1 48 #[keyV b c, .int .i64 v]).drew rfl) (Nat.le_trans H0.out.2 (by decide)) (Nat.le_trans H0.out.1 (Nat.le_trans HB1.out.1.size (by simp))))
  clear HB HX
  have HNN := Lib.hid ((HB1.out.2.2.1.alloc (.cells #[keyV b c, .int .i64 v] 48)).drew)
  have hne := own_ne (HB1.out.2.2.2.alloc (.cells #[keyV b c, .int .i64 v] 48)).drew HNN.out (by decide)
  have HE := Lib.hid hne
  clear hne
  have n1c := (HB1.out.2.2.1.alloc (.cells #[keyV b c, .int .i64 v] 48)).cell 0
  have n2c := HNN.out.cell 0
  simp only [List.getElem?_toArray, List.getElem?_cons_zero, List.getElem?_cons_succ] at n1c n2c
  have HA := Lib.hid ((Below.refl w1.heap.size w1).alloc (Nat.le_refl _) (.cells #[keyV b c, .int .i64 v] 48))
  go_region_law (first
    | (go_simp; (with_reducible refine HC.out.mono ?_); rintro e w4 ⟨v', rfl, hr4, hg4⟩; dsimp only; clear HC b0 b1 n0c n1c n2c; obtain ⟨A4, c4, n4, hn4, rfl, _, _⟩ := hr4.rdn; have kN4 := Lib.hid (HNN.out.grown hg4 (fun e => HE.out e.symm)); have n0c := kN4.out.cell 0; have n0f := kN4.out.frozen 0; simp only [List.getElem?_toArray, List.getElem?_cons_zero, List.getElem?_cons_succ] at n0c; have H4 := Lib.hid (And.intro hr4 hg4); clear hr4 hg4))
  all_goals
    go_wp2
    go_ret2
    have k := kN4.out.set_ 0 (.slice A4 n4 c4)
    refine ⟨_, rfl, by simpa using k, ?_, ?_⟩
    · exact H4.out.1.set (own_ne H4.out.1 kN4.out (by decide)) _
    · refine Fr.set ?_ (.inl rfl) _
      refine Fr.grown (w' := (w1.alloc (.cells #[keyV b c, .int .i64 v] 48)).drew) (Fr.of ?_) H4.out.2 (fun k hk => .inr hk)
      exact below_drew (HB1.out.1.trans (HA.out.mono HB1.out.1.size))
end Go.Proofs.Ytpldeobobfbkiaa.Tlv
