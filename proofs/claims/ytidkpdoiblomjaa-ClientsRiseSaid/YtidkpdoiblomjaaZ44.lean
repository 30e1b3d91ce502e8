/- Put: a row is noted, or it is not. -/
import Derived.Test.YtidkpdoiblomjaaZ35
import Derived.Test.YtidkpdoiblomjaaZ37
import Derived.Test.YtidkpdoiblomjaaZ43
namespace Go.Proofs.Ytidkpdoiblomjaa.Tlv
open Go.RowKit Go.Maps
set_option maxRecDepth 100000
set_option linter.unusedVariables false
set_option linter.unusedSimpArgs false
theorem below_grown {w a b : World} {m : Nat} (h : Below w.heap.size w a) (hg : a.grownBy b (some m)) : w.grownBy b (some m) := ⟨hg.os.trans h.os, hg.tape.trans h.tape, hg.output.trans h.output, Nat.le_trans h.size hg.size, fun k hk hne => (hg.block k (Nat.lt_of_lt_of_le hk h.size) hne).trans (h.block k hk)⟩
theorem below_grown0 {w a : World} (m : Nat) (h : Below w.heap.size w a) : w.grownBy a (some m) := ⟨h.os, h.tape, h.output, h.size, fun k hk _ => h.block k hk⟩
theorem below_drewK {B : Nat} {a w : World} (h : Below B a w) : Below B a w.drew := ⟨h.os, h.tape, h.output, h.size, h.block⟩
def putC (T : Tb) (N : Nat) (c n : Int) (r : Res) : Int := if mayR r = false then 2 else match T c with
 | some x => if n ≤ x.1 then 14 else 0
 | none => if N = 16 then 10 else 0
def putT (T : Tb) (N : Nat) (c n : Int) (r : Res) : Tb := if putC T N c n r = 0 then upd T c (n, r) else T
def putN (T : Tb) (N : Nat) (c n : Int) (r : Res) : Nat := if putC T N c n r = 0 then updN T c N else N
def PutOut (w : World) (base g m : Nat) (T : Tb) (N : Nat) (c n : Int) (r : Res) (e : Ending) (w' : World) : Prop :=
 e = .returned (.int .i64 (putC T N c n r)) ∧ Tab w' base g m (putT T N c n r) (putN T N c n r) ∧ w.grownBy w' (some m)
theorem put_not {w w' : World} {base g m N : Nat} {T : Tb} {c n : Int} {r : Res} {e : Ending} {x : Int} (hx : putC T N c n r = x) (h0 : x ≠ 0) (he : e = .returned (.int .i64 x)) (ht : Tab w' base g m T N) (hb : Below w.heap.size w w') : PutOut w base g m T N c n r e w' := by
 have h1 : ¬ putC T N c n r = 0 := by rw [hx]; exact h0
 refine ⟨by rw [hx]; exact he, ?_, below_grown0 m hb⟩
 unfold putT putN
 rw [if_neg h1, if_neg h1]
 exact ht
set_option maxHeartbeats 16000000 in
theorem put_bad (g m base N : Nat) (T : Tb) (c n : Int) (r : Res) (ve vc : Value) (w : World) (h : Tab w base g m T N) (hc : InU c) (hn : InU n) (ha : ResAt w r ve vc) (hg : ResGood r) (hbs : base ≤ w.heap.size) (hm : mayR r = false) : Calls Try.prog 11 #[.pointer (some ⟨g, 0, none⟩), .int .u64 c, .int .u64 n, rsVal r.k r.y ve vc] w (PutOut w base g m T N c n r) := by
 have HA := Lib.hid fun (W : World) (hb : Below w.heap.size w W) => ha.on hb
 obtain ⟨es, Aa, ca, na, rfl, HNa, HRa⟩ := ha.e.full
 obtain ⟨Ac, cc, nc, rfl, HNc, HRc⟩ := ha.c.full
 have hb : Below w.heap.size w (w.alloc (.cells (rsCs r.k r.y (.slice Aa na ca) (.slice Ac nc cc)) 39)) := (Below.refl _ _).alloc (Nat.le_refl _) _
 have kk := Blk.new w 39 (rsCs r.k r.y (.slice Aa na ca) (.slice Ac nc cc))
 have HF := Lib.hid (find_any g m base N T c _ (h.on hb) hc)
 have HB := Lib.hid (And.intro hb (And.intro kk (h.on hb)))
 have HX := Lib.hid (And.intro hc (And.intro hn (And.intro hg (And.intro hbs hm))))
 clear hb kk h hc hn ha hg hbs hm
 go_enter Try.func11, Try.ntmps11
 go_upto_region 2 with (first
   | ((with_reducible refine HF.out.mono ?_); rintro e w1 ⟨a, b, y, A, l, k, B, l2, k2, is, rfl, hf, hb1⟩; dsimp only; have HB1 := Lib.hid (And.intro (HB.out.1.trans (hb1.mono HB.out.1.size)) (And.intro (HB.out.2.1.on hb1) (And.intro (HB.out.2.2.on hb1) hf))); clear hb1 hf)
   | (refine wpList_store_rowTo rfl 70 _ _ rfl rfl w1.heap.size #[.int .u64 a, .int .i64 b, .bool y, .slice A l k, .slice B l2 k2] rfl rfl 70 #[.int .u64 0, .int .i64 0, .bool false, .slice none 0 0, .slice none 0 0] (Blk.new w1 70 #[.int .u64 0, .int .i64 0, .bool false, .slice none 0 0, .slice none 0 0]) (by kernel_rfl) rfl (by kernel_rfl) ?_))
 have hb2 : Below w1.heap.size w1 ((w1.alloc (.cells #[.int .u64 0, .int .i64 0, .bool false, .slice none 0 0, .slice none 0 0] 70)).setRow w1.heap.size #[.int .u64 a, .int .i64 b, .bool y, .slice A l k, .slice B l2 k2]) := below_setRow ((Below.refl _ _).alloc (Nat.le_refl _) (.cells #[.int .u64 0, .int .i64 0, .bool false, .slice none 0 0, .slice none 0 0] 70)) (Nat.le_refl _) #[.int .u64 a, .int .i64 b, .bool y, .slice A l k, .slice B l2 k2]
 have kk3 : Blk ((w1.alloc (.cells #[.int .u64 0, .int .i64 0, .bool false, .slice none 0 0, .slice none 0 0] 70)).setRow w1.heap.size #[.int .u64 a, .int .i64 b, .bool y, .slice A l k, .slice B l2 k2]) w1.heap.size 70 #[.int .u64 a, .int .i64 b, .bool y, .slice A l k, .slice B l2 k2] := (Blk.new w1 70 #[.int .u64 0, .int .i64 0, .bool false, .slice none 0 0, .slice none 0 0]).row #[.int .u64 a, .int .i64 b, .bool y, .slice A l k, .slice B l2 k2]
 obtain ⟨b2, hb2'⟩ : ∃ b, b = w1.heap.size := ⟨_, rfl⟩
 have HB2 := Lib.hid (And.intro (HB1.out.1.trans (hb2.mono HB1.out.1.size)) (And.intro (HB1.out.2.1.on hb2) (And.intro (HB1.out.2.2.1.on hb2) (And.intro (HB1.out.2.2.2.on hb2) kk3))))
 rw [← hb2'] at HB2 ⊢
 generalize (w1.alloc (.cells #[.int .u64 0, .int .i64 0, .bool false, .slice none 0 0, .slice none 0 0] 70)).setRow b2 #[.int .u64 a, .int .i64 b, .bool y, .slice A l k, .slice B l2 k2] = W at HB2 ⊢
 have HN := Lib.hid (none_there g m W (HB2.out.2.2.1.blk.cell 0))
 have HM := Lib.hid (mayRes_any r _ _ _ (HA.out _ HB2.out.1) HX.out.2.2.1.lim HX.out.2.2.1.fit false HX.out.2.2.2.2)
 have HY := Lib.hid fun (X : World) (hb : Below W.heap.size W X) => And.intro (HB2.out.1.trans (hb.mono HB2.out.1.size)) (And.intro (HB2.out.2.1.on hb) (And.intro (HB2.out.2.2.1.on hb) (And.intro (HB2.out.2.2.2.1.on hb) (HB2.out.2.2.2.2.on hb))))
 clear hb2 kk3 hb2' HB1 HF HB
 go_wp2_with (first
   | (go_at_call 22; with_reducible refine HN.out.mono ?_; rintro e w2 ⟨rfl, rfl⟩; dsimp only)
   | (refine wpList_load_row rfl 39 _ rfl w.heap.size rfl 39 (rsCs r.k r.y (.slice Aa na ca) (.slice Ac nc cc)) (0, 0) _ HB2.out.2.1 rfl rfl (by kernel_rfl) ?_)
   | (go_at_call 25; (with_reducible refine HM.out.mono ?_); rintro e w3 ⟨rfl, hb3⟩; dsimp only; have HB3 := Lib.hid (HY.out _ hb3); clear hb3))
 go_ret
 exact put_not (x := 2) (by unfold putC; rw [if_pos HX.out.2.2.2.2]) (by decide) rfl HB3.out.2.2.1 HB3.out.1
set_option maxHeartbeats 16000000 in
theorem put_old (g m base N : Nat) (T : Tb) (c n : Int) (r : Res) (ve vc : Value) (w : World) (h : Tab w base g m T N) (hc : InU c) (hn : InU n) (ha : ResAt w r ve vc) (hg : ResGood r) (hbs : base ≤ w.heap.size) (hm : mayR r = true) (x : Int × Res) (hT : T c = some x) (hle : n ≤ x.1) : Calls Try.prog 11 #[.pointer (some ⟨g, 0, none⟩), .int .u64 c, .int .u64 n, rsVal r.k r.y ve vc] w (PutOut w base g m T N c n r) := by
 have HA := Lib.hid fun (W : World) (hb : Below w.heap.size w W) => ha.on hb
 obtain ⟨es, Aa, ca, na, rfl, HNa, HRa⟩ := ha.e.full
 obtain ⟨Ac, cc, nc, rfl, HNc, HRc⟩ := ha.c.full
 have hb : Below w.heap.size w (w.alloc (.cells (rsCs r.k r.y (.slice Aa na ca) (.slice Ac nc cc)) 39)) := (Below.refl _ _).alloc (Nat.le_refl _) _
 have kk := Blk.new w 39 (rsCs r.k r.y (.slice Aa na ca) (.slice Ac nc cc))
 have HF := Lib.hid (find_any g m base N T c _ (h.on hb) hc)
 have HB := Lib.hid (And.intro hb (And.intro kk (h.on hb)))
 have HX := Lib.hid (And.intro hc (And.intro hn (And.intro hg (And.intro hbs hm))))
 have HT := Lib.hid (And.intro hT hle)
 clear hT hle hb kk h hc hn ha hg hbs hm
 go_enter Try.func11, Try.ntmps11
 go_upto_region 2 with (first
   | ((with_reducible refine HF.out.mono ?_); rintro e w1 ⟨a, b, y, A, l, k, B, l2, k2, is, rfl, hf, hb1⟩; dsimp only; have HB1 := Lib.hid (And.intro (HB.out.1.trans (hb1.mono HB.out.1.size)) (And.intro (HB.out.2.1.on hb1) (And.intro (HB.out.2.2.on hb1) hf))); clear hb1 hf)
   | (refine wpList_store_rowTo rfl 70 _ _ rfl rfl w1.heap.size #[.int .u64 a, .int .i64 b, .bool y, .slice A l k, .slice B l2 k2] rfl rfl 70 #[.int .u64 0, .int .i64 0, .bool false, .slice none 0 0, .slice none 0 0] (Blk.new w1 70 #[.int .u64 0, .int .i64 0, .bool false, .slice none 0 0, .slice none 0 0]) (by kernel_rfl) rfl (by kernel_rfl) ?_))
 have hb2 : Below w1.heap.size w1 ((w1.alloc (.cells #[.int .u64 0, .int .i64 0, .bool false, .slice none 0 0, .slice none 0 0] 70)).setRow w1.heap.size #[.int .u64 a, .int .i64 b, .bool y, .slice A l k, .slice B l2 k2]) := below_setRow ((Below.refl _ _).alloc (Nat.le_refl _) (.cells #[.int .u64 0, .int .i64 0, .bool false, .slice none 0 0, .slice none 0 0] 70)) (Nat.le_refl _) #[.int .u64 a, .int .i64 b, .bool y, .slice A l k, .slice B l2 k2]
 have kk3 : Blk ((w1.alloc (.cells #[.int .u64 0, .int .i64 0, .bool false, .slice none 0 0, .slice none 0 0] 70)).setRow w1.heap.size #[.int .u64 a, .int .i64 b, .bool y, .slice A l k, .slice B l2 k2]) w1.heap.size 70 #[.int .u64 a, .int .i64 b, .bool y, .slice A l k, .slice B l2 k2] := (Blk.new w1 70 #[.int .u64 0, .int .i64 0, .bool false, .slice none 0 0, .slice none 0 0]).row #[.int .u64 a, .int .i64 b, .bool y, .slice A l k, .slice B l2 k2]
 obtain ⟨b2, hb2'⟩ : ∃ b, b = w1.heap.size := ⟨_, rfl⟩
 have HB2 := Lib.hid (And.intro (HB1.out.1.trans (hb2.mono HB1.out.1.size)) (And.intro (HB1.out.2.1.on hb2) (And.intro (HB1.out.2.2.1.on hb2) (And.intro (HB1.out.2.2.2.on hb2) kk3))))
 rw [← hb2'] at HB2 ⊢
 generalize (w1.alloc (.cells #[.int .u64 0, .int .i64 0, .bool false, .slice none 0 0, .slice none 0 0] 70)).setRow b2 #[.int .u64 a, .int .i64 b, .bool y, .slice A l k, .slice B l2 k2] = W at HB2 ⊢
 have HN := Lib.hid (none_there g m W (HB2.out.2.2.1.blk.cell 0))
 have HM := Lib.hid (mayRes_any r _ _ _ (HA.out _ HB2.out.1) HX.out.2.2.1.lim HX.out.2.2.1.fit true HX.out.2.2.2.2)
 have HY := Lib.hid fun (X : World) (hb : Below W.heap.size W X) => And.intro (HB2.out.1.trans (hb.mono HB2.out.1.size)) (And.intro (HB2.out.2.1.on hb) (And.intro (HB2.out.2.2.1.on hb) (And.intro (HB2.out.2.2.2.1.on hb) (HB2.out.2.2.2.2.on hb))))
 clear hb2 kk3 hb2' HB1 HF HB
 go_upto_region 6 with (first
   | (go_at_call 22; with_reducible refine HN.out.mono ?_; rintro e w2 ⟨rfl, rfl⟩; dsimp only)
   | (refine wpList_load_row rfl 39 _ rfl w.heap.size rfl 39 (rsCs r.k r.y (.slice Aa na ca) (.slice Ac nc cc)) (0, 0) _ HB2.out.2.1 rfl rfl (by kernel_rfl) ?_)
   | (go_at_call 25; (with_reducible refine HM.out.mono ?_); rintro e w3 ⟨rfl, hb3⟩; dsimp only; have HB3 := Lib.hid (HY.out _ hb3); clear hb3))
 obtain ⟨rfl, hea⟩ : is = true ∧ a = x.1 := by
   rcases HB3.out.2.2.2.1 with ⟨e1, _⟩ | ⟨r', e1, _, _, _, _, e2, _⟩
   · rw [HT.out.1] at e1; cases e1
   · rw [HT.out.1] at e1
     injection e1 with e1
     exact ⟨e2, by rw [e1]⟩
 have hle : n ≤ a := by rw [hea]; exact HT.out.2
 have c0 := HB3.out.2.2.2.2.cell 0
 simp only [List.getElem?_toArray, List.getElem?_cons_zero, List.getElem?_cons_succ] at c0
 go_wp2
 go_ret
 exact put_not (x := 14) (by unfold putC; rw [if_neg (by rw [HX.out.2.2.2.2]; decide), HT.out.1]; exact if_pos HT.out.2) (by decide) rfl HB3.out.2.2.1 HB3.out.1
set_option maxHeartbeats 16000000 in
theorem put_more (g m base N : Nat) (T : Tb) (c n : Int) (r : Res) (ve vc : Value) (w : World) (h : Tab w base g m T N) (hc : InU c) (hn : InU n) (ha : ResAt w r ve vc) (hg : ResGood r) (hbs : base ≤ w.heap.size) (hm : mayR r = true) (x : Int × Res) (hT : T c = some x) (hle : ¬ n ≤ x.1) : Calls Try.prog 11 #[.pointer (some ⟨g, 0, none⟩), .int .u64 c, .int .u64 n, rsVal r.k r.y ve vc] w (PutOut w base g m T N c n r) := by
 have HA := Lib.hid fun (W : World) (hb : Below w.heap.size w W) => ha.on hb
 obtain ⟨es, Aa, ca, na, rfl, HNa, HRa⟩ := ha.e.full
 obtain ⟨Ac, cc, nc, rfl, HNc, HRc⟩ := ha.c.full
 have hb : Below w.heap.size w (w.alloc (.cells (rsCs r.k r.y (.slice Aa na ca) (.slice Ac nc cc)) 39)) := (Below.refl _ _).alloc (Nat.le_refl _) _
 have kk := Blk.new w 39 (rsCs r.k r.y (.slice Aa na ca) (.slice Ac nc cc))
 have HF := Lib.hid (find_any g m base N T c _ (h.on hb) hc)
 have HB := Lib.hid (And.intro hb (And.intro kk (h.on hb)))
 have HX := Lib.hid (And.intro hc (And.intro hn (And.intro hg (And.intro hbs hm))))
 have HT := Lib.hid (And.intro (show T c = none → N < 16 from fun e => by rw [hT] at e; cases e) (And.intro (show putC T N c n r = 0 by unfold putC; rw [if_neg (by rw [hm]; decide), hT]; exact if_neg hle) (And.intro hT hle)))
 clear hT hle hb kk h hc hn ha hg hbs hm
 go_enter Try.func11, Try.ntmps11
 go_upto_region 2 with (first
   | ((with_reducible refine HF.out.mono ?_); rintro e w1 ⟨a, b, y, A, l, k, B, l2, k2, is, rfl, hf, hb1⟩; dsimp only; have HB1 := Lib.hid (And.intro (HB.out.1.trans (hb1.mono HB.out.1.size)) (And.intro (HB.out.2.1.on hb1) (And.intro (HB.out.2.2.on hb1) hf))); clear hb1 hf)
   | (refine wpList_store_rowTo rfl 70 _ _ rfl rfl w1.heap.size #[.int .u64 a, .int .i64 b, .bool y, .slice A l k, .slice B l2 k2] rfl rfl 70 #[.int .u64 0, .int .i64 0, .bool false, .slice none 0 0, .slice none 0 0] (Blk.new w1 70 #[.int .u64 0, .int .i64 0, .bool false, .slice none 0 0, .slice none 0 0]) (by kernel_rfl) rfl (by kernel_rfl) ?_))
 have hb2 : Below w1.heap.size w1 ((w1.alloc (.cells #[.int .u64 0, .int .i64 0, .bool false, .slice none 0 0, .slice none 0 0] 70)).setRow w1.heap.size #[.int .u64 a, .int .i64 b, .bool y, .slice A l k, .slice B l2 k2]) := below_setRow ((Below.refl _ _).alloc (Nat.le_refl _) (.cells #[.int .u64 0, .int .i64 0, .bool false, .slice none 0 0, .slice none 0 0] 70)) (Nat.le_refl _) #[.int .u64 a, .int .i64 b, .bool y, .slice A l k, .slice B l2 k2]
 have kk3 : Blk ((w1.alloc (.cells #[.int .u64 0, .int .i64 0, .bool false, .slice none 0 0, .slice none 0 0] 70)).setRow w1.heap.size #[.int .u64 a, .int .i64 b, .bool y, .slice A l k, .slice B l2 k2]) w1.heap.size 70 #[.int .u64 a, .int .i64 b, .bool y, .slice A l k, .slice B l2 k2] := (Blk.new w1 70 #[.int .u64 0, .int .i64 0, .bool false, .slice none 0 0, .slice none 0 0]).row #[.int .u64 a, .int .i64 b, .bool y, .slice A l k, .slice B l2 k2]
 obtain ⟨b2, hb2'⟩ : ∃ b, b = w1.heap.size := ⟨_, rfl⟩
 have HB2 := Lib.hid (And.intro (HB1.out.1.trans (hb2.mono HB1.out.1.size)) (And.intro (HB1.out.2.1.on hb2) (And.intro (HB1.out.2.2.1.on hb2) (And.intro (HB1.out.2.2.2.on hb2) kk3))))
 rw [← hb2'] at HB2 ⊢
 generalize (w1.alloc (.cells #[.int .u64 0, .int .i64 0, .bool false, .slice none 0 0, .slice none 0 0] 70)).setRow b2 #[.int .u64 a, .int .i64 b, .bool y, .slice A l k, .slice B l2 k2] = W at HB2 ⊢
 have HN := Lib.hid (none_there g m W (HB2.out.2.2.1.blk.cell 0))
 have HM := Lib.hid (mayRes_any r _ _ _ (HA.out _ HB2.out.1) HX.out.2.2.1.lim HX.out.2.2.1.fit true HX.out.2.2.2.2)
 have HY := Lib.hid fun (X : World) (hb : Below W.heap.size W X) => And.intro (HB2.out.1.trans (hb.mono HB2.out.1.size)) (And.intro (HB2.out.2.1.on hb) (And.intro (HB2.out.2.2.1.on hb) (And.intro (HB2.out.2.2.2.1.on hb) (HB2.out.2.2.2.2.on hb))))
 clear hb2 kk3 hb2' HB1 HF HB
 go_upto_region 6 with (first
   | (go_at_call 22; with_reducible refine HN.out.mono ?_; rintro e w2 ⟨rfl, rfl⟩; dsimp only)
   | (refine wpList_load_row rfl 39 _ rfl w.heap.size rfl 39 (rsCs r.k r.y (.slice Aa na ca) (.slice Ac nc cc)) (0, 0) _ HB2.out.2.1 rfl rfl (by kernel_rfl) ?_)
   | (go_at_call 25; (with_reducible refine HM.out.mono ?_); rintro e w3 ⟨rfl, hb3⟩; dsimp only; have HB3 := Lib.hid (HY.out _ hb3); clear hb3))
 obtain ⟨rfl, hea⟩ : is = true ∧ a = x.1 := by
   rcases HB3.out.2.2.2.1 with ⟨e1, _⟩ | ⟨r', e1, _, _, _, _, e2, _⟩
   · rw [HT.out.2.2.1] at e1; cases e1
   · rw [HT.out.2.2.1] at e1
     injection e1 with e1
     exact ⟨e2, by rw [e1]⟩
 have hle : ¬ n ≤ a := by rw [hea]; exact HT.out.2.2.2
 have c0 := HB3.out.2.2.2.2.cell 0
 simp only [List.getElem?_toArray, List.getElem?_cons_zero, List.getElem?_cons_succ] at c0
 go_upto_region 10 with fail
 have cg := HB3.out.2.2.1.blk.cell 0
 have r0 := HB3.out.2.1.cell 0
 have r1 := HB3.out.2.1.cell 1
 have r2 := HB3.out.2.1.cell 2
 have r3 := HB3.out.2.1.cell 3
 simp only [List.getElem?_toArray, List.getElem?_cons_zero, List.getElem?_cons_succ] at cg r0 r1 r2 r3
 have HC := Lib.hid (copyRes r _ _ w3.drew (HA.out _ (below_drewK HB3.out.1)) HX.out.2.2.1.lim HX.out.2.2.1.cur)
 go_region_law (first
   | (go_simp; (with_reducible refine HC.out.mono ?_); clear HC cg r0 r1 r2 r3; rintro e w4 ⟨A4, n4, c4, C4, m4, k4, rfl, ho4, hb4⟩; dsimp only; have hb4' : Below w3.heap.size w3 w4 := (below_drewK (Below.refl _ _)).trans hb4; have HB4 := Lib.hid (And.intro (HB3.out.1.trans (hb4'.mono HB3.out.1.size)) (HB3.out.2.2.1.on hb4')); obtain ⟨w5, hrun, hrep, hgr⟩ := Rep.store HB4.out.2.rep HX.out.1 HX.out.2.1 HX.out.2.2.1 (ho4.low (Nat.le_trans HX.out.2.2.2.1 HB3.out.1.size)) HT.out.1; have cg : w4.cell? ⟨g, 0, none⟩ = some (.map (some m)) := HB4.out.2.blk.cell 0; have HR := Lib.hid (And.intro hrep hgr); clear hb4 hb4' ho4 hrep hgr))
 all_goals
   go_wp2
   go_ret
   refine ⟨by rw [HT.out.2.1]; rfl, ⟨(HR.out.2.block g HB4.out.2.blk.lt (fun e => map_ne_blk HB4.out.2.rep.map HB4.out.2.blk (Option.some.inj e))).trans HB4.out.2.blk, ?_⟩, below_grown HB4.out.1 HR.out.2⟩
   unfold putT putN
   rw [if_pos HT.out.2.1, if_pos HT.out.2.1]
   exact HR.out.1
set_option maxHeartbeats 16000000 in
theorem put_full (g m base N : Nat) (T : Tb) (c n : Int) (r : Res) (ve vc : Value) (w : World) (h : Tab w base g m T N) (hc : InU c) (hn : InU n) (ha : ResAt w r ve vc) (hg : ResGood r) (hbs : base ≤ w.heap.size) (hm : mayR r = true) (hT : T c = none) (hN : N = 16) : Calls Try.prog 11 #[.pointer (some ⟨g, 0, none⟩), .int .u64 c, .int .u64 n, rsVal r.k r.y ve vc] w (PutOut w base g m T N c n r) := by
 have HA := Lib.hid fun (W : World) (hb : Below w.heap.size w W) => ha.on hb
 obtain ⟨es, Aa, ca, na, rfl, HNa, HRa⟩ := ha.e.full
 obtain ⟨Ac, cc, nc, rfl, HNc, HRc⟩ := ha.c.full
 have hb : Below w.heap.size w (w.alloc (.cells (rsCs r.k r.y (.slice Aa na ca) (.slice Ac nc cc)) 39)) := (Below.refl _ _).alloc (Nat.le_refl _) _
 have kk := Blk.new w 39 (rsCs r.k r.y (.slice Aa na ca) (.slice Ac nc cc))
 have HF := Lib.hid (find_any g m base N T c _ (h.on hb) hc)
 have HB := Lib.hid (And.intro hb (And.intro kk (h.on hb)))
 have HX := Lib.hid (And.intro hc (And.intro hn (And.intro hg (And.intro hbs hm))))
 have HT := Lib.hid (And.intro hT hN)
 clear hT hN hb kk h hc hn ha hg hbs hm
 go_enter Try.func11, Try.ntmps11
 go_upto_region 2 with (first
   | ((with_reducible refine HF.out.mono ?_); rintro e w1 ⟨a, b, y, A, l, k, B, l2, k2, is, rfl, hf, hb1⟩; dsimp only; have HB1 := Lib.hid (And.intro (HB.out.1.trans (hb1.mono HB.out.1.size)) (And.intro (HB.out.2.1.on hb1) (And.intro (HB.out.2.2.on hb1) hf))); clear hb1 hf)
   | (refine wpList_store_rowTo rfl 70 _ _ rfl rfl w1.heap.size #[.int .u64 a, .int .i64 b, .bool y, .slice A l k, .slice B l2 k2] rfl rfl 70 #[.int .u64 0, .int .i64 0, .bool false, .slice none 0 0, .slice none 0 0] (Blk.new w1 70 #[.int .u64 0, .int .i64 0, .bool false, .slice none 0 0, .slice none 0 0]) (by kernel_rfl) rfl (by kernel_rfl) ?_))
 have hb2 : Below w1.heap.size w1 ((w1.alloc (.cells #[.int .u64 0, .int .i64 0, .bool false, .slice none 0 0, .slice none 0 0] 70)).setRow w1.heap.size #[.int .u64 a, .int .i64 b, .bool y, .slice A l k, .slice B l2 k2]) := below_setRow ((Below.refl _ _).alloc (Nat.le_refl _) (.cells #[.int .u64 0, .int .i64 0, .bool false, .slice none 0 0, .slice none 0 0] 70)) (Nat.le_refl _) #[.int .u64 a, .int .i64 b, .bool y, .slice A l k, .slice B l2 k2]
 have kk3 : Blk ((w1.alloc (.cells #[.int .u64 0, .int .i64 0, .bool false, .slice none 0 0, .slice none 0 0] 70)).setRow w1.heap.size #[.int .u64 a, .int .i64 b, .bool y, .slice A l k, .slice B l2 k2]) w1.heap.size 70 #[.int .u64 a, .int .i64 b, .bool y, .slice A l k, .slice B l2 k2] := (Blk.new w1 70 #[.int .u64 0, .int .i64 0, .bool false, .slice none 0 0, .slice none 0 0]).row #[.int .u64 a, .int .i64 b, .bool y, .slice A l k, .slice B l2 k2]
 obtain ⟨b2, hb2'⟩ : ∃ b, b = w1.heap.size := ⟨_, rfl⟩
 have HB2 := Lib.hid (And.intro (HB1.out.1.trans (hb2.mono HB1.out.1.size)) (And.intro (HB1.out.2.1.on hb2) (And.intro (HB1.out.2.2.1.on hb2) (And.intro (HB1.out.2.2.2.on hb2) kk3))))
 rw [← hb2'] at HB2 ⊢
 generalize (w1.alloc (.cells #[.int .u64 0, .int .i64 0, .bool false, .slice none 0 0, .slice none 0 0] 70)).setRow b2 #[.int .u64 a, .int .i64 b, .bool y, .slice A l k, .slice B l2 k2] = W at HB2 ⊢
 have HN := Lib.hid (none_there g m W (HB2.out.2.2.1.blk.cell 0))
 have HM := Lib.hid (mayRes_any r _ _ _ (HA.out _ HB2.out.1) HX.out.2.2.1.lim HX.out.2.2.1.fit true HX.out.2.2.2.2)
 have HY := Lib.hid fun (X : World) (hb : Below W.heap.size W X) => And.intro (HB2.out.1.trans (hb.mono HB2.out.1.size)) (And.intro (HB2.out.2.1.on hb) (And.intro (HB2.out.2.2.1.on hb) (And.intro (HB2.out.2.2.2.1.on hb) (HB2.out.2.2.2.2.on hb))))
 clear hb2 kk3 hb2' HB1 HF HB
 go_upto_region 6 with (first
   | (go_at_call 22; with_reducible refine HN.out.mono ?_; rintro e w2 ⟨rfl, rfl⟩; dsimp only)
   | (refine wpList_load_row rfl 39 _ rfl w.heap.size rfl 39 (rsCs r.k r.y (.slice Aa na ca) (.slice Ac nc cc)) (0, 0) _ HB2.out.2.1 rfl rfl (by kernel_rfl) ?_)
   | (go_at_call 25; (with_reducible refine HM.out.mono ?_); rintro e w3 ⟨rfl, hb3⟩; dsimp only; have HB3 := Lib.hid (HY.out _ hb3); clear hb3))
 obtain rfl : is = false := by
   rcases HB3.out.2.2.2.1 with ⟨_, _, e2⟩ | ⟨r', e1, _⟩
   · exact e2
   · rw [HT.out.1] at e1; cases e1
 have hlen : ∀ ty, (Builtin.len_ #[67] ty #[.map (some m)]).run Try.prog w3 = .ok (.int .i64 N) w3 := fun ty => HB3.out.2.2.1.rep.len ty
 have cg := HB3.out.2.2.1.blk.cell 0
 simp only [List.getElem?_toArray, List.getElem?_cons_zero, List.getElem?_cons_succ] at cg
 have hN := HT.out.2
 go_wp2
 go_ret
 exact put_not (x := 10) (by unfold putC; rw [if_neg (by rw [HX.out.2.2.2.2]; decide), HT.out.1]; exact if_pos HT.out.2) (by decide) rfl HB3.out.2.2.1 HB3.out.1
set_option maxHeartbeats 16000000 in
theorem put_new (g m base N : Nat) (T : Tb) (c n : Int) (r : Res) (ve vc : Value) (w : World) (h : Tab w base g m T N) (hc : InU c) (hn : InU n) (ha : ResAt w r ve vc) (hg : ResGood r) (hbs : base ≤ w.heap.size) (hm : mayR r = true) (hT : T c = none) (hN : N < 16) : Calls Try.prog 11 #[.pointer (some ⟨g, 0, none⟩), .int .u64 c, .int .u64 n, rsVal r.k r.y ve vc] w (PutOut w base g m T N c n r) := by
 have HA := Lib.hid fun (W : World) (hb : Below w.heap.size w W) => ha.on hb
 obtain ⟨es, Aa, ca, na, rfl, HNa, HRa⟩ := ha.e.full
 obtain ⟨Ac, cc, nc, rfl, HNc, HRc⟩ := ha.c.full
 have hb : Below w.heap.size w (w.alloc (.cells (rsCs r.k r.y (.slice Aa na ca) (.slice Ac nc cc)) 39)) := (Below.refl _ _).alloc (Nat.le_refl _) _
 have kk := Blk.new w 39 (rsCs r.k r.y (.slice Aa na ca) (.slice Ac nc cc))
 have HF := Lib.hid (find_any g m base N T c _ (h.on hb) hc)
 have HB := Lib.hid (And.intro hb (And.intro kk (h.on hb)))
 have HX := Lib.hid (And.intro hc (And.intro hn (And.intro hg (And.intro hbs hm))))
 have HT := Lib.hid (And.intro (show T c = none → N < 16 from fun _ => hN) (And.intro (show putC T N c n r = 0 by unfold putC; rw [if_neg (by rw [hm]; decide), hT]; exact if_neg (by omega)) (And.intro hT hN)))
 clear hT hN hb kk h hc hn ha hg hbs hm
 go_enter Try.func11, Try.ntmps11
 go_upto_region 2 with (first
   | ((with_reducible refine HF.out.mono ?_); rintro e w1 ⟨a, b, y, A, l, k, B, l2, k2, is, rfl, hf, hb1⟩; dsimp only; have HB1 := Lib.hid (And.intro (HB.out.1.trans (hb1.mono HB.out.1.size)) (And.intro (HB.out.2.1.on hb1) (And.intro (HB.out.2.2.on hb1) hf))); clear hb1 hf)
   | (refine wpList_store_rowTo rfl 70 _ _ rfl rfl w1.heap.size #[.int .u64 a, .int .i64 b, .bool y, .slice A l k, .slice B l2 k2] rfl rfl 70 #[.int .u64 0, .int .i64 0, .bool false, .slice none 0 0, .slice none 0 0] (Blk.new w1 70 #[.int .u64 0, .int .i64 0, .bool false, .slice none 0 0, .slice none 0 0]) (by kernel_rfl) rfl (by kernel_rfl) ?_))
 have hb2 : Below w1.heap.size w1 ((w1.alloc (.cells #[.int .u64 0, .int .i64 0, .bool false, .slice none 0 0, .slice none 0 0] 70)).setRow w1.heap.size #[.int .u64 a, .int .i64 b, .bool y, .slice A l k, .slice B l2 k2]) := below_setRow ((Below.refl _ _).alloc (Nat.le_refl _) (.cells #[.int .u64 0, .int .i64 0, .bool false, .slice none 0 0, .slice none 0 0] 70)) (Nat.le_refl _) #[.int .u64 a, .int .i64 b, .bool y, .slice A l k, .slice B l2 k2]
 have kk3 : Blk ((w1.alloc (.cells #[.int .u64 0, .int .i64 0, .bool false, .slice none 0 0, .slice none 0 0] 70)).setRow w1.heap.size #[.int .u64 a, .int .i64 b, .bool y, .slice A l k, .slice B l2 k2]) w1.heap.size 70 #[.int .u64 a, .int .i64 b, .bool y, .slice A l k, .slice B l2 k2] := (Blk.new w1 70 #[.int .u64 0, .int .i64 0, .bool false, .slice none 0 0, .slice none 0 0]).row #[.int .u64 a, .int .i64 b, .bool y, .slice A l k, .slice B l2 k2]
 obtain ⟨b2, hb2'⟩ : ∃ b, b = w1.heap.size := ⟨_, rfl⟩
 have HB2 := Lib.hid (And.intro (HB1.out.1.trans (hb2.mono HB1.out.1.size)) (And.intro (HB1.out.2.1.on hb2) (And.intro (HB1.out.2.2.1.on hb2) (And.intro (HB1.out.2.2.2.on hb2) kk3))))
 rw [← hb2'] at HB2 ⊢
 generalize (w1.alloc (.cells #[.int .u64 0, .int .i64 0, .bool false, .slice none 0 0, .slice none 0 0] 70)).setRow b2 #[.int .u64 a, .int .i64 b, .bool y, .slice A l k, .slice B l2 k2] = W at HB2 ⊢
 have HN := Lib.hid (none_there g m W (HB2.out.2.2.1.blk.cell 0))
 have HM := Lib.hid (mayRes_any r _ _ _ (HA.out _ HB2.out.1) HX.out.2.2.1.lim HX.out.2.2.1.fit true HX.out.2.2.2.2)
 have HY := Lib.hid fun (X : World) (hb : Below W.heap.size W X) => And.intro (HB2.out.1.trans (hb.mono HB2.out.1.size)) (And.intro (HB2.out.2.1.on hb) (And.intro (HB2.out.2.2.1.on hb) (And.intro (HB2.out.2.2.2.1.on hb) (HB2.out.2.2.2.2.on hb))))
 clear hb2 kk3 hb2' HB1 HF HB
 go_upto_region 6 with (first
   | (go_at_call 22; with_reducible refine HN.out.mono ?_; rintro e w2 ⟨rfl, rfl⟩; dsimp only)
   | (refine wpList_load_row rfl 39 _ rfl w.heap.size rfl 39 (rsCs r.k r.y (.slice Aa na ca) (.slice Ac nc cc)) (0, 0) _ HB2.out.2.1 rfl rfl (by kernel_rfl) ?_)
   | (go_at_call 25; (with_reducible refine HM.out.mono ?_); rintro e w3 ⟨rfl, hb3⟩; dsimp only; have HB3 := Lib.hid (HY.out _ hb3); clear hb3))
 obtain rfl : is = false := by
   rcases HB3.out.2.2.2.1 with ⟨_, _, e2⟩ | ⟨r', e1, _⟩
   · exact e2
   · rw [HT.out.2.2.1] at e1; cases e1
 have hlen : ∀ ty, (Builtin.len_ #[67] ty #[.map (some m)]).run Try.prog w3 = .ok (.int .i64 N) w3 := fun ty => HB3.out.2.2.1.rep.len ty
 have cg := HB3.out.2.2.1.blk.cell 0
 simp only [List.getElem?_toArray, List.getElem?_cons_zero, List.getElem?_cons_succ] at cg
 have hN : ¬ ((N : Int) = 16) := by have := HT.out.2.2.2; omega
 go_upto_region 10 with fail
 clear hlen cg
 have cg := HB3.out.2.2.1.blk.cell 0
 have r0 := HB3.out.2.1.cell 0
 have r1 := HB3.out.2.1.cell 1
 have r2 := HB3.out.2.1.cell 2
 have r3 := HB3.out.2.1.cell 3
 simp only [List.getElem?_toArray, List.getElem?_cons_zero, List.getElem?_cons_succ] at cg r0 r1 r2 r3
 have HC := Lib.hid (copyRes r _ _ w3.drew (HA.out _ (below_drewK HB3.out.1)) HX.out.2.2.1.lim HX.out.2.2.1.cur)
 go_region_law (first
   | (go_simp; (with_reducible refine HC.out.mono ?_); clear HC cg r0 r1 r2 r3; rintro e w4 ⟨A4, n4, c4, C4, m4, k4, rfl, ho4, hb4⟩; dsimp only; have hb4' : Below w3.heap.size w3 w4 := (below_drewK (Below.refl _ _)).trans hb4; have HB4 := Lib.hid (And.intro (HB3.out.1.trans (hb4'.mono HB3.out.1.size)) (HB3.out.2.2.1.on hb4')); obtain ⟨w5, hrun, hrep, hgr⟩ := Rep.store HB4.out.2.rep HX.out.1 HX.out.2.1 HX.out.2.2.1 (ho4.low (Nat.le_trans HX.out.2.2.2.1 HB3.out.1.size)) HT.out.1; have cg : w4.cell? ⟨g, 0, none⟩ = some (.map (some m)) := HB4.out.2.blk.cell 0; have HR := Lib.hid (And.intro hrep hgr); clear hb4 hb4' ho4 hrep hgr))
 all_goals
   go_wp2
   go_ret
   refine ⟨by rw [HT.out.2.1]; rfl, ⟨(HR.out.2.block g HB4.out.2.blk.lt (fun e => map_ne_blk HB4.out.2.rep.map HB4.out.2.blk (Option.some.inj e))).trans HB4.out.2.blk, ?_⟩, below_grown HB4.out.1 HR.out.2⟩
   unfold putT putN
   rw [if_pos HT.out.2.1, if_pos HT.out.2.1]
   exact HR.out.1
theorem putTab_any (g m base N : Nat) (T : Tb) (c n : Int) (r : Res) (ve vc : Value) (w : World) (h : Tab w base g m T N) (hc : InU c) (hn : InU n) (ha : ResAt w r ve vc) (hg : ResGood r) (hbs : base ≤ w.heap.size) : Calls Try.prog 11 #[.pointer (some ⟨g, 0, none⟩), .int .u64 c, .int .u64 n, rsVal r.k r.y ve vc] w (PutOut w base g m T N c n r) := by
 cases hm : mayR r with
 | false => exact put_bad g m base N T c n r ve vc w h hc hn ha hg hbs hm
 | true =>
   cases hT : T c with
   | some x =>
     by_cases hle : n ≤ x.1
     · exact put_old g m base N T c n r ve vc w h hc hn ha hg hbs hm x hT hle
     · exact put_more g m base N T c n r ve vc w h hc hn ha hg hbs hm x hT hle
   | none =>
     have h16 := h.rep.le
     by_cases hN : N = 16
     · exact put_full g m base N T c n r ve vc w h hc hn ha hg hbs hm hT hN
     · exact put_new g m base N T c n r ve vc w h hc hn ha hg hbs hm hT (by omega)
end Go.Proofs.Ytidkpdoiblomjaa.Tlv
