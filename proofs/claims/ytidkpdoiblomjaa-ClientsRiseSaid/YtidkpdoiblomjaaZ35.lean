/- A client's row is found. -/
import Derived.Test.YtidkpdoiblomjaaZ34
namespace Go.Proofs.Ytidkpdoiblomjaa.Tlv
open Go.RowKit Go.Maps
set_option maxRecDepth 100000
set_option linter.unusedVariables false
set_option linter.unusedSimpArgs false
theorem mapsome (m : Nat) (W : World) : (binOp .eql 67 (.map (some m)) (.map none)).run Try.prog W = .ok (.bool false) W := run_eql_map_nil_sl W 67 32 70 (some m) Try.underlying67
theorem none_there (g m : Nat) (w : World) (hc : w.cell? ⟨g, 0, none⟩ = some (.map (some m))) : Calls Try.prog 22 #[.pointer (some ⟨g, 0, none⟩)] w fun e w' => e = .returned (.bool false) ∧ w = w' := by
 have hm := mapsome m w
 go_enter Try.func22, Try.ntmps22
 go_wp2
 go_ret
 exact ⟨rfl, rfl⟩
theorem findAt (g m : Nat) (c a b : Int) (y : Bool) (A : Option Addr) (l k : Nat) (B : Option Addr) (l2 k2 : Nat) (is : Bool) (w : World) (hg : w.cell? ⟨g, 0, none⟩ = some (.map (some m)))
   (hL : ∀ W : World, Below w.heap.size w W → (Instr.lookup 67 (.map (some m)) (.int .u64 c) true).run Try.prog W = .ok (.tuple #[.agg #[.int .u64 a, .int .i64 b, .bool y, .slice A l k, .slice B l2 k2], .bool is]) W) :
   Calls Try.prog 24 #[.pointer (some ⟨g, 0, none⟩), .int .u64 c] w fun e w' => e = .returned (.tuple #[.agg #[.int .u64 a, .int .i64 b, .bool y, .slice A l k, .slice B l2 k2], .bool is]) ∧ Below w.heap.size w w' := by
 have hb : Below w.heap.size w (w.alloc (.cells #[.int .u64 0, .int .i64 0, .bool false, .slice none 0 0, .slice none 0 0] 70)) := (Below.refl _ _).alloc (Nat.le_refl _) _
 have kk := Blk.new w 70 #[.int .u64 0, .int .i64 0, .bool false, .slice none 0 0, .slice none 0 0]
 have hl := hL (w.alloc (.cells #[.int .u64 0, .int .i64 0, .bool false, .slice none 0 0, .slice none 0 0] 70)) hb
 have hc : (w.alloc (.cells #[.int .u64 0, .int .i64 0, .bool false, .slice none 0 0, .slice none 0 0] 70)).cell? ⟨g, 0, none⟩ = some (.map (some m)) := (hb.cell (p := ⟨g, 0, none⟩) (block_lt_of_cell hg)).trans hg
 have HN := Lib.hid (none_there g m (w.alloc (.cells #[.int .u64 0, .int .i64 0, .bool false, .slice none 0 0, .slice none 0 0] 70)) hc)
 have HB := Lib.hid (And.intro hb kk)
 clear hb kk hL hg
 go_enter Try.func24, Try.ntmps24
 obtain ⟨W, hW⟩ : ∃ W, W = w.alloc (.cells #[.int .u64 0, .int .i64 0, .bool false, .slice none 0 0, .slice none 0 0] 70) := ⟨_, rfl⟩
 rw [← hW] at HB HN hl hc
 have HW := Lib.hid hW
 clear hW
 go_upto_region 1 with fail
 rw [← HW.out]
 go_upto_region 4 with (first
   | (with_reducible refine HN.out.mono ?_; rintro e w1 ⟨rfl, rfl⟩; dsimp only)
   | (refine wpList_store_rowTo rfl 70 _ _ rfl rfl W.heap.size #[.int .u64 a, .int .i64 b, .bool y, .slice A l k, .slice B l2 k2] rfl rfl 70 #[.int .u64 0, .int .i64 0, .bool false, .slice none 0 0, .slice none 0 0] (Blk.new W 70 #[.int .u64 0, .int .i64 0, .bool false, .slice none 0 0, .slice none 0 0]) (by kernel_rfl) rfl (by kernel_rfl) ?_))
 have hb2 : Below w.heap.size w ((W.alloc (.cells #[.int .u64 0, .int .i64 0, .bool false, .slice none 0 0, .slice none 0 0] 70)).setRow W.heap.size #[.int .u64 a, .int .i64 b, .bool y, .slice A l k, .slice B l2 k2]) := below_setRow (HB.out.1.alloc HB.out.1.size (.cells #[.int .u64 0, .int .i64 0, .bool false, .slice none 0 0, .slice none 0 0] 70)) HB.out.1.size #[.int .u64 a, .int .i64 b, .bool y, .slice A l k, .slice B l2 k2]
 have kk2 : Blk ((W.alloc (.cells #[.int .u64 0, .int .i64 0, .bool false, .slice none 0 0, .slice none 0 0] 70)).setRow W.heap.size #[.int .u64 a, .int .i64 b, .bool y, .slice A l k, .slice B l2 k2]) w.heap.size 70 #[.int .u64 0, .int .i64 0, .bool false, .slice none 0 0, .slice none 0 0] := (HB.out.2.alloc (.cells #[.int .u64 0, .int .i64 0, .bool false, .slice none 0 0, .slice none 0 0] 70)).rowFarK (by have := HB.out.2.lt; omega) #[.int .u64 a, .int .i64 b, .bool y, .slice A l k, .slice B l2 k2]
 have kk3 : Blk ((W.alloc (.cells #[.int .u64 0, .int .i64 0, .bool false, .slice none 0 0, .slice none 0 0] 70)).setRow W.heap.size #[.int .u64 a, .int .i64 b, .bool y, .slice A l k, .slice B l2 k2]) W.heap.size 70 #[.int .u64 a, .int .i64 b, .bool y, .slice A l k, .slice B l2 k2] := (Blk.new W 70 #[.int .u64 0, .int .i64 0, .bool false, .slice none 0 0, .slice none 0 0]).row #[.int .u64 a, .int .i64 b, .bool y, .slice A l k, .slice B l2 k2]
 obtain ⟨b2, hb2'⟩ : ∃ b, b = W.heap.size := ⟨_, rfl⟩
 rw [← hb2'] at hb2 kk2 kk3 ⊢
 generalize (W.alloc (.cells #[.int .u64 0, .int .i64 0, .bool false, .slice none 0 0, .slice none 0 0] 70)).setRow b2 #[.int .u64 a, .int .i64 b, .bool y, .slice A l k, .slice B l2 k2] = W2 at hb2 kk2 kk3 ⊢
 have HB2 := Lib.hid (And.intro hb2 (And.intro kk2 kk3))
 clear hb2 kk2 kk3 HB HN HW hl hc hb2'
 go_wp2_with (first
   | (refine wpList_load_row rfl 70 _ rfl b2 rfl 70 #[.int .u64 a, .int .i64 b, .bool y, .slice A l k, .slice B l2 k2] (0, 0) _ HB2.out.2.2 rfl rfl (by kernel_rfl) ?_)
   | (refine wpList_store_rowTo rfl 70 _ _ rfl rfl w.heap.size #[.int .u64 a, .int .i64 b, .bool y, .slice A l k, .slice B l2 k2] rfl rfl 70 #[.int .u64 0, .int .i64 0, .bool false, .slice none 0 0, .slice none 0 0] HB2.out.2.1 (by kernel_rfl) rfl (by kernel_rfl) ?_))
 refine bodyPost_ret (v := .tuple #[.agg #[.int .u64 a, .int .i64 b, .bool y, .slice A l k, .slice B l2 k2], .bool is]) ?_ rfl ⟨rfl, below_setRow HB2.out.1 (Nat.le_refl _) _⟩
 have kk := HB2.out.2.1.row #[.int .u64 a, .int .i64 b, .bool y, .slice A l k, .slice B l2 k2]
 generalize W2.setRow w.heap.size #[.int .u64 a, .int .i64 b, .bool y, .slice A l k, .slice B l2 k2] = W3 at kk ⊢
 have c0 := kk.cell 0
 have c1 := kk.cell 1
 have c2 := kk.cell 2
 have c3 := kk.cell 3
 have c4 := kk.cell 4
 simp only [List.getElem?_toArray, List.getElem?_cons_zero, List.getElem?_cons_succ] at c0 c1 c2 c3 c4
 clear HB2 kk
 simp [results, Try.f24, go_sem, c0, c1, c2, c3, c4]
def Found (w : World) (base : Nat) (T : Tb) (c : Int) (a b : Int) (y : Bool) (v1 v2 : Value) (is : Bool) : Prop :=
 (T c = none ∧ rwVal a b y v1 v2 = rwZ ∧ is = false) ∨ ∃ r, T c = some (a, r) ∧ InU a ∧ ResGood r ∧ b = r.k ∧ y = r.y ∧ is = true ∧ ResOwn w base r v1 v2
theorem Rep.found {w : World} {base m N : Nat} {T : Tb} (h : Rep w base m T N) {c : Int} (hc : InU c) : ∃ a b y A l k B l2 k2 is, Found w base T c a b y (.slice A l k) (.slice B l2 k2) is ∧ ∀ W : World, Below w.heap.size w W → (Instr.lookup 67 (.map (some m)) (.int .u64 c) true).run Try.prog W = .ok (.tuple #[.agg #[.int .u64 a, .int .i64 b, .bool y, .slice A l k, .slice B l2 k2], .bool is]) W := by
 have h' := h
 obtain ⟨h0, D, h1, h2, h3, h4⟩ := h
 have key : ∀ W : World, Below w.heap.size w W → W.ownsMap Try.prog 32 RH m N D := fun W hb => by
   obtain ⟨es, clock, hbm, F, hs, hD⟩ := h1
   exact ⟨es, clock, (hb.block m (Array.getElem?_eq_some_iff.1 hbm).1).trans hbm, F, hs, hD⟩
 cases hT : T c with
 | none =>
   refine ⟨0, 0, false, none, 0, 0, none, 0, 0, false, .inl ⟨hT, rfl, rfl⟩, fun W hb => ?_⟩
   exact (h'.on hb).look_no hc hT
 | some x =>
   obtain ⟨n, r⟩ := x
   obtain ⟨a1, a2, hh, A, l, k, B, l2, k2, a4, a5⟩ := h4 c n r hc hT
   refine ⟨n, r.k, r.y, A, l, k, B, l2, k2, true, .inr ⟨r, hT, a1, a2, rfl, rfl, rfl, a5⟩, fun W hb => ?_⟩
   obtain ⟨v, ps, hr, hv⟩ := (key W hb).look_ok law32 Try.underlying67 (zeroRow W) (zd := .held rwZ) (zp := []) rfl hc.key
   rw [a4] at hv
   obtain ⟨rfl, _⟩ : v = rwVal n r.k r.y (.slice A l k) (.slice B l2 k2) ∧ ps = [] := by
     injection hv with hv
     injection hv with hv1 hv2
     injection hv1 with hv1
     exact ⟨hv1, hv2.symm⟩
   rw [hh] at hr
   exact hr
structure Tab (w : World) (base g m : Nat) (T : Tb) (N : Nat) : Prop where
 blk : Blk w g 72 #[.map (some m)]
 rep : Rep w base m T N
theorem Tab.on {w w' : World} {base g m N : Nat} {T : Tb} (h : Tab w base g m T N) (hb : Below w.heap.size w w') : Tab w' base g m T N := ⟨h.blk.on hb, h.rep.on hb⟩
def FindOut (w : World) (base : Nat) (T : Tb) (c : Int) (e : Ending) (w' : World) : Prop :=
 ∃ a b y A l k B l2 k2 is, e = .returned (.tuple #[.agg #[.int .u64 a, .int .i64 b, .bool y, .slice A l k, .slice B l2 k2], .bool is]) ∧ Found w' base T c a b y (.slice A l k) (.slice B l2 k2) is ∧ Below w.heap.size w w'
theorem Found.on {w w' : World} {base : Nat} {T : Tb} {c a b : Int} {y : Bool} {v1 v2 : Value} {is : Bool} (h : Found w base T c a b y v1 v2 is) (hb : Below w.heap.size w w') : Found w' base T c a b y v1 v2 is := by
 rcases h with h | ⟨r, h1, h2, h3, h4, h5, h6, h7⟩
 · exact .inl h
 · exact .inr ⟨r, h1, h2, h3, h4, h5, h6, h7.keepB fun k t cs _ hB => hb.block k hB.lt⟩
theorem find_any (g m base N : Nat) (T : Tb) (c : Int) (w : World) (h : Tab w base g m T N) (hc : InU c) : Calls Try.prog 24 #[.pointer (some ⟨g, 0, none⟩), .int .u64 c] w (FindOut w base T c) := by
 obtain ⟨a, b, y, A, l, k, B, l2, k2, is, hf, hL⟩ := h.rep.found hc
 refine (findAt g m c a b y A l k B l2 k2 is w (h.blk.cell 0) hL).mono fun e w' ⟨h1, h2⟩ => ⟨a, b, y, A, l, k, B, l2, k2, is, h1, hf.on h2, h2⟩
end Go.Proofs.Ytidkpdoiblomjaa.Tlv
