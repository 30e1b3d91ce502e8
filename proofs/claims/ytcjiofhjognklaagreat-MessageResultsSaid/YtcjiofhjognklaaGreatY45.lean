/- The operation of bytes. -/
import Derived.Test.YtcjiofhjognklaaGreatY39
import Derived.Test.YtcjiofhjognklaaGreatY29
import Derived.Test.YtcjiofhjognklaaGreatY37
import Derived.Test.YtcjiofhjognklaaGreatY20
import Derived.Test.YtcjiofhjognklaaGreatY05
import Derived.Test.YtcjiofhjognklaaGreatY32
import Derived.Test.YtcjiofhjognklaaGreatY43
import Derived.Test.YtcjiofhjognklaaGreatY36
import Derived.Deep.RegionLaw
import Derived.Laws.OwnMore
import Derived.Test.YtcjiofhjognklaaGreatY40
import Derived.Test.YtcjiofhjognklaaGreatY17
import Derived.Test.YtcjiofhjognklaaGreatY44
import Derived.Test.YtcjiofhjognklaaGreatY21
namespace Go.Proofs.YtcjiofhjognklaaGreat.Tlv
open Go.RowKit
set_option maxRecDepth 100000
set_option linter.unusedVariables false
set_option linter.unusedSimpArgs false
theorem RowK.rdc2 {w : World} {base : Nat} {v : Value} {l : List Int} (h : RowK kB w base v l) : RdC w v l := by
 obtain ⟨A, c, e, h0, h1⟩ := h.rd0
 refine ⟨A, c, e, ⟨h0, ?_⟩, k_rd h1⟩
 rcases h.2 with ⟨e2, hn⟩ | ⟨g, cap, cur, e2, _, _, h5, h6, _⟩
 · rw [e] at e2
   injection e2 with e3 e4 e5
   unfold maxLen
   omega
 · rw [e] at e2
   injection e2 with e3 e4 e5
   subst e5
   exact ⟨h5, h6⟩
section
variable {w W W' : World} {g Bo bF : Nat} {fd : Array Value} {o : Opn} {va vp vc : Value} {f f' : Bool} {r r' : List Int}
end
theorem end_nz {n : Int} {f : Bool} {r : List Int} (h : n = 0 ↔ (f = false ∧ r = [])) (hg : ¬ (f = false ∧ r = [])) : (n == 0) = false ∧ (n != 0) = true := by
 have : n ≠ 0 := fun e => hg (h.1 e)
 exact ⟨by simpa using this, by simpa using this⟩
end Go.Proofs.YtcjiofhjognklaaGreat.Tlv
namespace Go.Proofs.YtcjiofhjognklaaGreat.Tlv
open Go.RowKit
set_option maxRecDepth 100000
set_option linter.unusedVariables false
set_option linter.unusedSimpArgs false
theorem RR.new2 {w : World} {B : Nat} {A : Option Addr} {c : Nat} {bs : List Int} (h : Rd w B A bs) (h1 : bs.length ≤ c) (h2 : c ≤ 9223372036854775807) (hb : Byt bs) (hl : bs.length ≤ 100000000) (hB : B ≤ w.heap.size) :
   RR (w.alloc (.cells #[.slice A bs.length c, .bool false] 107)) B w.heap.size false bs :=
 ⟨hB, _, c, Blk.new _ _ _, h.below ((Below.refl B w).alloc hB _), hb, h1, h2, hl⟩
theorem RR.blk {W : World} {D g : Nat} {f : Bool} {r : List Int} (h : RR W D g f r) : ∃ cs, Blk W g 107 cs := by
 obtain ⟨_, A, c, h1, _⟩ := h
 exact ⟨_, h1⟩
def RdD (D : Nat) (w : World) (v : Value) (l : List Int) : Prop := ∃ A c, v = .slice A l.length c ∧ ((A = none → c = 0) ∧ l.length ≤ c ∧ c ≤ maxLen) ∧ Rd w D A l
theorem RdD.below {D : Nat} {w w' : World} {v : Value} {l : List Int} (h : RdD D w v l) (hb : Below D w w') : RdD D w' v l := by
 obtain ⟨A, c, e, h0, h1⟩ := h
 exact ⟨A, c, e, h0, h1.below hb⟩
theorem RdD.rdc {D : Nat} {w : World} {v : Value} {l : List Int} (h : RdD D w v l) (hD : D ≤ w.heap.size) : RdC w v l := by
 obtain ⟨A, c, e, h0, h1⟩ := h
 exact ⟨A, c, e, h0, h1.more hD⟩
theorem take_rdD {D g : Nat} {t : Option (List Int) × Bool × List Int} {w w' : World} {e : Ending} (h : TakeR D g t w e w') : ∃ v, e = .returned v ∧ RdD D w' v (t.1.getD []) ∧ RR w' D g t.2.1 t.2.2 ∧ w.grownBy w' (some g) := by
 obtain ⟨A1, c1, e1, h1, h2, h3, h4, h5, h6, h7⟩ := take_form h
 exact ⟨_, e1, ⟨A1, c1, rfl, ⟨h2, h4, by unfold maxLen; omega⟩, h1⟩, h6, h7⟩
section
variable {w W W' : World} {g Bo : Nat} {o : Opn} {va vp vc : Value} {f f' : Bool} {r r' : List Int}
theorem bel_bel (h : Below w.heap.size w W) (h' : Below w.heap.size w W') (hz : W.heap.size ≤ W'.heap.size) : Below w.heap.size W W' :=
 ⟨h'.os.trans h.os.symm, h'.tape.trans h.tape.symm, h'.output.trans h.output.symm, hz, fun k hk => (h'.block k hk).trans (h.block k hk).symm⟩
end
end Go.Proofs.YtcjiofhjognklaaGreat.Tlv
namespace Go.Proofs.YtcjiofhjognklaaGreat.Tlv
open Go.RowKit
set_option maxRecDepth 100000
set_option linter.unusedVariables false
set_option linter.unusedSimpArgs false
theorem items_five : ∀ (n : Nat) (l : List Int), l.length ≤ n → 5 * (items l).length ≤ l.length := by
 intro n
 induction n with
 | zero =>
   intro l h
   obtain rfl : l = [] := List.eq_nil_of_length_eq_zero (by omega)
   rw [items_no (l := []) rfl]
   exact Nat.le_refl _
 | succ n ih =>
   intro l h
   cases hst : stands l with
   | false => rw [items_no hst]; simp
   | true =>
     have hp := (of_decide_eq_true hst : 5 ≤ l.length ∧ _)
     have := ih (l.drop (5 + nv l)) (by rw [List.length_drop]; omega)
     rw [List.length_drop] at this
     unfold items
     rw [dif_pos hst]
     simp only [List.length_cons]
     omega
theorem numV_rest (t : Option (List Int) × Bool × List Int) : (numV t).2.2 = t.2.2 := by
 unfold numV
 split <;> rfl
theorem rdD_len {D : Nat} {w : World} {v : Value} {l : List Int} (h : RdD D w v l) : ∃ A c n, v = .slice A n c ∧ Hid (n = l.length) := by
 obtain ⟨A, c, e, _⟩ := h
 exact ⟨A, c, _, e, Lib.hid rfl⟩
theorem goodH_nil (w : World) (B : Nat) : GoodH w B [] := fun x hx => by simp at hx
theorem val_out (tag : Int) (xs p : List Int) (A : Option Addr) (c : Nat) (w : World) (hr : Rd w w.heap.size A xs) (hA : A = none → c = 0) (hx : xs.length ≤ 4194304) (hp : p = valB tag xs) :
   Calls Tryz.prog 79 #[.int .u8 tag, .slice A xs.length c] w fun e w' => ∃ A' c', e = .returned (.slice A' p.length c') ∧ Rows2 w' w.heap.size A' c' p ∧ Below w.heap.size w w' := by
 refine (refValue_any tag xs A c w hr hA hx).mono ?_
 rintro e w' ⟨v, rfl, h1, h2⟩
 subst hp
 obtain ⟨A', c', rfl, h3⟩ := row_two h1
 exact ⟨A', c', rfl, h3, h2⟩
theorem num_out2 (tag n : Int) (p : List Int) (w : World) (hn : 0 ≤ n) (hn2 : n < 18446744073709551616) (hp : p = numB tag n) :
   Calls Tryz.prog 78 #[.int .u8 tag, .int .u64 n] w fun e w' => ∃ A' c', e = .returned (.slice A' p.length c') ∧ Rows2 w' w.heap.size A' c' p ∧ Below w.heap.size w w' := by
 refine (refNumber_any tag n w hn hn2).mono ?_
 rintro e w' ⟨v, rfl, h1, h2⟩
 subst hp
 obtain ⟨A', c', rfl, h3⟩ := row_two h1
 exact ⟨A', c', rfl, h3, h2⟩
end Go.Proofs.YtcjiofhjognklaaGreat.Tlv
namespace Go.Proofs.YtcjiofhjognklaaGreat.Tlv
open Go.RowKit Go.Lib Go.Sort
set_option maxRecDepth 100000
set_option linter.unusedVariables false
set_option linter.unusedSimpArgs false
theorem Calls_same {N : Nat} {args : Array Value} {v : Value} {w : World} (h : Calls Tryz.prog N args w fun e w' => e = .returned v ∧ w = w') : Calls Tryz.prog N args w fun e w' => e = .returned v ∧ Below w.heap.size w w' := h.mono fun e w' ⟨h1, h2⟩ => ⟨h1, by rw [← h2]; exact Below.refl _ _⟩
abbrev KnownOut (w : World) (e : Ending) (w' : World) : Prop := e = .returned (.bool true) ∧ Below w.heap.size w w'
end Go.Proofs.YtcjiofhjognklaaGreat.Tlv
namespace Go.Proofs.YtcjiofhjognklaaGreat.Tlv
open Go.RowKit
set_option maxRecDepth 100000
set_option linter.unusedVariables false
set_option linter.unusedSimpArgs false
theorem own_form {W : World} {nb : Nat} {e : TypeId} {size : Nat} {A : Option Addr} {n c : Nat} {xs : List Value} (h : W.ownsRow nb e size (.slice A n c) n xs) (hn : 0 < n) : ∃ g, A = some ⟨g, 0, none⟩ ∧ nb ≤ g ∧ ∃ cs, Blk W g e cs := by
 rcases h.2 with ⟨e2, h0⟩ | ⟨g', cap, cur, e2, hg, hh, _⟩
 · omega
 · injection e2 with e2 e3
   exact ⟨g', e2, hg, cur, hh⟩
section
variable {nb b15 B14 : Nat} {Wn W15 W : World} {cs14 : Array Value} {v3 v4 v5 : Value} {n3 n4 n5 : Nat}
end
theorem row_bytes {W : World} {nb : Nat} {v : Value} {l : List Int} (h : RowK kB W nb v l) : ∃ xs, W.ownsRow nb 5 1 v l.length xs ∧ ∀ j, j < l.length → ∃ y, xs[j]? = some (.int .u8 y) := by
 have h2 := row_k.1 h
 refine ⟨_, h2, fun j hj => ⟨l.getD j 0, ?_⟩⟩
 rw [List.getElem?_map, List.getElem?_eq_getElem hj, List.getD_eq_getElem?_getD, List.getElem?_eq_getElem hj]
 rfl
end Go.Proofs.YtcjiofhjognklaaGreat.Tlv
namespace Go.Proofs.YtcjiofhjognklaaGreat.Tlv
open Go.RowKit Go.Lib Go.Sort
set_option maxRecDepth 100000
set_option linter.unusedVariables false
set_option linter.unusedSimpArgs false
theorem wpList_appT {α : Type} [Inhabited α] (K : Kind α) {w : World} {ops : Array Oper} {rest : List Oper} {o : Oper} {a : Act} {Q : Exit → Act → World → Prop} (hgd : o.guard = none) (s x : Operand)
   (ho : o.op = .call { callee := .builtin .append, args := #[s, x], argTypes := #[K.st, K.st] })
   {base B : Nat} {v : Value} {l : List α} {A : Option Addr} {c n : Nat} (m : List α) (hnn : n = m.length) (hs : a.eval s = v) (hown : RowK K w base v l) (hx : a.eval x = .slice A n c) (hr : RdK K w B A m) (hA : A = none → c = 0)
   (hn : l.length + m.length ≤ 1000000000) (hb : base ≤ w.heap.size)
   (h : ∀ v' w', RowK K w' base v' (l ++ m) → w.grownBy w' v.ownBlock → wpList Tryz.prog ops Q rest (a.put o.dst v') w') :
   wpList Tryz.prog ops Q (o :: rest) a w := by
 subst hnn
 exact wpList_appK K hgd s x ho m hs hown hx hr hA hn hb h
theorem grown_nil {W W' : World} (h : W.grownBy W' (Value.slice none 0 0).ownBlock) : Below W.heap.size W W' := row_below (nil_row kB W W.heap.size) h (Nat.le_refl _)
end Go.Proofs.YtcjiofhjognklaaGreat.Tlv
namespace Go.Proofs.YtcjiofhjognklaaGreat.Tlv
open Go.RowKit
set_option maxRecDepth 100000
set_option linter.unusedVariables false
set_option linter.unusedSimpArgs false
def EnO (w : World) (base : Nat) (es : List En) (l : List Eny) : Prop := es.length = l.length ∧ ∀ i, i < es.length → (es.getD i default).nm = (l.getD i default).nm ∧ YtcjiofhjognklaaGreat.RowK kA w base (es.getD i default).v (l.getD i default).ats
theorem EnO.fit {w w' : World} {base : Nat} {es : List En} {l : List Eny} (h : EnO w base es l) (hk : ∀ k cs, base ≤ k → Blk w k 67 cs → w'.heap[k]? = w.heap[k]?) : EnO w' base es l :=
 ⟨h.1, fun i hi => ⟨(h.2 i hi).1, RowK.fit (h.2 i hi).2 fun k e => by
   obtain ⟨h1, _, cs, h3⟩ := own_at (h.2 i hi).2 e
   exact hk k cs h1 h3⟩⟩
theorem EnO.on {w w' : World} {base : Nat} {es : List En} {l : List Eny} (h : EnO w base es l) (hb : Below w.heap.size w w') : EnO w' base es l := h.fit fun k cs _ hc => hb.block k (Blk.lt hc)
theorem EnO.enl {w : World} {base : Nat} {es : List En} {l : List Eny} (h : EnO w base es l) : EnL w es l := ⟨h.1, fun i hi => ⟨(h.2 i hi).1, YtcjiofhjognklaaGreat.RowK.rdv (h.2 i hi).2⟩⟩
theorem EnO.low {w : World} {base base' : Nat} {es : List En} {l : List Eny} (h : EnO w base es l) (hb : base' ≤ base) : EnO w base' es l := ⟨h.1, fun i hi => ⟨(h.2 i hi).1, YtcjiofhjognklaaGreat.RowK.low (h.2 i hi).2 hb⟩⟩
theorem EnO.snoc {w : World} {base : Nat} {es : List En} {l : List Eny} {x : En} {y : Eny} (h : EnO w base es l) (hn : x.nm = y.nm) (hr : YtcjiofhjognklaaGreat.RowK kA w base x.v y.ats) : EnO w base (es ++ [x]) (l ++ [y]) := by
 refine ⟨by simp [h.1], fun i hi => ?_⟩
 rw [List.length_append, List.length_singleton] at hi
 by_cases e : i < es.length
 · have h1 := h.2 i e
   have h2 : (es ++ [x]).getD i default = es.getD i default := by rw [List.getD_eq_getElem?_getD, List.getElem?_append_left e, ← List.getD_eq_getElem?_getD]
   have h3 : (l ++ [y]).getD i default = l.getD i default := by rw [List.getD_eq_getElem?_getD, List.getElem?_append_left (by rw [← h.1]; exact e), ← List.getD_eq_getElem?_getD]
   rw [h2, h3]
   exact h1
 · have e2 : i = es.length := by omega
   subst e2
   have h2 : (es ++ [x]).getD es.length default = x := by rw [List.getD_eq_getElem?_getD, List.getElem?_append_right (Nat.le_refl _)]; simp
   have h3 : (l ++ [y]).getD es.length default = y := by rw [h.1, List.getD_eq_getElem?_getD, List.getElem?_append_right (Nat.le_refl _)]; simp
   rw [h2, h3]
   exact ⟨hn, hr⟩
theorem EnO.nil (w : World) (base : Nat) : EnO w base [] [] := ⟨rfl, fun i hi => by simp at hi⟩
theorem rd_oneE (w : World) (x : En) : RdK kE (w.alloc (.cells #[.string (sx x.nm), x.v] 126)) (w.alloc (.cells #[.string (sx x.nm), x.v] 126)).heap.size (some ⟨w.heap.size, 0, none⟩) [x] := fun _ => by
 refine ⟨w.heap.size, 0, rfl, by rw [World.size_alloc]; omega, fun j hj i u hu => ?_⟩
 have e : j = 0 := by simpa using hj
 subst e
 have k := Blk.new w 126 #[.string (sx x.nm), x.v]
 rw [Nat.zero_mul, Nat.zero_add, k.cell]
 simpa [kE] using hu
theorem take_snocE (l : List Eny) (k : Nat) (h : k < l.length) : l.take (k + 1) = l.take k ++ [l.getD k default] := by
 rw [List.take_add_one, List.getD_eq_getElem?_getD, List.getElem?_eq_getElem h]
 rfl
structure ResOwn (w : World) (base : Nat) (r : Res) (ve vc : Value) : Prop where
 e : ∃ es, RowK kE w base ve es ∧ EnO w base es r.es
 c : RowK kB w base vc r.cur
theorem ResOwn.at {w : World} {base : Nat} {r : Res} {ve vc : Value} (h : ResOwn w base r ve vc) : ResAt w r ve vc := by
 refine ⟨?_, h.c.rdc2⟩
 obtain ⟨es, h1, h2⟩ := h.e
 obtain ⟨A, c, e, h0, h3⟩ := h1.rd0
 refine ⟨es, A, c, e, ⟨h0, ?_⟩, h3, h2.enl⟩
 rcases h1.2 with ⟨e2, hn⟩ | ⟨g, cap, cur, e2, _, _, h5, h6, _⟩
 · rw [e] at e2
   injection e2 with e3 e4 e5
   unfold maxLen
   omega
 · rw [e] at e2
   injection e2 with e3 e4 e5
   subst e5
   exact ⟨h5, h6⟩
theorem ResOwn.keep {w w' : World} {base : Nat} {r : Res} {ve vc : Value} (h : ResOwn w base r ve vc) (hb : ∀ k, base ≤ k → k < w.heap.size → w'.heap[k]? = w.heap[k]?) : ResOwn w' base r ve vc := by
 obtain ⟨⟨es, h1, h2⟩, h3⟩ := h
 exact ⟨⟨es, RowK.fitT h1 fun k e => hb k (own_atT h1 e).1 (own_atT h1 e).2.1, h2.fit fun k cs h4 h5 => hb k h4 (Blk.lt h5)⟩, RowK.fitT h3 fun k e => hb k (own_atT h3 e).1 (own_atT h3 e).2.1⟩
theorem ResOwn.low {w : World} {base base' : Nat} {r : Res} {ve vc : Value} (h : ResOwn w base r ve vc) (hb : base' ≤ base) : ResOwn w base' r ve vc := by
 obtain ⟨⟨es, h1, h2⟩, h3⟩ := h
 exact ⟨⟨es, RowK.lowR h1 hb, h2.low hb⟩, RowK.lowR h3 hb⟩
end Go.Proofs.YtcjiofhjognklaaGreat.Tlv
namespace Go.Proofs.YtcjiofhjognklaaGreat.Tlv
open Go.RowKit Go.Lib Go.Sort
set_option maxRecDepth 100000
set_option linter.unusedVariables false
set_option linter.unusedSimpArgs false
def HG (w : World) (hs : List Hand) : Prop := ∀ x ∈ hs, Rd w w.heap.size x.A x.bs ∧ (x.A = none → x.c = 0) ∧ x.bs.length ≤ 4194304
theorem handsB_snoc (l : List Hand) (k : Nat) (h : k < l.length) : handsB (l.take (k + 1)) = handsB (l.take k) ++ valB 1 (l.getD k default).bs := by
 rw [take_snocH l k h]
 unfold handsB
 rw [List.flatMap_append]
 simp
set_option maxHeartbeats 8000000 in
theorem list89_any (tag : Int) (hs : List Hand) (p : List Int) (A : Option Addr) (c : Nat) (w : World) (hr : RdK kS w w.heap.size A hs) (hg : HG w hs) (hl : hs.length ≤ 1000000) (ht : (handsB hs).length ≤ 4194304) (hp : p = valB tag (handsB hs)) :
   Calls Tryz.prog 89 #[.int .u8 tag, .slice A hs.length c] w fun e w' => ∃ A' c', e = .returned (.tuple #[.slice A' p.length c', .bool true]) ∧ Rows2 w' w.heap.size A' c' p ∧ Below w.heap.size w w' := by
 obtain ⟨n, hnn⟩ : ∃ n, n = hs.length := ⟨_, rfl⟩
 rw [← hnn]
 have HN := Lib.hid hnn
 have HR := Lib.hid (And.intro hr hg)
 have hn : n ≤ 1000000 := by omega
 have HP := Lib.hid (And.intro hp ht)
 clear hr hg hl ht hp hnn
 go_enter Tryz.func89, Tryz.ntmps89
 go_wp2
 go_loopw [6, 7] (fun s5 s6 wr => ∃ k : Nat, s6 = .int .i64 k ∧ k ≤ n ∧ Hid (RowK kB wr w.heap.size s5 (handsB (hs.take k)) ∧ Below w.heap.size w wr)) (fun _ s6 _ => n - (intOf s6).toNat)
 case atStart => exact ⟨0, rfl, Nat.zero_le _, Lib.hid ⟨nil_row kB _ _, Below.refl _ _⟩⟩
 case round =>
   obtain ⟨k, rfl, hk, H⟩ := hrel
   have hpl : (handsB (hs.take k)).length ≤ 4194304 := Nat.le_trans (handsB_take hs k) HP.out.2
   by_cases hlt : k < n
   · have hkl : k < hs.length := by have := HN.out; omega
     obtain ⟨b, off, rfl, hbl, c0⟩ := hand_cell (HR.out.1.on H.out.2) hkl
     obtain ⟨g1, g2, g3⟩ := HR.out.2 _ (mem_getH hkl)
     have HAS := Lib.hid (handsB_snoc hs k hkl)
     generalize hs.getD k default = x at c0 g1 g2 g3 HAS
     obtain ⟨xt, xA, xc, xb⟩ := x
     dsimp only at c0 g1 g2 g3 HAS
     obtain ⟨q, hq⟩ : ∃ q, q = valB 1 xb := ⟨_, rfl⟩
     rw [← hq] at HAS
     have hql : q.length ≤ 4194400 := by rw [hq, valB_length]; omega
     have HV := Lib.hid (val_out 1 xb q xA xc wr (g1.on H.out.2) g2 g3 hq)
     obtain ⟨m, hm⟩ : ∃ m, m = xb.length := ⟨_, rfl⟩
     rw [← hm] at c0 HV
     have HL := Lib.hid (And.intro hpl hql)
     clear g1 g2 g3 hq hpl hql hkl hm
     generalize handsB (hs.take k) = u at H HAS HL
     have HZ := Lib.hid H.out.2.size
     go_wp2_with (first
       | (go_at_call 79; (with_reducible refine HV.out.mono ?_); clear HV c0; rintro e w2 ⟨A2, c2, rfl, hr2, hb2⟩; dsimp only; have H2 := Lib.hid (And.intro hr2 hb2); clear hr2 hb2)
       | (at_builtin; refine wpList_appK kB rfl _ _ rfl q rfl (row_k.2 (Row.below (row_k.1 H.out.1) H2.out.2)) rfl (rd_k H2.out.1.2.1) H2.out.1.2.2 (by have h1 := HL.out.1; have h2 := HL.out.2; omega) (Nat.le_trans HZ.out H2.out.2.size) ?_; intro v8 w8 hrow8 hgr8; have H8 := Lib.hid (And.intro hrow8 (row_below (row_k.2 (Row.below (row_k.1 H.out.1) H2.out.2)) hgr8 (Nat.le_trans HZ.out H2.out.2.size))); clear hrow8 hgr8))
     go_roundw
     case rel => exact ⟨k + 1, by go_num, by omega, Lib.hid ⟨by rw [HAS.out]; exact H8.out.1, (H.out.2.trans (H2.out.2.mono HZ.out)).trans H8.out.2⟩⟩
     case measure => simp [intOf]; omega
   · have hkn : k = n := by omega
     subst hkn
     have HLT : Hid (hs.take k = hs) := Lib.hid (by rw [HN.out, List.take_length])
     rw [HLT.out] at hpl H
     obtain ⟨A5, c5, rfl, hr5⟩ := row_two (row_k.1 H.out.1)
     have H6 := Lib.hid (val_out tag (handsB hs) p A5 c5 wr hr5.2.1 hr5.2.2 hpl HP.out.1)
     have HB := Lib.hid H.out.2
     obtain ⟨m, hm⟩ : ∃ m, m = (handsB hs).length := ⟨_, rfl⟩
     rw [← hm] at H6 hpl ⊢
     have hpl' : (m : Int) ≤ 4194304 := by omega
     clear H hr5 hpl hm
     go_wp2_with (go_at_call 79; (with_reducible refine H6.out.mono ?_); clear H6; rintro e w' ⟨A', c', rfl, h1, h2⟩; dsimp only; have HF := Lib.hid (And.intro h1 h2); clear h1 h2)
     go_ret2
     refine ⟨_, _, rfl, ⟨row_k.2 ((row_k.1 HF.out.1.1).lowR HB.out.size), HF.out.1.2⟩, HB.out.trans (HF.out.2.mono HB.out.size)⟩
theorem flag_out (tag : Int) (y : Bool) (p : List Int) (w : World) (hp : p = flgB tag y) :
   Calls Tryz.prog 90 #[.int .u8 tag, .bool y] w fun e w' => ∃ A' c', e = .returned (.slice A' p.length c') ∧ Rows2 w' w.heap.size A' c' p ∧ Below w.heap.size w w' := by
 refine (refFlag_any tag y w).mono ?_
 rintro e w' ⟨v, rfl, h1, h2⟩
 subst hp
 obtain ⟨A', c', rfl, h3⟩ := row_two h1
 exact ⟨A', c', rfl, h3, h2⟩
theorem rows2_apart {w w' : World} {base base0 c : Nat} {A : Option Addr} {l l0 : List Int} {v : Value} (h : Rows2 w base A c l) (h0 : RowK kB w base0 v l0) (hg : w.grownBy w' v.ownBlock) (hlt : ∀ g, v.ownBlock = some g → g < base) : Rows2 w' base A c l := by
 have h1 : RowK kB w' base (.slice A l.length c) l := RowK.fitT h.1 fun g e => hg.block g (own_atT h.1 e).2.1 (fun e2 => by
   have h3 := hlt g e2.symm
   have h4 := (own_atT h.1 e).1
   omega)
 obtain ⟨A', c', e, h2⟩ := row_two (row_k.1 h1)
 injection e with e1 e2 e3
 subst e1 e3
 exact h2
theorem HOk.snoc {W : World} {base : Nat} {hs : List Hand} {l : List Eny} (h : HOk W base hs l l.length) (x : Hand) (y : Eny) (hx : RowK kB W base (.slice x.A x.bs.length x.c) x.bs) (he : x.bs = entB y.nm y.ats) (hm : mayEn y = true) : HOk W base (hs ++ [x]) (l ++ [y]) (l ++ [y]).length := by
 refine ⟨by rw [List.length_append, List.length_append, h.1]; rfl, fun j hj => ?_⟩
 rw [List.length_append, List.length_singleton] at hj
 by_cases e : j < l.length
 · have e1 : (hs ++ [x]).getD j default = hs.getD j default := by rw [List.getD_eq_getElem?_getD, List.getElem?_append_left (by rw [h.1]; exact e), ← List.getD_eq_getElem?_getD]
   have e2 : (l ++ [y]).getD j default = l.getD j default := by rw [List.getD_eq_getElem?_getD, List.getElem?_append_left e, ← List.getD_eq_getElem?_getD]
   rw [e1, e2]
   exact h.2 j e
 · have ej : j = l.length := by omega
   subst ej
   have e1 : (hs ++ [x]).getD l.length default = x := by rw [← h.1]; simp
   have e2 : (l ++ [y]).getD l.length default = y := by simp
   rw [e1, e2]
   exact ⟨hx, he, hm⟩
theorem HOk.grow {W W' : World} {base : Nat} {hs : List Hand} {l : List Eny} {k : Nat} {v : Value} {ms : List Hand} (h : HOk W base hs l k) (hr : RowK kS W base v ms) (hg : W.grownBy W' v.ownBlock) : HOk W' base hs l k :=
 ⟨h.1, fun j hj => ⟨RowK.fitT (h.2 j hj).1 fun g e => hg.block g (own_atT (h.2 j hj).1 e).2.1 (fun e2 => by
   obtain ⟨_, _, cs, hc⟩ := own_atT (h.2 j hj).1 e
   obtain ⟨_, _, cs', hc'⟩ := own_atT hr e2.symm
   exact blk_ne hc hc' (by decide) rfl), (h.2 j hj).2⟩⟩
theorem rd_oneS (w : World) (x : Hand) : RdK kS (w.alloc (.cells #[.slice x.A x.bs.length x.c] 25)) (w.alloc (.cells #[.slice x.A x.bs.length x.c] 25)).heap.size (some ⟨w.heap.size, 0, none⟩) [x] := rd_block (K := kS) (l := [x]) (Blk.new _ _ _) rfl
end Go.Proofs.YtcjiofhjognklaaGreat.Tlv
