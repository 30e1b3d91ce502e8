/- The operation of bytes. -/
import Derived.Test.YtidkpdoiblomjaaZ31
import Derived.Test.YtidkpdoiblomjaaZ26
import Derived.Test.YtidkpdoiblomjaaZ18
import Derived.Lib.QuietBelow
import Derived.Deep.RegionLaw
import Derived.Test.YtidkpdoiblomjaaZ32
import Derived.Laws.OwnMore
import Derived.Test.YtidkpdoiblomjaaZ30
import Derived.Test.YtidkpdoiblomjaaZ19
namespace Go.Proofs.Ytidkpdoiblomjaa.Tlv
open Go.RowKit
set_option maxRecDepth 100000
set_option linter.unusedVariables false
set_option linter.unusedSimpArgs false
theorem RowK.rdc2 {w : World} {base : Nat} {v : Value} {l : List Int} (h : RowK kB w base v l) : RdC w v l := by
 obtain ⟨A, c, e, h0, h1⟩ := h.rd0
 refine ⟨A, c, e, ⟨h0, ?_⟩, k_rd h1⟩
 rcases h.2 with ⟨e2, hn⟩ | ⟨g, cap, cur, e2, _, _, h5, h6, _⟩
 · rw [e] at e2
   injection e2 with e3 e4 e5
   unfold maxLen
   omega
 · rw [e] at e2
   injection e2 with e3 e4 e5
   subst e5
   exact ⟨h5, h6⟩
end Go.Proofs.Ytidkpdoiblomjaa.Tlv
namespace Go.Proofs.Ytidkpdoiblomjaa.Tlv
open Go.RowKit
set_option maxRecDepth 100000
set_option linter.unusedVariables false
set_option linter.unusedSimpArgs false
open Go.Lib Go.Sort
theorem ended_ws (g m base : Nat) (q : List Int) (w : World) (h : WS w base g (some q) m) (hl : q.length ≤ 1000000000000) :
   Calls Try.prog 59 #[.pointer (some ⟨g, 0, none⟩)] w fun e w' => ∃ v', e = .returned (.tuple #[v', .int .i64 0]) ∧ Row w' w.heap.size v' q ∧ Below w.heap.size w w' := by
 have HE : Hid (Calls Try.prog 71 #[ptr g] w fun e w' => ∃ v', e = .returned (.tuple #[v', .int .i64 0]) ∧ Row w' w.heap.size v' q ∧ Below w.heap.size w w') := Lib.hid (by
   obtain ⟨v, h1, h2⟩ := h
   exact end_ok g v m q base w h1 h2 hl)
 clear h
 go_enter Try.func59, Try.ntmps59
 go_wp2_with fail
 refine HE.out.mono ?_
 rintro e w1 ⟨v1, rfl, hr, hb⟩
 have H := Lib.hid (And.intro hr hb)
 obtain ⟨A, c, rfl, _, _⟩ := hr.rd
 clear hr hb
 go_wp2_with fail
 go_ret2
 exact ⟨_, rfl, H.out⟩
theorem wpQuiet_row {P : Program} {ops : Array Oper} {C : World → Prop} {Q : Act → Prop} {a : Act} {o : Oper} {rest : List Oper} (ty : TypeId) (x : Operand) (ho : o.op = .load ty x) (D : Addr) (cs : Array Value) (hw : Region.wanted o (yielded ops a.tmps) = true) (hx : a.eval x = .pointer (some D))
   (hl : ∀ w, C w → (loadVar ty D).run P w = .ok (.agg cs) w) (h : wpQuiet P ops C Q rest (a.put o.dst (.agg cs))) : wpQuiet P ops C Q (o :: rest) a := by
 unfold wpQuiet
 rw [if_pos hw]
 refine ⟨.agg cs, fun w hC => ?_, h⟩
 unfold Oper.quietAt execOp
 simp only [ho, hx, Instr.loadAt, Instr.sureAddr, Sem.run_bind, Sem.run_pure, Result.andThen_ok, hl w hC]
 exact ⟨rfl, rfl⟩
end Go.Proofs.Ytidkpdoiblomjaa.Tlv
namespace Go.Proofs.Ytidkpdoiblomjaa.Tlv
open Go.RowKit Go.Lib Go.Sort
set_option maxRecDepth 100000
set_option linter.unusedVariables false
set_option linter.unusedSimpArgs false
theorem wpList_appT {α : Type} [Inhabited α] (K : Kind α) {w : World} {ops : Array Oper} {rest : List Oper} {o : Oper} {a : Act} {Q : Exit → Act → World → Prop} (hgd : o.guard = none) (s x : Operand)
   (ho : o.op = .call { callee := .builtin .append, args := #[s, x], argTypes := #[K.st, K.st] })
   {base B : Nat} {v : Value} {l : List α} {A : Option Addr} {c n : Nat} (m : List α) (hnn : n = m.length) (hs : a.eval s = v) (hown : RowK K w base v l) (hx : a.eval x = .slice A n c) (hr : RdK K w B A m) (hA : A = none → c = 0)
   (hn : l.length + m.length ≤ 1000000000) (hb : base ≤ w.heap.size)
   (h : ∀ v' w', RowK K w' base v' (l ++ m) → w.grownBy w' v.ownBlock → wpList Try.prog ops Q rest (a.put o.dst v') w') :
   wpList Try.prog ops Q (o :: rest) a w := by
 subst hnn
 exact wpList_appK K hgd s x ho m hs hown hx hr hA hn hb h
theorem grown_nil {W W' : World} (h : W.grownBy W' (Value.slice none 0 0).ownBlock) : Below W.heap.size W W' := row_below (nil_row kB W W.heap.size) h (Nat.le_refl _)
end Go.Proofs.Ytidkpdoiblomjaa.Tlv
namespace Go.Proofs.Ytidkpdoiblomjaa.Tlv
open Go.RowKit
set_option maxRecDepth 100000
set_option linter.unusedVariables false
set_option linter.unusedSimpArgs false
def EnO (w : World) (base : Nat) (es : List En) (l : List Eny) : Prop := es.length = l.length ∧ ∀ i, i < es.length → (es.getD i default).nm = (l.getD i default).nm ∧ Ytidkpdoiblomjaa.RowK kA w base (es.getD i default).v (l.getD i default).ats
theorem EnO.fit {w w' : World} {base : Nat} {es : List En} {l : List Eny} (h : EnO w base es l) (hk : ∀ k cs, base ≤ k → Blk w k 117 cs → w'.heap[k]? = w.heap[k]?) : EnO w' base es l :=
 ⟨h.1, fun i hi => ⟨(h.2 i hi).1, RowK.fit (h.2 i hi).2 fun k e => by
   obtain ⟨h1, _, cs, h3⟩ := own_at (h.2 i hi).2 e
   exact hk k cs h1 h3⟩⟩
theorem EnO.on {w w' : World} {base : Nat} {es : List En} {l : List Eny} (h : EnO w base es l) (hb : Below w.heap.size w w') : EnO w' base es l := h.fit fun k cs _ hc => hb.block k (Blk.lt hc)
theorem EnO.enl {w : World} {base : Nat} {es : List En} {l : List Eny} (h : EnO w base es l) : EnL w es l := ⟨h.1, fun i hi => ⟨(h.2 i hi).1, Ytidkpdoiblomjaa.RowK.rdv (h.2 i hi).2⟩⟩
theorem EnO.low {w : World} {base base' : Nat} {es : List En} {l : List Eny} (h : EnO w base es l) (hb : base' ≤ base) : EnO w base' es l := ⟨h.1, fun i hi => ⟨(h.2 i hi).1, Ytidkpdoiblomjaa.RowK.low (h.2 i hi).2 hb⟩⟩
theorem EnO.snoc {w : World} {base : Nat} {es : List En} {l : List Eny} {x : En} {y : Eny} (h : EnO w base es l) (hn : x.nm = y.nm) (hr : Ytidkpdoiblomjaa.RowK kA w base x.v y.ats) : EnO w base (es ++ [x]) (l ++ [y]) := by
 refine ⟨by simp [h.1], fun i hi => ?_⟩
 rw [List.length_append, List.length_singleton] at hi
 by_cases e : i < es.length
 · have h1 := h.2 i e
   have h2 : (es ++ [x]).getD i default = es.getD i default := by rw [List.getD_eq_getElem?_getD, List.getElem?_append_left e, ← List.getD_eq_getElem?_getD]
   have h3 : (l ++ [y]).getD i default = l.getD i default := by rw [List.getD_eq_getElem?_getD, List.getElem?_append_left (by rw [← h.1]; exact e), ← List.getD_eq_getElem?_getD]
   rw [h2, h3]
   exact h1
 · have e2 : i = es.length := by omega
   subst e2
   have h2 : (es ++ [x]).getD es.length default = x := by rw [List.getD_eq_getElem?_getD, List.getElem?_append_right (Nat.le_refl _)]; simp
   have h3 : (l ++ [y]).getD es.length default = y := by rw [h.1, List.getD_eq_getElem?_getD, List.getElem?_append_right (Nat.le_refl _)]; simp
   rw [h2, h3]
   exact ⟨hn, hr⟩
theorem EnO.nil (w : World) (base : Nat) : EnO w base [] [] := ⟨rfl, fun i hi => by simp at hi⟩
theorem rd_oneE (w : World) (x : En) : RdK kE (w.alloc (.cells #[.string (sx x.nm), x.v] 47)) (w.alloc (.cells #[.string (sx x.nm), x.v] 47)).heap.size (some ⟨w.heap.size, 0, none⟩) [x] := fun _ => by
 refine ⟨w.heap.size, 0, rfl, by rw [World.size_alloc]; omega, fun j hj i u hu => ?_⟩
 have e : j = 0 := by simpa using hj
 subst e
 have k := Blk.new w 47 #[.string (sx x.nm), x.v]
 rw [Nat.zero_mul, Nat.zero_add, k.cell]
 simpa [kE] using hu
theorem take_snocE (l : List Eny) (k : Nat) (h : k < l.length) : l.take (k + 1) = l.take k ++ [l.getD k default] := by
 rw [List.take_add_one, List.getD_eq_getElem?_getD, List.getElem?_eq_getElem h]
 rfl
structure ResOwn (w : World) (base : Nat) (r : Res) (ve vc : Value) : Prop where
 e : ∃ es, RowK kE w base ve es ∧ EnO w base es r.es
 c : RowK kB w base vc r.cur
theorem ResOwn.at {w : World} {base : Nat} {r : Res} {ve vc : Value} (h : ResOwn w base r ve vc) : ResAt w r ve vc := by
 refine ⟨?_, h.c.rdc2⟩
 obtain ⟨es, h1, h2⟩ := h.e
 obtain ⟨A, c, e, h0, h3⟩ := h1.rd0
 refine ⟨es, A, c, e, ⟨h0, ?_⟩, h3, h2.enl⟩
 rcases h1.2 with ⟨e2, hn⟩ | ⟨g, cap, cur, e2, _, _, h5, h6, _⟩
 · rw [e] at e2
   injection e2 with e3 e4 e5
   unfold maxLen
   omega
 · rw [e] at e2
   injection e2 with e3 e4 e5
   subst e5
   exact ⟨h5, h6⟩
theorem ResOwn.keep {w w' : World} {base : Nat} {r : Res} {ve vc : Value} (h : ResOwn w base r ve vc) (hb : ∀ k, base ≤ k → k < w.heap.size → w'.heap[k]? = w.heap[k]?) : ResOwn w' base r ve vc := by
 obtain ⟨⟨es, h1, h2⟩, h3⟩ := h
 exact ⟨⟨es, RowK.fitT h1 fun k e => hb k (own_atT h1 e).1 (own_atT h1 e).2.1, h2.fit fun k cs h4 h5 => hb k h4 (Blk.lt h5)⟩, RowK.fitT h3 fun k e => hb k (own_atT h3 e).1 (own_atT h3 e).2.1⟩
theorem ResOwn.low {w : World} {base base' : Nat} {r : Res} {ve vc : Value} (h : ResOwn w base r ve vc) (hb : base' ≤ base) : ResOwn w base' r ve vc := by
 obtain ⟨⟨es, h1, h2⟩, h3⟩ := h
 exact ⟨⟨es, RowK.lowR h1 hb, h2.low hb⟩, RowK.lowR h3 hb⟩
end Go.Proofs.Ytidkpdoiblomjaa.Tlv
