/- Steps of the walk: copy, clear, append, each by what its run is known to be; slices.Delete's and slices.Insert's rows. -/
import Derived.Test.YtgjcomnljonffaaB4
import Derived.Deep.RegionLaw
import Derived.Lib.Overlaps
import Derived.Deep.DeepCutAuto
import Derived.Deep.Cut
import Derived.Deep.CutBlock
namespace Go.Proofs.Ytgjcomnljonffaa.Tlv
open Go.RowKit
set_option maxRecDepth 100000
set_option linter.unusedVariables false
set_option linter.unusedSimpArgs false
theorem wpList_cp {w : World} {ops : Array Oper} {rest : List Oper} {o : Oper} {a : Act} {Q : Exit → Act → World → Prop} (hgd : o.guard = none) (x y : Operand) (t t2 : TypeId)
    (ho : o.op = .call { callee := .builtin .copy, args := #[x, y], argTypes := #[t, t2] }) (vx vy : Value) (hx : a.eval x = vx) (hy : a.eval y = vy) {v' : Value} {w' : World}
    (hr : (Builtin.copy_ #[t, t2] o.type #[vx, vy]).run Try.prog w = .ok v' w') (h : wpList Try.prog ops Q rest (a.put o.dst v') w') : wpList Try.prog ops Q (o :: rest) a w := by
  refine wpList_plain hgd fun K hK => ?_
  unfold Oper.wp execOp
  simp only [ho, resolve, invoke, builtin, Sem.run_bind, Sem.run_pure, Result.andThen_ok, List.map_toArray, List.map_cons, List.map_nil, hx, hy, hr]
  exact hK _ _ h
theorem step_cp {ops : Array Oper} {o : Oper} {a : Act} {w : World} {K : Act → World → Prop} {Q : Exit → Act → World → Prop} {E : Prop} (hgd : o.guard = none) (x y : Operand) (t t2 : TypeId)
    (ho : o.op = .call { callee := .builtin .copy, args := #[x, y], argTypes := #[t, t2] }) (vx vy : Value) (hx : a.eval x = vx) (hy : a.eval y = vy) {v' : Value} {w' : World}
    (hr : (Builtin.copy_ #[t, t2] o.type #[vx, vy]).run Try.prog w = .ok v' w') (hK : K (a.put o.dst v') w') : if Region.wanted o (yielded ops a.tmps) = true then Oper.wp Try.prog o a w K Q else E := by
  have hw : Region.wanted o (yielded ops a.tmps) = true := by simp [Region.wanted, hgd]
  rw [if_pos hw]
  unfold Oper.wp
  simp only [execOp, ho, resolve, invoke, builtin, Sem.run_bind, Sem.run_pure, Result.andThen_ok, List.map_toArray, List.map_cons, List.map_nil, hx, hy, hr]
  exact hK
theorem wpList_cl {w : World} {ops : Array Oper} {rest : List Oper} {o : Oper} {a : Act} {Q : Exit → Act → World → Prop} (hgd : o.guard = none) (x : Operand) (t : TypeId)
    (ho : o.op = .call { callee := .builtin .clear, args := #[x], argTypes := #[t] }) (vx : Value) (hx : a.eval x = vx) {v' : Value} {w' : World}
    (hr : (Builtin.clear_ #[t] o.type #[vx]).run Try.prog w = .ok v' w') (h : wpList Try.prog ops Q rest (a.put o.dst v') w') : wpList Try.prog ops Q (o :: rest) a w := by
  refine wpList_plain hgd fun K hK => ?_
  unfold Oper.wp execOp
  simp only [ho, resolve, invoke, builtin, Sem.run_bind, Sem.run_pure, Result.andThen_ok, List.map_toArray, List.map_cons, List.map_nil, hx, hr]
  exact hK _ _ h
theorem step_cl {ops : Array Oper} {o : Oper} {a : Act} {w : World} {K : Act → World → Prop} {Q : Exit → Act → World → Prop} {E : Prop} (hgd : o.guard = none) (x : Operand) (t : TypeId)
    (ho : o.op = .call { callee := .builtin .clear, args := #[x], argTypes := #[t] }) (vx : Value) (hx : a.eval x = vx) {v' : Value} {w' : World}
    (hr : (Builtin.clear_ #[t] o.type #[vx]).run Try.prog w = .ok v' w') (hK : K (a.put o.dst v') w') : if Region.wanted o (yielded ops a.tmps) = true then Oper.wp Try.prog o a w K Q else E := by
  have hw : Region.wanted o (yielded ops a.tmps) = true := by simp [Region.wanted, hgd]
  rw [if_pos hw]
  unfold Oper.wp
  simp only [execOp, ho, resolve, invoke, builtin, Sem.run_bind, Sem.run_pure, Result.andThen_ok, List.map_toArray, List.map_cons, List.map_nil, hx, hr]
  exact hK
theorem wpList_ap {w : World} {ops : Array Oper} {rest : List Oper} {o : Oper} {a : Act} {Q : Exit → Act → World → Prop} (hgd : o.guard = none) (x y : Operand) (t t2 : TypeId)
    (ho : o.op = .call { callee := .builtin .append, args := #[x, y], argTypes := #[t, t2] }) (vx vy : Value) (hx : a.eval x = vx) (hy : a.eval y = vy) {v' : Value} {w' : World}
    (hr : (Builtin.append_ #[t, t2] o.type #[vx, vy]).run Try.prog w = .ok v' w') (h : wpList Try.prog ops Q rest (a.put o.dst v') w') : wpList Try.prog ops Q (o :: rest) a w := by
  refine wpList_plain hgd fun K hK => ?_
  unfold Oper.wp execOp
  simp only [ho, resolve, invoke, builtin, Sem.run_bind, Sem.run_pure, Result.andThen_ok, List.map_toArray, List.map_cons, List.map_nil, hx, hy, hr]
  exact hK _ _ h
theorem step_ap {ops : Array Oper} {o : Oper} {a : Act} {w : World} {K : Act → World → Prop} {Q : Exit → Act → World → Prop} {E : Prop} (hgd : o.guard = none) (x y : Operand) (t t2 : TypeId)
    (ho : o.op = .call { callee := .builtin .append, args := #[x, y], argTypes := #[t, t2] }) (vx vy : Value) (hx : a.eval x = vx) (hy : a.eval y = vy) {v' : Value} {w' : World}
    (hr : (Builtin.append_ #[t, t2] o.type #[vx, vy]).run Try.prog w = .ok v' w') (hK : K (a.put o.dst v') w') : if Region.wanted o (yielded ops a.tmps) = true then Oper.wp Try.prog o a w K Q else E := by
  have hw : Region.wanted o (yielded ops a.tmps) = true := by simp [Region.wanted, hgd]
  rw [if_pos hw]
  unfold Oper.wp
  simp only [execOp, ho, resolve, invoke, builtin, Sem.run_bind, Sem.run_pure, Result.andThen_ok, List.map_toArray, List.map_cons, List.map_nil, hx, hy, hr]
  exact hK
section
variable {α : Type} [Inhabited α] {K : Kind α}
/-- append onto a row of the call's own: where the new row lies, too. -/
theorem run_app5 (ty : TypeId) {w : World} {base B : Nat} {v : Value} {l : List α} {A : Option Addr} {c : Nat} (m : List α) (hown : RowK K w base v l) (hr : RdK K w B A m) (hA : A = none → c = 0)
    (hn : l.length + m.length ≤ 1000000000) (hb : base ≤ w.heap.size) :
    ∃ v' w', (Builtin.append_ #[K.st, K.st] ty #[v, .slice A m.length c]).run Try.prog w = .ok v' w' ∧ RowK K w' base v' (l ++ m) ∧ w.grownBy w' v.ownBlock ∧ (v'.ownBlock = v.ownBlock ∨ v'.ownBlock = some w.heap.size) := by
  obtain ⟨i0, z, hi, hz0, hz1, hz2, hz3⟩ := K.zero
  cases A with
  | none =>
    have hm : m = [] := rd_none hr
    subst hm
    have hc := hA rfl
    subst hc
    exact ⟨v, w, run_append_owned_none (P := Try.prog) (w := w) base K.st ty K.e i0 K.size K.sl hi v l.length (flatK K l) hown, by simpa using hown, World.grownBy.refl _ _, .inl rfl⟩
  | some ad =>
    have hby : (l.length + m.length) * K.bytes ≤ 140737488355328 := by
      have := Nat.mul_le_mul hn K.small
      omega
    obtain ⟨v', w', h1, h2, h3, _, h5⟩ := run_append_own_at (P := Try.prog) w base K.st ty K.e i0 z K.size K.bytes K.sl hi hz0 hz1 hz2 hz3 K.pos v l.length (flatK K l) hown ad m.length c (flatK K m) (flat_length K m)
      (fun j u hu => by
        obtain ⟨i, q, hi', rfl, hq⟩ := flat_get K m j u hu
        obtain ⟨b, off, e, hlt, hc⟩ := hr (by omega)
        injection e with e
        subst e
        rw [Addr.add_mid, ← Nat.add_assoc]
        exact hc i hi' q u hq) (flat_one K m) (by unfold maxLen; omega) hby hb
    exact ⟨v', w', h1, by unfold RowK flatK; simpa using h2, h3, h5⟩
omit [Inhabited α] in
/-- A row that is none, or lies in a block of its own. -/
theorem RowK.cases {w : World} {base n c : Nat} {A : Option Addr} {l : List α} (h : RowK K w base (.slice A n c) l) : n = l.length ∧ ((A = none ∧ n = 0 ∧ c = 0) ∨ ∃ (g : Nat) (cur : List Value), A = some ⟨g, 0, none⟩ ∧ base ≤ g ∧ Blk w g K.e cur.toArray ∧ n ≤ c ∧ c ≤ maxLen ∧ cur.length = c * K.size ∧ cur.take (n * K.size) = flatK K l) := by
  have h' := h.2
  rcases h' with ⟨e, h0⟩ | ⟨g, cap, cur, e, hb, hh, h1, h2, h3, h4⟩
  · injection e with e1 e2 e3
    exact ⟨by omega, .inl ⟨e1, by omega, e3⟩⟩
  · injection e with e1 e2 e3
    subst e1 e2 e3
    exact ⟨rfl, .inr ⟨g, cur.toList, rfl, hb, by simpa [Blk] using hh, h1, h2, by simpa using h3, h4⟩⟩
omit [Inhabited α] in
theorem RowK.mk' {w : World} {base c g : Nat} {l : List α} {cur : List Value} (hb : base ≤ g) (hg : Blk w g K.e cur.toArray) (hn : l.length ≤ c) (hc : c ≤ maxLen) (hs : cur.length = c * K.size) (ht : cur.take (l.length * K.size) = flatK K l) :
    RowK K w base (.slice (some ⟨g, 0, none⟩) l.length c) l := ⟨flat_length K l, .inr ⟨g, c, cur.toArray, rfl, hb, hg, hn, hc, by simpa using hs, by simpa using ht⟩⟩
omit [Inhabited α] in
/-- A row cut at k. -/
theorem RowK.take {w : World} {base n c : Nat} {A : Option Addr} {l : List α} (h : RowK K w base (.slice A n c) l) {k : Nat} (hk : k ≤ n) : RowK K w base (.slice A k c) (l.take k) := by
  obtain ⟨hn, h0 | ⟨g, cur, rfl, hb, hg, h1, h2, h3, h4⟩⟩ := h.cases
  · obtain ⟨rfl, rfl, rfl⟩ := h0
    obtain rfl : k = 0 := by omega
    exact nil_row K w base
  · have hl : (l.take k).length = k := by simp; omega
    have := RowK.mk' (K := K) (w := w) (base := base) (l := l.take k) (c := c) hb hg (by omega) h2 h3 (by
      rw [hl]
      have e : flatK K l = flatK K (l.take k) ++ flatK K (l.drop k) := by rw [← List.flatMap_append, List.take_append_drop]
      have h5 : cur.take (k * K.size) = (cur.take (n * K.size)).take (k * K.size) := by rw [List.take_take, Nat.min_eq_left (Nat.mul_le_mul_right _ hk)]
      rw [h5, h4, e, show k * K.size = (flatK K (l.take k)).length by rw [flat_length, hl], List.take_left])
    rwa [hl] at this
/-- .. read from i on. -/
theorem RowK.from_ {w : World} {base n c g : Nat} {l : List α} (h : RowK K w base (.slice (some ⟨g, 0, none⟩) n c) l) (i : Nat) : RdK K w w.heap.size (some ⟨g, i * K.size, none⟩) (l.drop i) := fun hp => by
  simp at hp
  obtain ⟨A, c', e, _, hrd⟩ := h.rd0
  injection e with e1 e2 e3
  subst e1
  obtain ⟨b, off, e, hlt, hc⟩ := hrd (by omega)
  injection e with e
  injection e with e4 e5 _
  subst e4 e5
  refine ⟨g, i * K.size, rfl, hlt, fun j hj q u hu => ?_⟩
  simp at hj
  have hq : (l.drop i).getD j default = l.getD (i + j) default := by simp [List.getD_eq_getElem?_getD]
  rw [hq] at hu
  have := hc (i + j) (by omega) q u hu
  rwa [Nat.add_mul, Nat.zero_add] at this
end
end Go.Proofs.Ytgjcomnljonffaa.Tlv
