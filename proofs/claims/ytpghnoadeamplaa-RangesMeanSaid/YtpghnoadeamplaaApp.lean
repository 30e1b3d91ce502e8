/- append onto a row that the call owns, of a slice that may be nil. -/
import Derived.Test.YtpghnoadeamplaaAdd
namespace Go.Proofs.Ytpghnoadeamplaa
open Go.RowKit
set_option linter.unusedVariables false
set_option linter.unusedSimpArgs false

theorem run_rdA {w : World} (ty : TypeId) {base B : Nat} {v : Value} {l : List Rg} {A : Option Addr} {c : Nat} (m : List Rg) (hown : RowR w base v l) (hr : RdR w B A m) (hA : A = none → c = 0)
    (hn : l.length + m.length ≤ 1000000000000) (hb : base ≤ w.heap.size) :
    ∃ v' w', (Builtin.append_ #[22, 22] ty #[v, .slice A m.length c]).run Try.prog w = .ok v' w' ∧ RowR w' base v' (l ++ m) ∧ w.grownBy w' v.ownBlock := by
  obtain ⟨i0, hi, hz0, hz1, hz2⟩ := zero24
  cases A with
  | none =>
    have hm : m = [] := by
      cases m with
      | nil => rfl
      | cons x t => obtain ⟨b, off, e, _⟩ := hr (by simp); cases e
    subst hm
    have hc := hA rfl
    subst hc
    refine ⟨v, w, run_append_owned_none (P := Try.prog) (w := w) base 22 ty 24 i0 3 Try.underlying22 hi v l.length (flat l) hown, by simpa using hown, World.grownBy.refl _ _⟩
  | some ad =>
    obtain ⟨v', w', h1, h2, h3, _, _⟩ := run_append_own_at (P := Try.prog) w base 22 ty 24 i0 _ 3 16 Try.underlying22 hi hz0 hz1 hz2 rfl (by decide) v l.length (flat l) hown ad m.length c (flat m) (flat_length m)
      (fun j u hu => by
        obtain ⟨i, q, hi', rfl, hq⟩ := flat_get m j u hu
        obtain ⟨b, off, e, hlt, hc⟩ := hr (by omega)
        injection e with e
        subst e
        rw [Addr.add_mid, ← Nat.add_assoc]
        exact hc i hi' q u hq) (flat_one m) (by unfold maxLen; omega) (by omega) hb
    exact ⟨v', w', h1, by unfold RowR flat; simpa using h2, h3⟩

theorem wpList_rdA {w : World} {ops : Array Oper} {rest : List Oper} {o : Oper} {a : Act} {Q : Exit → Act → World → Prop} (hgd : o.guard = none) (s x : Operand)
    (ho : o.op = .call { callee := .builtin .append, args := #[s, x], argTypes := #[22, 22] })
    {base B : Nat} {v : Value} {l : List Rg} {A : Option Addr} {c : Nat} (m : List Rg) (hs : a.eval s = v) (hown : RowR w base v l) (hx : a.eval x = .slice A m.length c) (hr : RdR w B A m) (hA : A = none → c = 0)
    (hn : l.length + m.length ≤ 1000000000000) (hb : base ≤ w.heap.size)
    (h : ∀ v' w', RowR w' base v' (l ++ m) → w.grownBy w' v.ownBlock → wpList Try.prog ops Q rest (a.put o.dst v') w') :
    wpList Try.prog ops Q (o :: rest) a w := by
  refine wpList_plain hgd fun K hK => ?_
  obtain ⟨v', w', h1, h2, h3⟩ := run_rdA o.type m hown hr hA hn hb
  unfold Oper.wp
  simp [execOp, ho, resolve, invoke, builtin, hs, hx, h1, Result.andThen]
  exact hK _ _ (h v' w' h2 h3)

theorem step_rdA {w : World} {ops : Array Oper} {o : Oper} {a : Act} {K : Act → World → Prop} {Q : Exit → Act → World → Prop} {E : Prop} (hgd : o.guard = none) (s x : Operand)
    (ho : o.op = .call { callee := .builtin .append, args := #[s, x], argTypes := #[22, 22] })
    {base B : Nat} {v : Value} {l : List Rg} {A : Option Addr} {c : Nat} (m : List Rg) (hs : a.eval s = v) (hown : RowR w base v l) (hx : a.eval x = .slice A m.length c) (hr : RdR w B A m) (hA : A = none → c = 0)
    (hn : l.length + m.length ≤ 1000000000000) (hb : base ≤ w.heap.size)
    (h : ∀ v' w', RowR w' base v' (l ++ m) → w.grownBy w' v.ownBlock → K (a.put o.dst v') w') :
    if Region.wanted o (yielded ops a.tmps) = true then Oper.wp Try.prog o a w K Q else E := by
  have hw : Region.wanted o (yielded ops a.tmps) = true := by simp [Region.wanted, hgd]
  rw [if_pos hw]
  obtain ⟨v', w', h1, h2, h3⟩ := run_rdA o.type m hown hr hA hn hb
  unfold Oper.wp
  simp only [execOp, ho, resolve, invoke, builtin, Sem.run_bind, Sem.run_pure, Result.andThen_ok, List.map_toArray, List.map_cons, List.map_nil, hs, hx, h1]
  exact h v' w' h2 h3

/-- append(nil, l..). -/
theorem nil_row (w : World) (base : Nat) : RowR w base (.slice none 0 0) [] := World.ownsRow_nil _ _ _ _
theorem RowR.rd0 {w : World} {base : Nat} {v : Value} {l : List Rg} (h : RowR w base v l) : ∃ A c, v = .slice A l.length c ∧ (A = none → c = 0) ∧ RdR w w.heap.size A l := by
  rcases h.form with ⟨rfl, rfl⟩ | ⟨g, c, cur, rfl, _, _, _, hg, hc, _, _⟩
  · exact ⟨none, 0, rfl, fun _ => rfl, fun h => by simp at h⟩
  · exact ⟨_, c, rfl, fun h => (by cases h), fun _ => ⟨g, 0, rfl, hg.lt, hc⟩⟩
theorem grown_none {w w' : World} {B : Nat} (hg : w.grownBy w' none) (hB : B ≤ w.heap.size) : Below B w w' :=
  (Below.refl B w).grown hg hB (fun k hk => by cases hk)
end Go.Proofs.Ytpghnoadeamplaa
