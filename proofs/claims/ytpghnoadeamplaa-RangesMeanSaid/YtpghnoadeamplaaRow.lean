/- Rows of ranges that the call owns; slices.Clone. -/
import Derived.Test.YtpghnoadeamplaaRefMany
namespace Go.Proofs.Ytpghnoadeamplaa
open Go.RowKit
set_option linter.unusedVariables false
set_option linter.unusedSimpArgs false

abbrev flat (l : List Rg) : List Value := l.flatMap Rg.cells
theorem flat_length (l : List Rg) : (flat l).length = l.length * 3 := by
  induction l with
  | nil => rfl
  | cons x t ih => simp only [flat, List.flatMap_cons, List.length_append, List.length_cons] at *; rw [ih]; simp [Rg.cells]; omega
theorem flat_get : ∀ (l : List Rg) (j : Nat) (u : Value), (flat l)[j]? = some u → ∃ i c, i < l.length ∧ j = i * 3 + c ∧ (l.getD i default).cells[c]? = some u
  | [], j, u, h => by simp [flat] at h
  | x :: t, j, u, h => by
    simp only [flat, List.flatMap_cons] at h
    have h3 : x.cells.length = 3 := rfl
    rcases Nat.lt_or_ge j 3 with hj | hj
    · rw [List.getElem?_append_left (by omega)] at h
      exact ⟨0, j, by simp, by omega, by simpa using h⟩
    · rw [List.getElem?_append_right (by omega), h3] at h
      obtain ⟨i, c, hi, he, hu⟩ := flat_get t (j - 3) u h
      exact ⟨i + 1, c, by simp; omega, by omega, by simpa using hu⟩
theorem flat_one (l : List Rg) : ∀ u ∈ flat l, u.oneCell' = true := fun u hu => by
  obtain ⟨x, _, hx⟩ := List.mem_flatMap.1 hu
  simp only [Rg.cells, List.mem_cons, List.not_mem_nil, or_false] at hx
  rcases hx with rfl | rfl | rfl <;> rfl

/-- A slice of ranges that the call owns, from block 'base' on. -/
def RowR (w : World) (base : Nat) (v : Value) (l : List Rg) : Prop := w.ownsRow base 24 3 v l.length (flat l)

theorem zero24 : ∃ i : TypeInfo, Try.prog.info? 24 = some i ∧ i.zero = some (.agg #[.int .i32 0, .int .i32 0, .int .i64 0]) ∧ i.size = 3 ∧ i.bytes = 16 := by
  have h : (Try.prog.info? 24).map (fun i => (i.zero, i.size, i.bytes)) = some (some (.agg #[.int .i32 0, .int .i32 0, .int .i64 0]), 3, 16) := by kernel_rfl
  obtain ⟨i, hi, h0, h1, h2⟩ := info_parts h
  exact ⟨i, hi, h0, h1, h2⟩

theorem wpList_rdR {w : World} {ops : Array Oper} {rest : List Oper} {o : Oper} {a : Act} {Q : Exit → Act → World → Prop} (hgd : o.guard = none) (s x : Operand)
    (ho : o.op = .call { callee := .builtin .append, args := #[s, x], argTypes := #[22, 22] })
    {base B : Nat} {v : Value} {l : List Rg} {A : Option Addr} {c : Nat} (m : List Rg) (hs : a.eval s = v) (hown : RowR w base v l) (hx : a.eval x = .slice A m.length c) (hr : RdR w B A m)
    (hn : l.length + m.length ≤ 1000000000000) (hb : base ≤ w.heap.size) (hm : A.isSome = true)
    (h : ∀ v' w', RowR w' base v' (l ++ m) → Below base w w' → w.grownBy w' v.ownBlock → wpList Try.prog ops Q rest (a.put o.dst v') w') :
    wpList Try.prog ops Q (o :: rest) a w := by
  obtain ⟨i0, hi, hz0, hz1, hz2⟩ := zero24
  obtain ⟨ad, rfl⟩ := Option.isSome_iff_exists.1 hm
  refine wpList_append_own (w := w) hgd s x 22 ho base 24 i0 _ 3 16 Try.underlying22 hi hz0 hz1 hz2 rfl (by decide) v l.length (flat l) hs
    hown ad m.length c (flat m) hx (flat_length m) ?_ (flat_one m) ?_ ?_ hb ?_
  · intro j u hu
    obtain ⟨i, q, hi', rfl, hq⟩ := flat_get m j u hu
    obtain ⟨b, off, e, hlt, hc⟩ := hr (by omega)
    injection e with e
    subst e
    rw [Addr.add_mid, ← Nat.add_assoc]
    exact hc i hi' q u hq
  · unfold maxLen; omega
  · omega
  · intro v' w' h2 h3 _
    refine h v' w' ?_ ?_ h3
    · unfold RowR flat; simpa using h2
    · exact (Below.refl base w).grown h3 hb (fun k hk => (World.ownsRow.lt hown k hk).1)

theorem nil22_eq (c : Nat) (W : World) : (binOp BinOp.eql 22 (Value.slice none 0 c) (Value.slice none 0 0)).run Try.prog W = .ok (.bool true) W := rfl
theorem nil22_ne (a : Addr) (n c : Nat) (W : World) : (binOp BinOp.eql 22 (Value.slice (some a) n c) (Value.slice none 0 0)).run Try.prog W = .ok (.bool false) W := rfl
theorem RdR.below {w w' : World} {B : Nat} {A : Option Addr} {l : List Rg} (h : RdR w B A l) (hb : Below B w w') : RdR w' B A l := fun hp => by
  obtain ⟨b, off, e, hlt, hc⟩ := h hp
  exact ⟨b, off, e, hlt, fun j hj i v hv => (hb.cell (p := ⟨b, off + j * 3 + i, none⟩) hlt).trans (hc j hj i v hv)⟩

set_option maxHeartbeats 1000000 in
theorem clone_any (A : Option Addr) (c : Nat) (l : List Rg) (w : World) (hr : RdR w w.heap.size A l) (hn : l.length ≤ 1000000000000) :
    Calls Try.prog 19 #[.slice A l.length c] w fun e w' => ∃ v, e = .returned v ∧ RowR w' w.heap.size v l ∧ Below w.heap.size w w' := by
  by_cases hA : A = none
  · subst hA
    have hl : l = [] := by
      cases l with
      | nil => rfl
      | cons a t => obtain ⟨b, off, e, _⟩ := hr (by simp); cases e
    subst hl
    have h1 := nil22_eq c
    go_enter Try.func19, Try.ntmps19
    go_wp2
    go_ret
    exact ⟨_, rfl, World.ownsRow_nil _ _ _ _, Below.refl _ _⟩
  · obtain ⟨a, rfl⟩ : ∃ a, A = some a := by cases A with | none => exact absurd rfl hA | some a => exact ⟨a, rfl⟩
    clear hA
    have h1 := nil22_ne a l.length c
    have hb1 : Below w.heap.size w (w.alloc (.cells #[] 24)) := (Below.refl _ _).alloc (Nat.le_refl _) _
    have hr1 := hr.below hb1
    have hR : RowR (w.alloc (.cells #[] 24)) w.heap.size (.slice (some ⟨w.heap.size, 0, none⟩) 0 0) [] := World.ownsRow_made w #[] 0 (Nat.le_refl _) (by simp [maxLen]) rfl
    go_enter Try.func19, Try.ntmps19
    go_wp2_with (at_builtin; refine wpList_rdR rfl _ _ rfl l rfl hR rfl hr1 (by simp; omega) (by simp) rfl ?_; intro v1 w1 hrow1 hb2 hg2)
    go_ret
    exact ⟨v1, rfl, by simpa using hrow1, hb1.trans hb2⟩
end Go.Proofs.Ytpghnoadeamplaa
