/- Rows of runes; append of one range within a round. -/
import Derived.Test.YtpghnoadeamplaaApp
import Derived.Test.YtpghnoadeamplaaKnown
import Derived.OwnWalkIn
namespace Go.Proofs.Ytpghnoadeamplaa
open Go.RowKit
set_option linter.unusedVariables false
set_option linter.unusedSimpArgs false

abbrev cellsI (l : List Int) : List Value := l.map (.int .i32 ·)
/-- A slice of runes that the call owns. -/
def RowI (w : World) (base : Nat) (v : Value) (l : List Int) : Prop := w.ownsRow base 21 1 v l.length (cellsI l)
theorem zero21 : ∃ i : TypeInfo, Try.prog.info? 21 = some i ∧ i.zero = some (.int .i32 0) ∧ i.size = 1 ∧ i.bytes = 4 := by
  have h : (Try.prog.info? 21).map (fun i => (i.zero, i.size, i.bytes)) = some (some (.int .i32 0), 1, 4) := by kernel_rfl
  obtain ⟨i, hi, h0, h1, h2⟩ := info_parts h
  exact ⟨i, hi, h0, h1, h2⟩

theorem run_rdI {w : World} (ty : TypeId) {base : Nat} {v : Value} {l : List Int} {b c : Nat} {cs : Array Value} (m : List Int) (hown : RowI w base v l) (hr : Blk w b 21 cs) (he : cs.toList = cellsI m)
    (hn : l.length + m.length ≤ 1000000000000) (hb : base ≤ w.heap.size) :
    ∃ v' w', (Builtin.append_ #[44, 44] ty #[v, .slice (some ⟨b, 0, none⟩) m.length c]).run Try.prog w = .ok v' w' ∧ RowI w' base v' (l ++ m) ∧ w.grownBy w' v.ownBlock := by
  obtain ⟨i0, hi, hz0, hz1, hz2⟩ := zero21
  obtain ⟨v', w', h1, h2, h3, _, _⟩ := run_append_own_at (P := Try.prog) w base 44 ty 21 i0 _ 1 4 Try.underlying44 hi hz0 hz1 hz2 rfl (by decide) v l.length (cellsI l) hown ⟨b, 0, none⟩ m.length c (cellsI m) (by simp)
    (fun j u hu => by
      rw [Addr.add_mid, hr.cell, ← Array.getElem?_toList, he, Nat.zero_add]
      exact hu) (fun u hu => by obtain ⟨x, _, rfl⟩ := List.mem_map.1 hu; rfl) (by unfold maxLen; omega) (by omega) hb
  exact ⟨v', w', h1, by unfold RowI cellsI; simpa using h2, h3⟩

theorem wpList_rdI {w : World} {ops : Array Oper} {rest : List Oper} {o : Oper} {a : Act} {Q : Exit → Act → World → Prop} (hgd : o.guard = none) (s x : Operand)
    (ho : o.op = .call { callee := .builtin .append, args := #[s, x], argTypes := #[44, 44] })
    {base : Nat} {v : Value} {l : List Int} {b c : Nat} {cs : Array Value} (m : List Int) (hs : a.eval s = v) (hown : RowI w base v l) (hx : a.eval x = .slice (some ⟨b, 0, none⟩) m.length c) (hr : Blk w b 21 cs) (he : cs.toList = cellsI m)
    (hn : l.length + m.length ≤ 1000000000000) (hb : base ≤ w.heap.size)
    (h : ∀ v' w', RowI w' base v' (l ++ m) → w.grownBy w' v.ownBlock → wpList Try.prog ops Q rest (a.put o.dst v') w') :
    wpList Try.prog ops Q (o :: rest) a w := by
  refine wpList_plain hgd fun K hK => ?_
  obtain ⟨v', w', h1, h2, h3⟩ := run_rdI o.type (c := c) m hown hr he hn hb
  unfold Oper.wp
  simp [execOp, ho, resolve, invoke, builtin, hs, hx, h1, Result.andThen]
  exact hK _ _ (h v' w' h2 h3)

theorem step_rdI {w : World} {ops : Array Oper} {o : Oper} {a : Act} {K : Act → World → Prop} {Q : Exit → Act → World → Prop} {E : Prop} (hgd : o.guard = none) (s x : Operand)
    (ho : o.op = .call { callee := .builtin .append, args := #[s, x], argTypes := #[44, 44] })
    {base : Nat} {v : Value} {l : List Int} {b c : Nat} {cs : Array Value} (m : List Int) (hs : a.eval s = v) (hown : RowI w base v l) (hx : a.eval x = .slice (some ⟨b, 0, none⟩) m.length c) (hr : Blk w b 21 cs) (he : cs.toList = cellsI m)
    (hn : l.length + m.length ≤ 1000000000000) (hb : base ≤ w.heap.size)
    (h : ∀ v' w', RowI w' base v' (l ++ m) → w.grownBy w' v.ownBlock → K (a.put o.dst v') w') :
    if Region.wanted o (yielded ops a.tmps) = true then Oper.wp Try.prog o a w K Q else E := by
  have hw : Region.wanted o (yielded ops a.tmps) = true := by simp [Region.wanted, hgd]
  rw [if_pos hw]
  obtain ⟨v', w', h1, h2, h3⟩ := run_rdI o.type (c := c) m hown hr he hn hb
  unfold Oper.wp
  simp only [execOp, ho, resolve, invoke, builtin, Sem.run_bind, Sem.run_pure, Result.andThen_ok, List.map_toArray, List.map_cons, List.map_nil, hs, hx, h1]
  exact h v' w' h2 h3

theorem RowI.alloc {w : World} {base : Nat} {v : Value} {l : List Int} (h : RowI w base v l) (o : Obj) : RowI (w.alloc o) base v l := World.ownsRow.alloc h o
theorem RowI.drew {w : World} {base : Nat} {v : Value} {l : List Int} (h : RowI w base v l) : RowI w.drew base v l := h
theorem RowI.drewN {w : World} {base : Nat} {v : Value} {l : List Int} (h : RowI w base v l) (n : Nat) : RowI (w.drewN n) base v l := h
theorem rowI_below {w w' : World} {base : Nat} {v : Value} {l : List Int} (h : RowI w base v l) (hg : w.grownBy w' v.ownBlock) (hb : base ≤ w.heap.size) : Below base w w' :=
  (Below.refl base w).grown hg hb (fun k hk => (World.ownsRow.lt h k hk).1)
/-- A row that has something, reads so. -/
theorem RowI.read {w : World} {base : Nat} {v : Value} {l : List Int} (h : RowI w base v l) (hp : 0 < l.length) :
    ∃ g c n, Hid (n = l.length) ∧ v = .slice (some ⟨g, 0, none⟩) n c ∧ g < w.heap.size ∧ ∀ j, j < l.length → w.cell? ⟨g, j, none⟩ = some (.int .i32 (l.getD j 0)) := by
  rcases h.2 with ⟨_, h0⟩ | ⟨g, cap, cur, rfl, _, hg, h1, h2, h3, h4⟩
  · omega
  · refine ⟨g, cap, _, Lib.hid rfl, rfl, (Array.getElem?_eq_some_iff.1 hg).1, fun j hj => ?_⟩
    rw [cell_of_row w g j cur 21 (0, 0) hg, ← Array.getElem?_toList]
    have : (cur.toList.take (l.length * 1))[j]? = some (.int .i32 (l.getD j 0)) := by
      rw [h4]; simp [cellsI, List.getElem?_map, List.getElem?_eq_getElem hj, List.getD_eq_getElem?_getD]
    rwa [List.getElem?_take_of_lt (by omega)] at this

/-- append of one range, within a round. -/
theorem wpListIn_oneR {F : Fence} {n : Nat} {w : World} {ops : Array Oper} {rest : List Oper} {o : Oper} {a : Act} {Q : Exit → Act → World → Prop} (hgd : o.guard = none) (s x : Operand)
    (ho : o.op = .call { callee := .builtin .append, args := #[s, x], argTypes := #[22, 22] })
    {base : Nat} {v : Value} {l : List Rg} {b c : Nat} (m : Rg) (hs : a.eval s = v) (hown : RowR w base v l) (hx : a.eval x = .slice (some ⟨b, 0, none⟩) 1 c) (hr : Blk w b 24 #[.int .i32 m.lo, .int .i32 m.hi, .int .i64 m.val])
    (hn : l.length + 1 ≤ 1000000000000) (hb : base ≤ w.heap.size)
    (h : ∀ v' w', RowR w' base v' (l ++ [m]) → w.grownBy w' v.ownBlock → wpListIn F n Try.prog ops Q rest (a.put o.dst v') w') :
    wpListIn F n Try.prog ops Q (o :: rest) a w := by
  refine wpListIn_plain hgd fun K hK => ?_
  obtain ⟨v', w', h1, h2, h3⟩ := run_rdA o.type (A := some ⟨b, 0, none⟩) (c := c) [m] hown (rd_block (l := [m]) hr rfl) (fun e => by cases e) hn hb
  simp only [List.length_cons, List.length_nil, Nat.zero_add] at h1
  unfold Oper.wpIn
  refine ⟨?_, ?_⟩
  · simp [Oper.about, ho, resolve, Target.leads, Sem.run_pure]
  · rw [Oper.semAt_plain F _ _ (by rw [ho]; intro c hc'; cases hc')]
    simp [execOp, ho, resolve, invoke, builtin, hs, hx, h1, Result.andThen]
    exact hK _ _ (h v' w' h2 h3)
end Go.Proofs.Ytpghnoadeamplaa
