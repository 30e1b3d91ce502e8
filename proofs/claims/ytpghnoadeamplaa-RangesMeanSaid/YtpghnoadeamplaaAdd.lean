/- add: a range behind the others. -/
import Derived.Test.YtpghnoadeamplaaRow
import Derived.Deep.AppendLies
import Derived.Deep.RegionLaw
import Derived.Deep.DrawnRows
namespace Go.Proofs.Ytpghnoadeamplaa
open Go.RowKit
set_option linter.unusedVariables false
set_option linter.unusedSimpArgs false

/-- A block that is known whole. -/
def Blk (w : World) (g : Nat) (t : TypeId) (cs : Array Value) : Prop := w.heap[g]? = some (.cells cs t (0, 0))
section
variable {w w' : World} {g : Nat} {t : TypeId} {cs : Array Value}
theorem Blk.lt (h : Blk w g t cs) : g < w.heap.size := (Array.getElem?_eq_some_iff.1 h).1
theorem Blk.cell (h : Blk w g t cs) (i : Nat) : w.cell? ⟨g, i, none⟩ = cs[i]? := cell_of_row w g i cs t (0, 0) h
theorem Blk.frozen (h : Blk w g t cs) (i : Nat) : w.frozen? ⟨g, i, none⟩ = false := by
  unfold Blk at h
  simp [World.frozen?, h]
theorem Blk.new (w : World) (t : TypeId) (cs : Array Value) : Blk (w.alloc (.cells cs t)) w.heap.size t cs := heap_alloc_new w _
theorem Blk.alloc (h : Blk w g t cs) (o : Obj) : Blk (w.alloc o) g t cs := (Below.heap_alloc w o g h.lt).trans h
theorem Blk.set_ (h : Blk w g t cs) (i : Nat) (u : Value) : Blk (w.setCell ⟨g, i, none⟩ u) g t (cs.setIfInBounds i u) := by
  unfold Blk at h ⊢
  simp [World.setCell, Array.getElem?_modify, h]
theorem Blk.far (h : Blk w g t cs) {p : Addr} (hp : g ≠ p.block) (u : Value) : Blk (w.setCell p u) g t cs := (Below.heap_setCell w p u g hp).trans h
theorem Blk.grown {row : Option Nat} (h : Blk w g t cs) (hb : w.grownBy w' row) (hg : some g ≠ row) : Blk w' g t cs := (hb.block g h.lt hg).trans h
theorem Blk.below {B : Nat} (h : Blk w g t cs) (hb : Below B w w') (hg : g < B) : Blk w' g t cs := (hb.block g hg).trans h
theorem own_ne {base : Nat} {e : TypeId} {size n : Nat} {v : Value} {xs : List Value} (h : w.ownsRow base e size v n xs) (hg : Blk w g t cs) (hne : e ≠ t) : v.ownBlock ≠ some g := by
  rcases h.2 with ⟨rfl, _⟩ | ⟨g', cap, cur, rfl, _, hh, _⟩
  · simp [Value.ownBlock]
  · intro he
    have : g' = g := by simpa [Value.ownBlock] using he
    subst this
    unfold Blk at hg
    rw [hh] at hg
    injection hg with hg
    injection hg with _ ht
    exact hne ht
end
theorem grownBy_set (w : World) (p : Addr) (u : Value) : w.grownBy (w.setCell p u) (some p.block) :=
  ⟨rfl, rfl, rfl, by simp [World.setCell], fun k _ hk => Below.heap_setCell w p u k (fun e => hk (by rw [e]))⟩
theorem RowR.set_ {w : World} {base : Nat} {v : Value} {l : List Rg} (h : RowR w base v l) {g i : Nat} (hg : v.ownBlock ≠ some g) (u : Value) : RowR (w.setCell ⟨g, i, none⟩ u) base v l :=
  World.ownsRow.kept h (grownBy_set w ⟨g, i, none⟩ u) (.inr hg)
theorem RowR.alloc {w : World} {base : Nat} {v : Value} {l : List Rg} (h : RowR w base v l) (o : Obj) : RowR (w.alloc o) base v l := World.ownsRow.alloc h o
theorem RowR.drew {w : World} {base : Nat} {v : Value} {l : List Rg} (h : RowR w base v l) : RowR w.drew base v l := h

/-- A row of ranges is nil, or lies in a block of its own from its head on. -/
theorem RowR.form {w : World} {base : Nat} {v : Value} {l : List Rg} (h : RowR w base v l) :
    (v = .slice none 0 0 ∧ l = []) ∨ ∃ g c cur, v = .slice (some ⟨g, 0, none⟩) l.length c ∧ l.length ≤ c ∧ c ≤ maxLen ∧ base ≤ g ∧ Blk w g 24 cur ∧ (∀ j, j < l.length → w.rangeAt g (0 + j * 3) (l.getD j default).cells) ∧ cur.size = c * 3 ∧ cur.toList.take (l.length * 3) = flat l := by
  rcases h.2 with ⟨h1, h2⟩ | ⟨g, c, cur, hv, hb, hh, h3, h4, h5, h6⟩
  · refine .inl ⟨h1, ?_⟩
    have := flat_length l
    rw [h2] at this
    exact List.eq_nil_of_length_eq_zero (by have e : ([] : List Value).length = 0 := rfl; omega)
  · refine .inr ⟨g, c, cur, hv, h3, h4, hb, hh, fun j hj i u hu => ?_, h5, h6⟩
    rw [Blk.cell (t := 24) hh, ← Array.getElem?_toList]
    have hi : i < 3 := by
      rcases Nat.lt_or_ge i 3 with h | h
      · exact h
      · rw [List.getElem?_eq_none (by simpa [Rg.cells] using h)] at hu; cases hu
    have hk : (cur.toList.take (l.length * 3))[j * 3 + i]? = some u := by
      rw [h6]
      have hflat : ∀ (l : List Rg) (j : Nat), j < l.length → (flat l)[j * 3 + i]? = (l.getD j default).cells[i]? := by
        intro l
        induction l with
        | nil => intro j hj; simp at hj
        | cons x t ih =>
          intro j hj
          simp only [flat, List.flatMap_cons]
          have h3 : x.cells.length = 3 := rfl
          cases j with
          | zero => rw [List.getElem?_append_left (by omega)]; simp
          | succ j =>
            rw [List.getElem?_append_right (by omega), h3, show (j + 1) * 3 + i - 3 = j * 3 + i from by omega]
            have := ih j (by simpa using hj)
            simpa using this
      rw [hflat l j hj]; exact hu
    rw [List.getElem?_take] at hk
    split at hk
    · rw [show 0 + j * 3 + i = j * 3 + i from by omega]; exact hk
    · cases hk

theorem Blk.drew {w : World} {g : Nat} {t : TypeId} {cs : Array Value} (h : Blk w g t cs) : Blk w.drew g t cs := h
theorem Blk.new3 (w : World) (o : Obj) (k : Nat) (t : TypeId) (cs : Array Value) : Blk (((w.alloc o).drewN k).alloc (.cells cs t)) (w.heap.size + 1) t cs := by
  have := Blk.new ((w.alloc o).drewN k) t cs
  simpa using this
theorem Blk.new2 (w : World) (o : Obj) (t : TypeId) (cs : Array Value) : Blk ((w.alloc o).alloc (.cells cs t)) (w.heap.size + 1) t cs := by
  have := Blk.new (w.alloc o) t cs
  simpa using this

theorem below_drewN {B : Nat} {a w : World} (h : Below B a w) (n : Nat) : Below B a (w.drewN n) := ⟨h.os, h.tape, h.output, h.size, h.block⟩
theorem Blk.drewN {w : World} {g : Nat} {t : TypeId} {cs : Array Value} (h : Blk w g t cs) (n : Nat) : Blk (w.drewN n) g t cs := h
theorem RowR.drewN {w : World} {base : Nat} {v : Value} {l : List Rg} (h : RowR w base v l) (n : Nat) : RowR (w.drewN n) base v l := h

/-- A map's block: made, its ranges' slice, and these. -/
def MapG (w : World) (base g : Nat) (v : Value) (l : List Rg) : Prop := Blk w g 47 #[.bool true, v] ∧ RowR w base v l

/-- One range behind the others. -/
def addL (l : List Rg) (x : Rg) : Option (List Rg) :=
  match l.getLast? with
  | none => some [x]
  | some y => if x.lo ≤ y.hi then none else if x.lo - 1 = y.hi ∧ x.val = y.val then some (l.dropLast ++ [⟨y.lo, x.hi, y.val⟩]) else some (l ++ [x])

theorem step_rdR {w : World} {ops : Array Oper} {o : Oper} {a : Act} {K : Act → World → Prop} {Q : Exit → Act → World → Prop} {E : Prop} (hgd : o.guard = none) (s x : Operand)
    (ho : o.op = .call { callee := .builtin .append, args := #[s, x], argTypes := #[22, 22] })
    {base : Nat} {v : Value} {l : List Rg} {b : Nat} {c : Nat} (m : Rg) (hs : a.eval s = v) (hown : RowR w base v l) (hx : a.eval x = .slice (some ⟨b, 0, none⟩) 1 c) (hr : Blk w b 24 #[.int .i32 m.lo, .int .i32 m.hi, .int .i64 m.val])
    (hn : l.length + 1 ≤ 1000000000000) (hb : base ≤ w.heap.size)
    (h : ∀ g c' w', RowR w' base (.slice (some ⟨g, 0, none⟩) (l.length + 1) c') (l ++ [m]) → w.grownBy w' v.ownBlock → (v.ownBlock = some g ∨ g = w.heap.size) → K (a.put o.dst (.slice (some ⟨g, 0, none⟩) (l.length + 1) c')) w') :
    if Region.wanted o (yielded ops a.tmps) = true then Oper.wp Try.prog o a w K Q else E := by
  obtain ⟨i0, hi, hz0, hz1, hz2⟩ := zero24
  refine step_append_lies w hgd s x 22 ho base 24 i0 _ 3 16 Try.underlying22 hi hz0 hz1 hz2 rfl (by decide) v l.length (flat l) hs
    hown ⟨b, 0, none⟩ 1 c m.cells hx rfl ?_ ?_ (by omega) ?_ ?_ hb _ rfl ?_
  · exact World.news_of_block hr
  · intro u hu
    simp only [Rg.cells, List.mem_cons, List.not_mem_nil, or_false] at hu
    rcases hu with rfl | rfl | rfl <;> rfl
  · unfold maxLen; omega
  · omega
  · intro g cap w' h2 h3 h4 _
    refine h g cap w' ?_ h3 h4
    unfold RowR flat
    simpa using h2

theorem addL_nil (x : Rg) : addL [] x = some [x] := rfl

set_option maxHeartbeats 2000000 in
theorem add_empty (g : Nat) (v : Value) (x : Rg) (base : Nat) (w : World) (hm : MapG w base g v []) (hb : base ≤ w.heap.size) (hg : base ≤ g) :
    Calls Try.prog 23 #[.pointer (some ⟨g, 0, none⟩), .agg #[.int .i32 x.lo, .int .i32 x.hi, .int .i64 x.val]] w fun e w' => e = .returned (.bool true) ∧ ∃ v', MapG w' base g v' [x] ∧ Below base w w' := by
  obtain ⟨hblk, hrow⟩ := hm
  have c1 : w.cell? ⟨g, 1, none⟩ = some v := hblk.cell 1
  have hlt := hblk.lt
  have hblk1 := hblk.alloc (.cells #[.int .i32 x.lo, .int .i32 x.hi, .int .i64 x.val] 24)
  have hrow1 := hrow.alloc (.cells #[.int .i32 x.lo, .int .i32 x.hi, .int .i64 x.val] 24)
  have hne := own_ne hrow1 hblk1 (by decide)
  obtain ⟨A, c, rfl⟩ : ∃ A c, v = .slice A 0 c := by
    rcases hrow.form with ⟨rfl, _⟩ | ⟨g, c, cur, rfl, _⟩
    · exact ⟨_, _, rfl⟩
    · exact ⟨_, _, rfl⟩
  have hle : ([] : List Rg).length + 1 ≤ 1000000000000 := by simp
  have hb2 : base ≤ (((w.alloc (.cells #[.int .i32 x.lo, .int .i32 x.hi, .int .i64 x.val] 24)).alloc (.cells #[.int .i32 x.lo, .int .i32 x.hi, .int .i64 x.val] 24)).drew).heap.size := by simp; omega
  go_enter Try.func23, Try.ntmps23
  go_wp2
  go_region_law ((refine step_rdR (by rfl) _ _ (by rfl) x (by rfl) (hrow1.alloc _).drew (by rfl) (Blk.new2 _ _ _ _).drew hle hb2 ?_; intro g1 c1' w1 hrow2 hgr hat; have hb3 := (hblk1.alloc _).drew.grown hgr (fun e => hne e.symm); have d1 := hb3.cell 1; have d2 := hb3.frozen 1))
  all_goals
    go_wp2
    go_ret
    have hne2 := own_ne hrow2 hb3 (by decide)
    refine ⟨rfl, _, ⟨by simpa using hb3.set_ 1 (Value.slice (some ⟨g1, 0, none⟩) (([] : List Rg).length + 1) c1'), RowR.set_ (by simpa using hrow2) hne2 _⟩, ?_⟩
    exact ((((Below.refl base w).alloc hb _).alloc (by simp; omega) _).drew.grown hgr hb2 (fun k hk => (World.ownsRow.lt hrow k hk).1)).setCell hg _

/-- The facts of the last range's cells. -/
theorem last_cells {w : World} {base : Nat} {v : Value} {l : List Rg} {y : Rg} (h : RowR w base v (l ++ [y])) : ∃ r c cur, v = .slice (some ⟨r, 0, none⟩) (l.length + 1) c ∧ l.length + 1 ≤ c ∧ base ≤ r ∧ Blk w r 24 cur ∧ cur.size = c * 3 ∧ cur.toList.take ((l.length + 1) * 3) = flat (l ++ [y]) ∧
    w.cell? ⟨r, l.length * 3, none⟩ = some (.int .i32 y.lo) ∧ w.cell? ⟨r, l.length * 3 + 1, none⟩ = some (.int .i32 y.hi) ∧ w.cell? ⟨r, l.length * 3 + 2, none⟩ = some (.int .i64 y.val) := by
  rcases h.form with ⟨_, h0⟩ | ⟨r, c, cur, hv, h1, _, h3, h4, h5, h6, h7⟩
  · simp at h0
  · have hl : (l ++ [y]).length = l.length + 1 := by simp
    rw [hl] at hv h1 h7
    have h8 := h5 l.length (by omega)
    have he : (l ++ [y]).getD l.length default = y := by simp [List.getD_eq_getElem?_getD]
    rw [he] at h8
    refine ⟨r, c, cur, hv, h1, h3, h4, h6, h7, ?_, ?_, ?_⟩
    · have := h8 0 _ rfl; simpa using this
    · have := h8 1 _ rfl; simpa using this
    · have := h8 2 _ rfl; simpa using this

set_option maxHeartbeats 2000000 in
theorem add_no (g : Nat) (v : Value) (l : List Rg) (y x : Rg) (base : Nat) (w : World) (hm : MapG w base g v (l ++ [y])) (hb : base ≤ w.heap.size) (hg : base ≤ g) (hn : l.length ≤ 1000000) (h1 : x.lo ≤ y.hi) :
    Calls Try.prog 23 #[.pointer (some ⟨g, 0, none⟩), .agg #[.int .i32 x.lo, .int .i32 x.hi, .int .i64 x.val]] w fun e w' => e = .returned (.bool false) ∧ Below base w w' := by
  obtain ⟨hblk, hrow⟩ := hm
  obtain ⟨r, c, cur, rfl, hc, hbr, hcur, _, _, e0, e1, e2⟩ := last_cells hrow
  have c1 : w.cell? ⟨g, 1, none⟩ = some (.slice (some ⟨r, 0, none⟩) (l.length + 1) c) := hblk.cell 1
  have hlt := hblk.lt
  have hltr := hcur.lt
  have h0 : ((l.length : Int) + 1 == 0) = false := by simp; omega
  clear hrow hblk hcur
  go_enter Try.func23, Try.ntmps23
  go_wp2
  go_quiet (fail)
  go_wp2
  go_quiet (fail)
  go_wp2
  go_ret
  refine ⟨rfl, ?_⟩
  exact below_drewN (below_drewN ((Below.refl base w).alloc hb _) _) _

/-- The last range with another end. -/
theorem row_last {w : World} {base r c : Nat} {l : List Rg} {y : Rg} {cur : Array Value} (hi : Int) (h : RowR w base (.slice (some ⟨r, 0, none⟩) (l.length + 1) c) (l ++ [y])) :
    RowR (w.setCell ⟨r, l.length * 3 + 1, none⟩ (.int .i32 hi)) base (.slice (some ⟨r, 0, none⟩) (l.length + 1) c) (l ++ [⟨y.lo, hi, y.val⟩]) := by
  have hl : (l ++ [y]).length = l.length + 1 := by simp
  have hl2 : (l ++ [(⟨y.lo, hi, y.val⟩ : Rg)]).length = l.length + 1 := by simp
  unfold RowR at h ⊢
  rw [hl] at h
  rw [hl2]
  obtain ⟨h1, h2⟩ := h
  have h3 : (flat (l ++ [(⟨y.lo, hi, y.val⟩ : Rg)])).length = (l.length + 1) * 3 := by rw [flat_length, hl2]
  refine ⟨h3, .inr ?_⟩
  rcases h2 with ⟨h2, _⟩ | ⟨g, cap, cur, he, hb, hh, ha, hc, hs, ht⟩
  · cases h2
  · injection he with e1 e2 e3
    injection e1 with e1
    injection e1 with e1
    subst e1
    subst e3
    refine ⟨r, c, cur.setIfInBounds (l.length * 3 + 1) (.int .i32 hi), rfl, hb, ?_, ha, hc, by simpa using hs, ?_⟩
    · exact Blk.set_ (t := 24) hh _ _
    · rw [Array.toList_setIfInBounds, List.take_set, ht]
      have hf : ∀ z : Rg, flat (l ++ [z]) = flat l ++ z.cells := fun z => by simp [flat]
      rw [hf, hf, List.set_append_right _ _ (by rw [flat_length]; omega), flat_length]
      simp [Rg.cells]

set_option maxHeartbeats 2000000 in
theorem add_join (g : Nat) (v : Value) (l : List Rg) (y x : Rg) (base : Nat) (w : World) (hm : MapG w base g v (l ++ [y])) (hb : base ≤ w.heap.size) (hg : base ≤ g) (hn : l.length ≤ 1000000) (h1 : y.hi < x.lo) (h2 : x.lo - 1 = y.hi) (h3 : x.val = y.val) (h4 : 0 ≤ x.lo) (h5 : x.lo ≤ 2147483647) :
    Calls Try.prog 23 #[.pointer (some ⟨g, 0, none⟩), .agg #[.int .i32 x.lo, .int .i32 x.hi, .int .i64 x.val]] w fun e w' => e = .returned (.bool true) ∧ MapG w' base g v (l ++ [⟨y.lo, x.hi, y.val⟩]) ∧ Below base w w' := by
  obtain ⟨hblk, hrow⟩ := hm
  obtain ⟨r, c, cur, rfl, hc, hbr, hcur, _, _, e0, e1, e2⟩ := last_cells hrow
  have c1 : w.cell? ⟨g, 1, none⟩ = some (.slice (some ⟨r, 0, none⟩) (l.length + 1) c) := hblk.cell 1
  have hlt := hblk.lt
  have hltr := hcur.lt
  have h0 : ((l.length : Int) + 1 == 0) = false := by simp; omega
  have ht : (x.lo - 1 == y.hi) = true := by simp [h2]
  have ht2 : decide (x.lo - 1 = y.hi) = true := by simp [h2]
  have hv : (x.val == y.val) = true := by simp [h3]
  have hf : w.frozen? ⟨r, l.length * 3 + 1, none⟩ = false := hcur.frozen _
  have hne := own_ne hrow hblk (by decide)
  have hrow1 := (hrow.alloc (.cells #[.int .i32 x.lo, .int .i32 x.hi, .int .i64 x.val] 24))
  have hblk1 := (hblk.alloc (.cells #[.int .i32 x.lo, .int .i32 x.hi, .int .i64 x.val] 24))
  have Hr := Lib.hid hrow1
  have Hb := Lib.hid hblk1
  have Hne := Lib.hid hne
  clear hrow hblk hcur h2 h3 hne hrow1 hblk1
  go_enter Try.func23, Try.ntmps23
  go_wp2
  go_quiet (fail)
  go_wp2
  go_quiet (fail)
  go_wp2
  go_quiet (fail)
  go_wp2
  go_ret
  refine ⟨rfl, ⟨?_, ?_⟩, ?_⟩
  · exact ((Hb.out.drewN _).far (p := ⟨r, l.length * 3 + 1, none⟩) (fun e => Hne.out (by subst e; rfl)) _)
  · exact row_last (cur := #[]) x.hi (Hr.out.drewN _)
  · exact (below_drewN ((Below.refl base w).alloc hb _) _).setCell (p := ⟨r, l.length * 3 + 1, none⟩) hbr _

/-- The facts of a range that is put behind others. -/
theorem row_form (w : World) {base : Nat} {v : Value} {l : List Rg} (h : RowR w base v l) : ∃ A n c, v = .slice A n c := by
  rcases h.form with ⟨rfl, _⟩ | ⟨g, c, cur, rfl, _⟩
  · exact ⟨_, _, _, rfl⟩
  · exact ⟨_, _, _, rfl⟩
set_option maxHeartbeats 2000000 in
theorem add_more (g : Nat) (v : Value) (l : List Rg) (y x : Rg) (base : Nat) (w : World) (hm : MapG w base g v (l ++ [y])) (hb : base ≤ w.heap.size) (hg : base ≤ g) (hn : l.length ≤ 1000000) (h1 : y.hi < x.lo) (h2 : ¬ (x.lo - 1 = y.hi ∧ x.val = y.val)) (h4 : 0 ≤ x.lo) (h5 : x.lo ≤ 2147483647) :
    Calls Try.prog 23 #[.pointer (some ⟨g, 0, none⟩), .agg #[.int .i32 x.lo, .int .i32 x.hi, .int .i64 x.val]] w fun e w' => e = .returned (.bool true) ∧ ∃ v', MapG w' base g v' (l ++ [y] ++ [x]) ∧ Below base w w' := by
  obtain ⟨hblk, hrow⟩ := hm
  obtain ⟨r, c, cur, rfl, hc, hbr, hcur, _, _, e0, e1, e2⟩ := last_cells hrow
  have c1 : w.cell? ⟨g, 1, none⟩ = some (.slice (some ⟨r, 0, none⟩) (l.length + 1) c) := hblk.cell 1
  have hlt := hblk.lt
  have hltr := hcur.lt
  have h0 : ((l.length : Int) + 1 == 0) = false := by simp; omega
  have hblk1 := hblk.alloc (.cells #[.int .i32 x.lo, .int .i32 x.hi, .int .i64 x.val] 24)
  have hrow1 := hrow.alloc (.cells #[.int .i32 x.lo, .int .i32 x.hi, .int .i64 x.val] 24)
  have Hne := Lib.hid (own_ne hrow1 hblk1 (by decide))
  have hle : (l ++ [y]).length + 1 ≤ 1000000000000 := by simp; omega
  have hll : (l ++ [y]).length = l.length + 1 := by simp
  have Hll := Lib.hid hll
  have Hb := Lib.hid hblk1
  have Hr := Lib.hid hrow1
  have Hr0 := Lib.hid hrow
  have hb2 : ∀ k, base ≤ (((w.alloc (.cells #[.int .i32 x.lo, .int .i32 x.hi, .int .i64 x.val] 24)).drewN k).alloc (.cells #[.int .i32 x.lo, .int .i32 x.hi, .int .i64 x.val] 24)).heap.size := fun k => by simp; omega
  clear hll hblk1 hrow1 hblk hrow hcur
  by_cases ht0 : x.lo - 1 = y.hi
  all_goals
    first
    | (have ht : (x.lo - 1 == y.hi) = true := by simp [ht0]
       have ht2 : decide (x.lo - 1 = y.hi) = true := by simp [ht0]
       have hv : (x.val == y.val) = false := by simp only [beq_eq_false_iff_ne]; exact fun h => h2 ⟨ht0, h⟩)
    | (have ht : (x.lo - 1 == y.hi) = false := by simp [ht0]
       have ht2 : decide (x.lo - 1 = y.hi) = false := by simp [ht0])
    clear ht0 h2
    go_enter Try.func23, Try.ntmps23
    go_wp2
    go_quiet (fail)
    go_wp2
    go_quiet (fail)
    go_wp2
    go_quiet (fail)
    go_wp2
    go_region_law ((refine step_rdR (by rfl) _ _ (by rfl) x (by rfl) ((Hr.out.drewN _).alloc _) (by rfl) (Blk.new3 _ _ _ _ _) hle (hb2 _) ?_; intro g1 c1' w1 hrow2 hgr hat; have hb3 := ((Hb.out.drewN _).alloc _).grown hgr (fun e => Hne.out e.symm); have d1 := hb3.cell 1; have d2 := hb3.frozen 1))
    all_goals
      go_wp2
      go_ret
      have hne2 := own_ne hrow2 hb3 (by decide)
      refine ⟨rfl, _, ⟨by simpa using hb3.set_ 1 (Value.slice (some ⟨g1, 0, none⟩) ((l ++ [y]).length + 1) c1'), RowR.set_ (by simpa using hrow2) (by simpa using hne2) _⟩, ?_⟩
      exact (((below_drewN ((Below.refl base w).alloc hb _) _).alloc (by simp; omega) _).grown hgr (hb2 _) (fun k hk => (World.ownsRow.lt Hr0.out k hk).1)).setCell hg _

theorem addL_snoc (l : List Rg) (y x : Rg) : addL (l ++ [y]) x = if x.lo ≤ y.hi then none else if x.lo - 1 = y.hi ∧ x.val = y.val then some (l ++ [⟨y.lo, x.hi, y.val⟩]) else some (l ++ [y] ++ [x]) := by
  unfold addL
  simp

/-- What add comes to. -/
def Added (l : List Rg) (x : Rg) (base g : Nat) (w : World) (w' : World) : Prop := Below base w w' ∧ ∀ l', addL l x = some l' → ∃ v', MapG w' base g v' l'

theorem add_any (g : Nat) (v : Value) (l : List Rg) (x : Rg) (base : Nat) (w : World) (hm : MapG w base g v l) (hb : base ≤ w.heap.size) (hg : base ≤ g) (hn : l.length ≤ 1000000) (h4 : 0 ≤ x.lo) (h5 : x.lo ≤ 2147483647) :
    Calls Try.prog 23 #[.pointer (some ⟨g, 0, none⟩), .agg #[.int .i32 x.lo, .int .i32 x.hi, .int .i64 x.val]] w fun e w' => e = .returned (.bool (addL l x).isSome) ∧ Added l x base g w w' := by
  rcases List.eq_nil_or_concat l with rfl | ⟨t, y, rfl⟩
  · exact (add_empty g v x base w hm hb hg).mono fun e w' ⟨he, v', h1, h2⟩ => ⟨he, h2, fun l' e => ⟨v', by rw [addL_nil] at e; injection e with e; subst e; exact h1⟩⟩
  · rw [List.concat_eq_append] at *
    unfold Added
    rw [addL_snoc]
    have hn' : t.length ≤ 1000000 := by simp at hn; omega
    by_cases h1 : x.lo ≤ y.hi
    · rw [if_pos h1]
      exact (add_no g v t y x base w hm hb hg hn' h1).mono fun e w' ⟨he, h2⟩ => ⟨he, h2, fun l' e => by cases e⟩
    · rw [if_neg h1]
      by_cases h2 : x.lo - 1 = y.hi ∧ x.val = y.val
      · rw [if_pos h2]
        exact (add_join g v t y x base w hm hb hg hn' (by omega) h2.1 h2.2 h4 h5).mono fun e w' ⟨he, h2, h3⟩ => ⟨he, h3, fun l' e => ⟨v, by injection e with e; subst e; exact h2⟩⟩
      · rw [if_neg h2]
        exact (add_more g v t y x base w hm hb hg hn' (by omega) h2 h4 h5).mono fun e w' ⟨he, v', h2, h3⟩ => ⟨he, h3, fun l' e => ⟨v', by injection e with e; subst e; exact h2⟩⟩
end Go.Proofs.Ytpghnoadeamplaa
