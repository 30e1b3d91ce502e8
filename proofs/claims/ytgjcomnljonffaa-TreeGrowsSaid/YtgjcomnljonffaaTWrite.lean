/- A writer: Bytes, Number, End. -/
import Derived.Test.YtgjcomnljonffaaTBase
import Derived.Maps.AppendAt
import Derived.Laws.Rows
namespace Go.Proofs.Ytgjcomnljonffaa.Tlv
open Go.RowKit
set_option maxRecDepth 100000
set_option linter.unusedVariables false
/-- A block that is known whole. -/
def Blk (w : World) (g : Nat) (t : TypeId) (cs : Array Value) : Prop := w.heap[g]? = some (.cells cs t (0, 0))
section
variable {w w' : World} {g : Nat} {t : TypeId} {cs : Array Value}
theorem Blk.lt (h : Blk w g t cs) : g < w.heap.size := (Array.getElem?_eq_some_iff.1 h).1
theorem Blk.cell (h : Blk w g t cs) (i : Nat) : w.cell? ⟨g, i, none⟩ = cs[i]? := cell_of_row w g i cs t (0, 0) h
theorem Blk.frozen (h : Blk w g t cs) (i : Nat) : w.frozen? ⟨g, i, none⟩ = false := by
  unfold Blk at h
  simp [World.frozen?, h]
theorem Blk.new (w : World) (t : TypeId) (cs : Array Value) : Blk (w.alloc (.cells cs t)) w.heap.size t cs := heap_alloc_new w _
theorem Blk.alloc (h : Blk w g t cs) (o : Obj) : Blk (w.alloc o) g t cs := (Below.heap_alloc w o g h.lt).trans h
theorem Blk.set_ (h : Blk w g t cs) (i : Nat) (u : Value) : Blk (w.setCell ⟨g, i, none⟩ u) g t (cs.setIfInBounds i u) := by
  unfold Blk at h ⊢
  simp [World.setCell, Array.getElem?_modify, h]
theorem Blk.grown {row : Option Nat} (h : Blk w g t cs) (hb : w.grownBy w' row) (hg : some g ≠ row) : Blk w' g t cs := (hb.block g h.lt hg).trans h
theorem Blk.below {B : Nat} (h : Blk w g t cs) (hb : Below B w w') (hg : g < B) : Blk w' g t cs := (hb.block g hg).trans h
theorem own_ne {base : Nat} {e : TypeId} {size n : Nat} {v : Value} {xs : List Value} (h : w.ownsRow base e size v n xs) (hg : Blk w g t cs) (hne : e ≠ t) : v.ownBlock ≠ some g := by
  rcases h.2 with ⟨rfl, _⟩ | ⟨g', cap, cur, rfl, _, hh, _⟩
  · simp [Value.ownBlock]
  · intro he
    have : g' = g := by simpa [Value.ownBlock] using he
    subst this
    unfold Blk at hg
    rw [hh] at hg
    injection hg with hg
    injection hg with _ ht
    exact hne ht
end
theorem Row.form {w : World} {base : Nat} {v : Value} {l : List Int} (h : Row w base v l) : ∃ A n c, v = .slice A n c := by
  obtain ⟨A, c, e, _, _⟩ := h.rd
  exact ⟨A, _, c, e⟩
theorem grownBy_set (w : World) (p : Addr) (u : Value) : w.grownBy (w.setCell p u) (some p.block) :=
  ⟨rfl, rfl, rfl, by simp [World.setCell], fun k _ hk => Below.heap_setCell w p u k (fun e => hk (by rw [e]))⟩
theorem Row.set_ {w : World} {base : Nat} {v : Value} {l : List Int} (h : Row w base v l) {g i : Nat} (hg : v.ownBlock ≠ some g) (u : Value) : Row (w.setCell ⟨g, i, none⟩ u) base v l :=
  World.ownsRow.kept h (grownBy_set w ⟨g, i, none⟩ u) (.inr hg)

/-- A slice that reads as l, in a block that is neither the writer's nor the one of its bytes. -/
def Apart (w : World) (A : Option Addr) (l : List Int) (g : Nat) (v : Value) : Prop :=
  Rd w w.heap.size A l ∧ ∀ ad, A = some ad → ad.block ≠ g ∧ v.ownBlock ≠ some ad.block
theorem Rd.grown {w w' : World} {A : Option Addr} {l : List Int} {row : Option Nat} (h : Rd w w.heap.size A l) (hg : w.grownBy w' row) (hr : ∀ ad, A = some ad → row ≠ some ad.block) : Rd w' w'.heap.size A l := fun hp => by
  obtain ⟨b, off, e, hlt, hc⟩ := h hp
  subst e
  refine ⟨b, off, rfl, by have := hg.size; omega, fun j hj => ?_⟩
  exact (World.cell?_of_block (w := w) (a := ⟨b, off + j, none⟩) (hg.block b hlt (fun e => hr _ rfl e.symm))).trans (hc j hj)

/-- append onto the bytes of the call's own: where the new row lies, too. -/
theorem wpList_app {w : World} {ops : Array Oper} {rest : List Oper} {o : Oper} {a : Act} {Q : Exit → Act → World → Prop} (hgd : o.guard = none) (s x : Operand)
    (ho : o.op = .call { callee := .builtin .append, args := #[s, x], argTypes := #[39, 39] })
    {base : Nat} {v : Value} {l : List Int} {ad : Addr} {c : Nat} (m : List Int) (hs : a.eval s = v) (hown : Row w base v l) (hx : a.eval x = .slice (some ad) m.length c) (hr : Rd w w.heap.size (some ad) m)
    (hn : l.length + m.length ≤ 140737488355328) (hb : base ≤ w.heap.size)
    (h : ∀ v' w', Row w' base v' (l ++ m) → w.grownBy w' v.ownBlock → (v'.ownBlock = v.ownBlock ∨ v'.ownBlock = some w.heap.size) → wpList Try.prog ops Q rest (a.put o.dst v') w') :
    wpList Try.prog ops Q (o :: rest) a w := by
  obtain ⟨i0, hi, hz0, hz1, hz2⟩ := info_parts info5
  have hcell : ∀ j u, (m.map (Value.int .u8))[j]? = some u → w.cell? (ad.add j) = some u := by
    intro j u hu
    have hj : j < m.length := by
      rcases Nat.lt_or_ge j m.length with h | h
      · exact h
      · rw [List.getElem?_eq_none (by simpa using h)] at hu; cases hu
    obtain ⟨b, off, e, hlt, hc⟩ := hr (by omega)
    injection e with e
    subst e
    rw [show (⟨b, off, none⟩ : Addr).add j = ⟨b, off + j, none⟩ from by unfold Addr.add; by_cases h : j = 0 <;> simp [h], hc j hj]
    simp [List.getElem?_map, List.getElem?_eq_getElem hj] at hu
    simp [List.getD_eq_getElem?_getD, List.getElem?_eq_getElem hj, hu]
  obtain ⟨v', w', hrun, h2, h3, _, h5⟩ := run_append_own_at (P := Try.prog) w base 39 o.type 5 i0 (.int .u8 0) 1 1 Try.underlying39 hi hz0 hz1 hz2 rfl (by decide) v l.length (l.map (Value.int .u8)) hown ad m.length c
    (m.map (Value.int .u8)) (by simp) hcell (by intro u hu; obtain ⟨y, _, rfl⟩ := List.mem_map.1 hu; rfl) (by unfold maxLen; omega) (by omega) hb
  refine wpList_plain hgd fun _ hK => ?_
  unfold Oper.wp execOp
  simp only [ho, resolve, invoke, builtin, Sem.run_bind, Sem.run_pure, Result.andThen_ok, List.map_toArray, List.map_cons, List.map_nil, hs, hx, hrun]
  exact hK _ _ (h v' w' (by unfold Row; simpa using h2) h3 h5)

theorem rd_after {w w1 : World} {X : Obj} {ad : Addr} {xs : List Int} {v u : Value} {g : Nat} (hrd : Rd w w.heap.size (some ad) xs) (h1 : ad.block ≠ g) (h2 : v.ownBlock ≠ some ad.block) (hg : (w.alloc X).grownBy w1 v.ownBlock) :
    Rd (w1.setCell ⟨g, 0, none⟩ u) (w1.setCell ⟨g, 0, none⟩ u).heap.size (some ad) xs := by
  have r1 := Rd.grown (w' := w.alloc X) (row := none) hrd (World.grownBy_alloc w X none) (fun _ _ => by simp)
  have r2 := Rd.grown r1 hg (fun ad' e => by injection e with e; subst e; exact h2)
  exact Rd.grown r2 (grownBy_set w1 ⟨g, 0, none⟩ u) (fun ad' e => by
    injection e with e
    subst e
    intro h
    injection h with h
    exact h1 h.symm)

def be4 (n : Nat) : List Int := [(n : Int) / 16777216, (n : Int) / 65536, (n : Int) / 256 % 256, (n : Int) % 256]

end Go.Proofs.Ytgjcomnljonffaa.Tlv
