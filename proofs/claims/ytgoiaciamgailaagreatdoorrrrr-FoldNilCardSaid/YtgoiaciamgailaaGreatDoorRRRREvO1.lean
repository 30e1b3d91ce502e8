/- Operations on what is known: memory, building. -/
import Derived.Test.YtgoiaciamgailaaGreatDoorRRRREvH
import Derived.Laws.Entries
namespace Go.Ev
set_option linter.unusedVariables false
set_option linter.unusedSimpArgs false
set_option linter.unusedSectionVars false
set_option linter.unnecessarySimpa false

structure EnvOk (E : Env) : Prop where
  tt : ∀ t i, E.tt.get t = some i → E.P.info? t = some i
  ft : ∀ f fn, E.ft.get f = some fn → E.P.funcs[f]? = some fn

def nextVal : Next → Option Value
  | .value v => some v
  | .skip => some undef
  | _ => none

section
variable {E : Env} (ok : EnvOk E)
include ok
theorem und_ok {t : TypeId} {d : TypeDesc} (h : und E t = some d) : E.P.underlying t = some d := by
  unfold und at h
  unfold Program.underlying
  split at h
  · rename_i i hi
    rw [ok.tt t i hi]
    split at h
    · rename_i n u hd
      split at h
      · rename_i j hj
        cases i; simp only at hd; subst hd
        simp [ok.tt u j hj, h]
      · cases h
    · rename_i d' hn
      cases i with | mk desc _ _ _ _ _ _ _ _ _ =>
      simp only at hn h ⊢
      cases desc <;> first | (exact absurd rfl (hn _ _)) | exact h
  · cases h
theorem run_und {t : TypeId} {d : TypeDesc} (h : und E t = some d) (w : World) : (underlying t).run E.P w = .ok d w := run_underlying (und_ok ok h) w
theorem run_info {t : TypeId} {i : TypeInfo} (h : E.tt.get t = some i) (w : World) : (typeInfo t).run E.P w = .ok i w := by
  simp [typeInfo, ok.tt t i h]
theorem size_ok {t : TypeId} {n : Nat} (h : sizeO E t = some n) : ∃ i, E.tt.get t = some i ∧ i.size = n := by
  unfold sizeO info at h
  cases h1 : E.tt.get t with
  | none => rw [h1] at h; cases h
  | some i => rw [h1] at h; exact ⟨i, rfl, by simpa using h⟩
theorem run_size {t : TypeId} {n : Nat} (h : sizeO E t = some n) (w : World) : (sizeOf t).run E.P w = .ok n w := by
  obtain ⟨i, hi, rfl⟩ := size_ok ok h
  simp [Go.sizeOf, run_info ok hi]
theorem zero_ok {t : TypeId} {z : Value} (h : zeroO E t = some z) : ∃ i, E.tt.get t = some i ∧ i.zero = some z := by
  unfold zeroO info at h
  cases h1 : E.tt.get t with
  | none => rw [h1] at h; cases h
  | some i => rw [h1] at h; exact ⟨i, rfl, by simpa using h⟩
theorem run_zero {t : TypeId} {i : TypeInfo} {z : Value} (h : E.tt.get t = some i) (hz : i.zero = some z) (w : World) : (zeroValue t).run E.P w = .ok z w := by
  simp [zeroValue, run_info ok h, hz]
theorem run_agg {t : TypeId} {b : Bool} (h : isAggO E t = some b) (w : World) : (isAgg t).run E.P w = .ok b w := by
  unfold isAggO at h
  cases h1 : und E t with
  | none => rw [h1] at h; cases h
  | some d =>
    rw [h1] at h
    simp only [isAgg, Sem.run_bind, run_und ok h1, Result.andThen_ok]
    cases d <;> simp only [Option.some.injEq] at h <;> subst h <;> rfl
end

section
variable {P : Program}
theorem cell_of_heap {w : World} {b i : Nat} {c : Array Value} {t : TypeId} {fr : Nat × Nat} (h : w.heap[b]? = some (.cells c t fr)) : w.cell? ⟨b, i, none⟩ = c[i]? := by simp [World.cell?, h]
theorem frozen_of_heap {w : World} {b i : Nat} {c : Array Value} {t : TypeId} {fr : Nat × Nat} (h : w.heap[b]? = some (.cells c t fr)) : w.frozen? ⟨b, i, none⟩ = (decide (fr.1 ≤ i) && decide (i < fr.2)) := by
  obtain ⟨lo, hi⟩ := fr
  simp [World.frozen?, h]
/-- Cells put into a block. -/
def putAt (c : Array Value) : Nat → List Value → Array Value
  | _, [] => c
  | i, v :: vs => putAt (c.setIfInBounds i v) (i + 1) vs
theorem size_putAt (vs : List Value) : ∀ (c : Array Value) (i : Nat), (putAt c i vs).size = c.size := by
  induction vs with
  | nil => intro c i; rfl
  | cons v vs ih => intro c i; simp [putAt, ih]
theorem get_putAt (vs : List Value) : ∀ (c : Array Value) (i j : Nat), i + vs.length ≤ c.size → (putAt c i vs)[j]? = if i ≤ j ∧ j < i + vs.length then vs[j - i]? else c[j]? := by
  induction vs with
  | nil => intro c i j _; simp [putAt]; omega
  | cons v vs ih =>
    intro c i j h
    simp only [List.length_cons] at h
    simp only [putAt]
    rw [ih _ _ _ (by simp; omega)]
    by_cases h1 : i + 1 ≤ j ∧ j < i + 1 + vs.length
    · rw [if_pos h1, if_pos (by simp; omega), show j - i = (j - (i + 1)) + 1 by omega]; simp
    · rw [if_neg h1]
      by_cases h2 : j = i
      · subst h2
        rw [if_pos (by simp)]
        simp [Array.getElem?_setIfInBounds, show j < c.size by omega]
      · rw [if_neg (by simp only [List.length_cons]; omega), Array.getElem?_setIfInBounds_ne (Ne.symm h2)]
theorem heap_setCells {b : Nat} {t : TypeId} {fr : Nat × Nat} : ∀ (vs : List Value) (o : Nat) (w : World) (c : Array Value), w.heap[b]? = some (.cells c t fr) →
    (w.setCells b o vs).heap.size = w.heap.size ∧ (w.setCells b o vs).heap[b]? = some (.cells (putAt c o vs) t fr) ∧ ∀ k, k ≠ b → (w.setCells b o vs).heap[k]? = w.heap[k]? := by
  intro vs
  induction vs with
  | nil => intro o w c h; exact ⟨rfl, h, fun _ _ => rfl⟩
  | cons v vs ih =>
    intro o w c h
    have h1 : (w.setCell ⟨b, o, none⟩ v).heap[b]? = some (.cells (c.setIfInBounds o v) t fr) := by
      simp only [World.setCell, Array.getElem?_modify]
      simp [h]
    obtain ⟨a1, a2, a3⟩ := ih (o + 1) _ _ h1
    simp only [World.setCells]
    refine ⟨by rw [a1]; simp, a2, fun k hk => ?_⟩
    rw [a3 k hk]
    simp only [World.setCell, Array.getElem?_modify]
    rw [if_neg (Ne.symm hk)]
theorem run_store_row {w : World} {b o : Nat} {c : Array Value} {t : TypeId} {fr : Nat × Nat} (h : w.heap[b]? = some (.cells c t fr)) (vs : List Value) (hs : o + vs.length ≤ c.size)
    (hf : ∀ j, j < vs.length → ¬ (fr.1 ≤ o + j ∧ o + j < fr.2)) (h1 : ∀ v, v ∈ vs → v.oneCell' = true) : (storeCells ⟨b, o, none⟩ vs).run P w = .ok () (w.setCells b o vs) := by
  have := run_storeCells_cells (P := P) b o vs 0 w (fun j hj => by
      rw [cell_of_heap h, Array.getElem?_eq_getElem (show o + 0 + j < c.size by omega)]; rfl)
    (fun j hj => by
      rw [frozen_of_heap h]
      have := hf j hj
      simp only [Nat.add_zero]
      rw [← Bool.decide_and]
      exact decide_eq_false this) h1
  simpa using this
theorem run_load_row {w : World} {b o : Nat} {c : Array Value} {t : TypeId} {fr : Nat × Nat} (h : w.heap[b]? = some (.cells c t fr)) (vs : List Value) (hv : ∀ (j : Nat) v, vs[j]? = some v → c[o + j]? = some v) :
    (loadCells ⟨b, o, none⟩ vs.length).run P w = .ok ⟨vs⟩ w := by
  have := run_loadCells_list (P := P) w ⟨b, o, none⟩ vs (fun j v hj => by
    have e : (⟨b, o, none⟩ : Addr).add j = ⟨b, o + j, none⟩ := by unfold Addr.add; split <;> simp_all
    rw [e, cell_of_heap h]; exact hv j v hj)
  simpa using this
end

section
variable {E : Env} {ρ : Rho} {h : Heap} {w : World}
/-- The cells of a row, from a place on. -/
theorem RowR.gets {N : Nat} {cs : Tr SV} {dfl : List SV} {size : Nat} {p : Pl} {c : Array Value} {fr : Nat × Nat} (hr : RowR ρ N cs dfl size p c fr) {off n : Nat} {l : List SV} (hl : rowGets cs dfl off n = some l) (hb : off + n ≤ size) :
    ∃ l' : List Value, l'.length = n ∧ VRs ρ N l l' ∧ (∀ v, v ∈ l' → v.oneCell' = true) ∧ ∀ (j : Nat) v, l'[j]? = some v → c[p.o + off + j]? = some v := by
  obtain ⟨h1, h2⟩ := rowGets_some hl
  have hc : ∀ j, j < n → ∃ v', c[p.o + off + j]? = some v' ∧ v'.oneCell' = true ∧ ∀ v, l[j]? = some v → VR ρ N v v' := fun j hj => by
    obtain ⟨v, v', a0, a1, a2, a3⟩ := hr.cell (off + j) (by omega)
    refine ⟨v', by rw [Nat.add_assoc]; exact a1, a2, fun u hu => ?_⟩
    rw [h2 j hj, hu] at a0
    cases a0
    exact a3
  refine ⟨(List.range n).map fun j => (c[p.o + off + j]?).getD undef, by simp, VRs.mk (by simp [h1]) fun i v hv => ?_, fun v hv => ?_, fun j v hj => ?_⟩
  · have hi : i < n := by rw [← h1]; exact (List.getElem?_eq_some_iff.1 hv).1
    obtain ⟨v', a1, a2, a3⟩ := hc i hi
    exact ⟨v', by simp [hi, a1], a3 v hv⟩
  · obtain ⟨j, hj, rfl⟩ := List.mem_map.1 hv
    obtain ⟨v', a1, a2, a3⟩ := hc j (List.mem_range.1 hj)
    rw [a1]; exact a2
  · have hi : j < n := by have := (List.getElem?_eq_some_iff.1 hj).1; simpa using this
    obtain ⟨v', a1, a2, a3⟩ := hc j hi
    simp [hi, a1] at hj
    subst hj
    exact a1
theorem HR.row (hr : HR E ρ h w) {b : Nat} {cs : Tr SV} {dfl : List SV} {size : Nat} {e : TypeId} (hb : h.t.get b = some (.row cs dfl size e)) :
    ∃ c t fr, w.heap[(ρ b).b]? = some (.cells c t fr) ∧ RowR ρ h.next cs dfl size (ρ b) c fr ∧ (∀ i, E.tt.get e = some i → i.size = (ρ b).z) := by
  obtain ⟨o, h1, h2⟩ := hr.blk b _ hb
  cases h2 with
  | row _ _ _ _ _ c t fr a1 a2 => exact ⟨c, t, fr, h1, a1, a2⟩
/-- Cells put into a row that is known. -/
theorem RowR.puts {N : Nat} {cs : Tr SV} {dfl : List SV} {size : Nat} {p : Pl} {c : Array Value} {fr : Nat × Nat} (hr : RowR ρ N cs dfl size p c fr) {off : Nat} {l : List SV} {l' : List Value} (hl : VRs ρ N l l') (h1 : ∀ v, v ∈ l' → v.oneCell' = true) {m : Nat} (hm : m ≤ p.n) (hb : off + l.length ≤ m) (hgap : ∀ i, i < m → size ≤ i → off ≤ i ∧ i < off + l.length) :
    RowR ρ N (cs.puts off l) dfl m p (putAt c (p.o + off) l') fr := by
  have hlen := hl.length
  have hsz : p.o + off + l'.length ≤ c.size := by rw [hr.all, ← hlen]; omega
  refine ⟨by rw [size_putAt]; exact hr.all, hm, hr.thaw, fun i hi => ?_⟩
  rw [rowGet_put, get_putAt _ _ _ _ hsz]
  by_cases hc : off ≤ i ∧ i < off + l.length
  · rw [if_pos hc, if_pos (by omega), show p.o + i - (p.o + off) = i - off by omega]
    have hlt : i - off < l.length := by omega
    have hg := List.getElem?_eq_getElem hlt
    obtain ⟨v', a1, a2⟩ := hl.get hg
    exact ⟨_, v', hg, a1, h1 v' (List.mem_of_getElem? a1), a2⟩
  · rw [if_neg hc, if_neg (by omega)]
    exact hr.cell i (by by_cases hs : i < size; exact hs; exact absurd (hgap i hi (by omega)) hc)
theorem RowR.ofList {N : Nat} {l : List SV} {l' : List Value} (hl : VRs ρ N l l') (h1 : ∀ v, v ∈ l' → v.oneCell' = true) (b z : Nat) (more : List Value) : RowR ρ N (Tr.e.puts 0 l) [] l.length ⟨b, 0, l'.length + more.length, z⟩ ⟨l' ++ more⟩ (0, 0) := by
  have hlen := hl.length
  refine ⟨by simp, by simp; omega, fun i _ hc => by have := hc.2; simp at this, fun i hi => ?_⟩
  rw [rowGet_put, if_pos (by omega)]
  have hg := List.getElem?_eq_getElem hi
  obtain ⟨v', a1, a2⟩ := hl.get hg
  refine ⟨_, v', by simpa using hg, ?_, h1 v' (List.mem_of_getElem? a1), a2⟩
  simp only [Nat.zero_add, List.getElem?_toArray]
  rw [List.getElem?_append_left (by omega)]; exact a1

/-! ### Loads, stores -/
variable (ok : EnvOk E)
include ok
theorem load_ok (hr : HR E ρ h w) {t : TypeId} {a v : SV} {a' : Value} (ha : VR ρ h.next a a') (hv : loadS E h t a = some v) : ∃ v', (Instr.loadAt t a').run E.P w = .ok v' w ∧ VR ρ h.next v v' := by
  unfold loadS at hv
  split at hv
  · rename_i b off
    split at hv
    · rename_i cs dfl size e hb
      obtain ⟨c, ty, fr, hw, hR, _⟩ := hr.row hb
      cases ha
      simp only [Instr.loadAt, Instr.sureAddr, Sem.run_bind, Sem.run_pure, Result.andThen_ok]
      unfold loadRow at hv
      split at hv
      · rename_i hag
        split at hv
        · rename_i n hn
          have key : ∀ l, rowGets cs dfl off n = some l → off + n ≤ size → ∃ l' : List Value, VRs ρ h.next l l' ∧ (∀ v, v ∈ l' → v.oneCell' = true) ∧ (loadVar t ⟨(ρ b).b, (ρ b).o + off, none⟩).run E.P w = .ok (.agg ⟨l'⟩) w := fun l hl hle => by
            obtain ⟨l', b1, b2, b3, b4⟩ := hR.gets hl hle
            refine ⟨l', b2, b3, ?_⟩
            have := run_load_row (P := E.P) hw l' b4
            rw [b1] at this
            simp only [loadVar, Sem.run_bind, run_agg ok hag, Result.andThen_ok, if_true, run_size ok hn, this, Sem.run_pure]
          cases hc : (Nat.beq off 0 && Nat.beq n size && Nat.ble 16 n)
          · rw [hc, cond_false, ble_eq] at hv
            by_cases hle : off + n ≤ size
            · rw [decide_eq_true hle, cond_true] at hv
              cases hl : rowGets cs dfl off n with
              | none => rw [hl] at hv; cases hv
              | some l =>
                rw [hl] at hv
                simp only [Option.map_some, Option.some.injEq] at hv
                subst hv
                obtain ⟨l', b1, b2, b3⟩ := key l hl hle
                exact ⟨_, b3, .agg l l' b1⟩
            · rw [decide_eq_false hle, cond_false] at hv; cases hv
          · rw [hc, cond_true] at hv
            simp only [Bool.and_eq_true, Tr.beq_of, decide_eq_true_eq] at hc
            obtain ⟨⟨rfl, rfl⟩, _⟩ := hc
            simp only [Option.some.injEq] at hv
            subst hv
            have hl := rowGets_of (cs := cs) (dfl := dfl) (i := 0) (n := n) (fun j => (rowGet cs dfl j).getD .unk) (fun j hj => by
              obtain ⟨v, v', a0, _⟩ := hR.cell j hj
              simp [a0])
            obtain ⟨l', b1, b2, b3⟩ := key _ hl (by omega)
            have hln : (List.map (fun j => (rowGet cs dfl j).getD SV.unk) (List.range n)).length = n := by simp
            refine ⟨_, b3, ?_⟩
            have := VR.arr (ρ := ρ) (N := h.next) cs dfl _ l' (by rw [hln]; exact hl) b2 b1
            rwa [hln] at this
        · cases hv
      · rename_i hag
        rw [blt_eq] at hv
        by_cases hlt : off < size
        · rw [decide_eq_true hlt, cond_true] at hv
          obtain ⟨u, v', a0, a1, a2, a3⟩ := hR.cell off hlt
          rw [hv] at a0
          cases a0
          refine ⟨v', ?_, a3⟩
          simp only [loadVar, Sem.run_bind, run_agg ok hag, Result.andThen_ok, Bool.false_eq_true, if_false, run_load, cell_of_heap hw, a1]
        · rw [decide_eq_false hlt, cond_false] at hv; cases hv
      · cases hv
    · cases hv
  · rename_i v0
    cases ha
    unfold loadG at hv
    split at hv
    · rename_i a
      split at hv
      · rename_i hsp hag
        cases hc : Nat.beq a.off 0 with
        | false => rw [hc] at hv; cases hv
        | true =>
          rw [hc, cond_true] at hv
          rw [Tr.beq_of, decide_eq_true_eq] at hc
          cases hg : E.globs.get a.block with
          | none => rw [hg] at hv; cases hv
          | some u =>
            rw [hg] at hv
            cases hv
            obtain ⟨cs, ty, fr, b1, b2⟩ := hr.glob _ _ hg
            obtain ⟨blk, off, spot⟩ := a
            simp only at hsp hc b1
            subst hsp; subst hc
            refine ⟨u, ?_, .val u⟩
            simp only [Instr.loadAt, Instr.sureAddr, Sem.run_bind, Sem.run_pure, Result.andThen_ok, loadVar, run_agg ok hag, Bool.false_eq_true, if_false, run_load, cell_of_heap b1, b2]
      · cases hv
    · cases hv
  · cases hv
omit ok in
theorem loadS_ptr {t : TypeId} {a v : SV} {a' : Value} {N : Nat} (ha : VR ρ N a a') (hv : loadS E h t a = some v) : ∃ q, a' = .pointer (some q) := by
  unfold loadS at hv
  split at hv
  · cases ha; exact ⟨_, rfl⟩
  · cases ha
    unfold loadG at hv
    split at hv
    · exact ⟨_, rfl⟩
    · cases hv
  · cases hv
theorem store_ok (hr : HR E ρ h w) {t : TypeId} {a v : SV} {a' v' : Value} (ha : VR ρ h.next a a') (hv : VR ρ h.next v v') {h' : Heap} (hs : storeS E h t a v = some h') : ∃ w', (Instr.storeAt t a' v').run E.P w = .ok () w' ∧ Go E ρ h w ρ h' w' := by
  unfold storeS at hs
  split at hs
  · rename_i b off
    split at hs
    · rename_i cs dfl size e hb
      obtain ⟨c, ty, fr, hw, hR, hz⟩ := hr.row hb
      split at hs
      · rename_i n hn
        cases ha
        simp only [Instr.storeAt, Instr.sureAddr, Sem.run_bind, Sem.run_pure, Result.andThen_ok, storeVar, run_size ok hn]
        have key : ∀ (l' : List Value) (cs' : Tr SV) (dfl' : List SV), v'.cells.toList = l' → l'.length = n → off + n ≤ size → (∀ v, v ∈ l' → v.oneCell' = true) → RowR ρ h.next cs' dfl' size (ρ b) (putAt c ((ρ b).o + off) l') fr →
            ∃ w', ((if v'.cells.size ≠ n then stuck "storeVar: the value has not the size of the variable" else pure PUnit.unit) >>= fun _ => storeCells ⟨(ρ b).b, (ρ b).o + off, none⟩ v'.cells.toList).run E.P w = .ok () w' ∧ Go E ρ h w ρ (h.set b (.row cs' dfl' size e)) w' := fun l' cs' dfl' e1 e2 e3 e4 e5 => by
          have hsz : v'.cells.size = n := by rw [← e2, ← e1]; simp
          have hst := run_store_row (P := E.P) (o := (ρ b).o + off) hw l' (by rw [hR.all, e2]; have := hR.le; omega) (fun j hj => by have := hR.thaw (off + j) (by have := hR.le; omega); rwa [← Nat.add_assoc] at this) e4
          obtain ⟨g1, g2, g3⟩ := heap_setCells (t := ty) (fr := fr) l' ((ρ b).o + off) w c hw
          refine ⟨_, ?_, Go.set E hr hb _ _ (.row _ _ _ _ _ _ _ _ e5 hz) g1 g2 g3⟩
          rw [e1]
          simp only [Sem.run_bind, hsz, ne_eq, not_true_eq_false, if_false, Sem.run_pure, Result.andThen_ok, hst]
        have listKey : ∀ (l : Option (List SV)), v.cells = l → storeList h b off n cs dfl size e l = some h' → ∃ w', ((if v'.cells.size ≠ n then stuck "storeVar: the value has not the size of the variable" else pure PUnit.unit) >>= fun _ => storeCells ⟨(ρ b).b, (ρ b).o + off, none⟩ v'.cells.toList).run E.P w = .ok () w' ∧ Go E ρ h w ρ h' w' := fun l hl hs => by
          unfold storeList at hs
          cases l with
          | none => cases hs
          | some l =>
            simp only at hs
            cases hc : (Nat.beq l.length n && Nat.ble (off + n) size && all1 l)
            · rw [hc] at hs; cases hs
            · rw [hc, cond_true] at hs
              simp only [Bool.and_eq_true, Tr.beq_of, ble_eq, decide_eq_true_eq] at hc
              obtain ⟨⟨c1, c2⟩, c3⟩ := hc
              simp only [Option.some.injEq] at hs
              subst hs
              have hcl := hv.cells hl
              have ho := hcl.ones c3
              exact key _ _ _ rfl (by rw [← hcl.length]; exact c1) c2 ho (hR.puts hcl ho hR.le (by omega) (fun i hi hs => by omega))
        have done : ∀ {x y : Sem PUnit}, x = y → (∃ w', y.run E.P w = .ok () w' ∧ Go E ρ h w ρ h' w') → ∃ w', x.run E.P w = .ok () w' ∧ Go E ρ h w ρ h' w' := fun e h => e ▸ h
        unfold storeRow at hs
        split at hs
        · rename_i cs' dfl' m
          cases hc : (Nat.beq off 0 && Nat.beq n size && Nat.beq m n)
          · rw [hc, cond_false] at hs
            simpa using listKey _ rfl hs
          · rw [hc, cond_true] at hs
            simp only [Bool.and_eq_true, Tr.beq_of, decide_eq_true_eq] at hc
            obtain ⟨⟨rfl, rfl⟩, rfl⟩ := hc
            simp only [Option.some.injEq] at hs
            subst hs
            cases hv with
            | arr _ _ l l' q1 q2 q3 =>
              have hlen := q3.length
              obtain ⟨r1, r2⟩ := rowGets_some q1
              have hsz : (ρ b).o + 0 + l'.length ≤ c.size := by rw [hR.all, ← hlen]; have := hR.le; omega
              have := key l' cs' dfl' rfl hlen.symm (by omega) q2 ⟨by rw [size_putAt]; exact hR.all, hR.le, hR.thaw, fun i hi => by
                rw [get_putAt _ _ _ _ hsz, if_pos (by omega), show (ρ b).o + i - ((ρ b).o + 0) = i by omega]
                have r3 := r2 i hi
                rw [Nat.zero_add] at r3
                have hg := List.getElem?_eq_getElem hi
                obtain ⟨v', a1, a2⟩ := q3.get hg
                exact ⟨_, v', r3.trans hg, a1, q2 v' (List.mem_of_getElem? a1), a2⟩⟩
              simpa using this
        · simpa using listKey _ rfl hs
      · cases hs
    · cases hs
  · cases hs
end
end Go.Ev
