/- Rows of bytes: a slice that reads as a list, a slice that the call owns; slices.Clone. -/
import Derived.Test.YtniaijgejljjbaaGreatProg
import Derived.WalkKit
import Derived.ProofKit
import Derived.Below
import Derived.BigQuiet
import Derived.Deep.QuietTactic
import Derived.IntWalk
import Derived.OwnWalk
import Derived.WalkSpells
import Derived.Lib.Hide
import Derived.Outline
import Derived.LoopTactic
import Derived.LoopN
import Derived.Maps.AppendAt
import Derived.Laws.Rows
namespace Go.Proofs.YtniaijgejljjbaaGreat.Tlv
open Go.RowKit
set_option maxRecDepth 100000
set_option linter.unusedVariables false
theorem info5 : (Tryz.prog.info? 5).map (fun i => (i.zero, i.size, i.bytes)) = some (some (.int .u8 0), 1, 1) := by kernel_rfl
def Rd (w : World) (B : Nat) (A : Option Addr) (l : List Int) : Prop :=
 0 < l.length → ∃ b off, A = some ⟨b, off, none⟩ ∧ b < B ∧ ∀ j, j < l.length → w.cell? ⟨b, off + j, none⟩ = some (.int .u8 (l.getD j 0))
def Row (w : World) (base : Nat) (v : Value) (l : List Int) : Prop := w.ownsRow base 5 1 v l.length (l.map (Value.int .u8))
theorem Rd.below {w w' : World} {B : Nat} {A : Option Addr} {l : List Int} (h : Rd w B A l) (hb : Below B w w') : Rd w' B A l := fun hp => by
 obtain ⟨b, off, e, hlt, hc⟩ := h hp
 exact ⟨b, off, e, hlt, fun j hj => (hb.cell (p := ⟨b, off + j, none⟩) hlt).trans (hc j hj)⟩
theorem Rd.more {w : World} {B B' : Nat} {A : Option Addr} {l : List Int} (h : Rd w B A l) (hB : B ≤ B') : Rd w B' A l := fun hp => by
 obtain ⟨b, off, e, hlt, hc⟩ := h hp
 exact ⟨b, off, e, by omega, hc⟩
theorem Rd.nil {w : World} {B : Nat} {A : Option Addr} : Rd w B A [] := fun h => by simp at h
theorem Row.rd {w : World} {base : Nat} {v : Value} {l : List Int} (h : Row w base v l) : ∃ A cap, v = .slice A l.length cap ∧ l.length ≤ cap ∧ Rd w w.heap.size A l := by
 rcases h.2 with ⟨rfl, hn⟩ | ⟨g, cap, cur, rfl, h3, hg, h5, r⟩
 · exact ⟨none, 0, by rw [hn], by omega, fun h => by omega⟩
 · refine ⟨_, cap, rfl, h5, fun hp => ⟨g, 0, rfl, (Array.getElem?_eq_some_iff.1 hg).1, fun j hj => ?_⟩⟩
   have := World.ownsRow.cells (w := w) (base := base) (e := 5) (size := 1) (v := .slice (some ⟨g, 0, none⟩) l.length cap) (n := l.length) (xs := l.map (Value.int .u8)) ⟨h.1, .inr ⟨g, cap, cur, rfl, h3, hg, h5, r⟩⟩ (g := g) rfl j (.int .u8 (l.getD j 0))
     (by simp [List.getElem?_map, List.getElem?_eq_getElem hj, List.getD_eq_getElem?_getD])
   rwa [show (⟨g, 0, none⟩ : Addr).add j = ⟨g, 0 + j, none⟩ from by unfold Addr.add; by_cases h : j = 0 <;> simp [h]] at this
theorem wpList_rd {w : World} {ops : Array Oper} {rest : List Oper} {o : Oper} {a : Act} {Q : Exit → Act → World → Prop} (hgd : o.guard = none) (s x : Operand)
   (ho : o.op = .call { callee := .builtin .append, args := #[s, x], argTypes := #[42, 42] })
   {base B : Nat} {v : Value} {l : List Int} {A : Option Addr} {c : Nat} (m : List Int) (hs : a.eval s = v) (hown : Row w base v l) (hx : a.eval x = .slice A m.length c) (hr : Rd w B A m)
   (hn : l.length + m.length ≤ 140737488355328) (hb : base ≤ w.heap.size) (hm : A.isSome = true)
   (h : ∀ v' w', Row w' base v' (l ++ m) → Below base w w' → w.grownBy w' v.ownBlock → wpList Tryz.prog ops Q rest (a.put o.dst v') w') :
   wpList Tryz.prog ops Q (o :: rest) a w := by
 obtain ⟨i0, hi, hz0, hz1, hz2⟩ := info_parts info5
 obtain ⟨ad, rfl⟩ := Option.isSome_iff_exists.1 hm
 refine wpList_append_own (w := w) hgd s x 42 ho base 5 i0 (.int .u8 0) 1 1 Tryz.underlying42 hi hz0 hz1 hz2 rfl (by decide) v l.length (l.map (Value.int .u8)) hs
   hown ad m.length c (m.map (Value.int .u8)) hx (by simp) ?_ ?_ ?_ ?_ hb ?_
 · intro j u hu
   have hj : j < m.length := by
     rcases Nat.lt_or_ge j m.length with h | h
     · exact h
     · rw [List.getElem?_eq_none (by simpa using h)] at hu; cases hu
   obtain ⟨b, off, e, hlt, hc⟩ := hr (by omega)
   injection e with e
   subst e
   rw [show (⟨b, off, none⟩ : Addr).add j = ⟨b, off + j, none⟩ from by unfold Addr.add; by_cases h : j = 0 <;> simp [h], hc j hj]
   simp [List.getElem?_map, List.getElem?_eq_getElem hj] at hu
   simp [List.getD_eq_getElem?_getD, List.getElem?_eq_getElem hj, hu]
 · intro u hu
   obtain ⟨y, _, rfl⟩ := List.mem_map.1 hu
   rfl
 · unfold maxLen; omega
 · omega
 · intro v' w' h2 h3 _
   refine h v' w' ?_ ?_ h3
   · unfold Row; simpa using h2
   · exact (Below.refl base w).grown h3 hb (fun k hk => (World.ownsRow.lt hown k hk).1)
theorem nil_eq (c : Nat) (W : World) : (binOp BinOp.eql 42 (Value.slice none 0 c) (Value.slice none 0 0)).run Tryz.prog W = .ok (.bool true) W := rfl
theorem nil_ne (a : Addr) (n c : Nat) (W : World) : (binOp BinOp.eql 42 (Value.slice (some a) n c) (Value.slice none 0 0)).run Tryz.prog W = .ok (.bool false) W := rfl
set_option maxHeartbeats 1000000 in
theorem clone_any (A : Option Addr) (c : Nat) (l : List Int) (w : World) (hr : Rd w w.heap.size A l) (hn : l.length ≤ 70368744177664) :
   Calls Tryz.prog 61 #[.slice A l.length c] w fun e w' => ∃ v, e = .returned v ∧ Row w' w.heap.size v l ∧ Below w.heap.size w w' := by
 by_cases hA : A = none
 · subst hA
   have hl : l = [] := by
     cases l with
     | nil => rfl
     | cons a t => obtain ⟨b, off, e, _⟩ := hr (by simp); cases e
   subst hl
   have h1 := nil_eq c
   go_enter Tryz.func61, Tryz.ntmps61
   go_wp2
   go_ret
   exact ⟨_, rfl, World.ownsRow_nil _ _ _ _, Below.refl _ _⟩
 · obtain ⟨a, rfl⟩ : ∃ a, A = some a := by cases A with | none => exact absurd rfl hA | some a => exact ⟨a, rfl⟩
   clear hA
   have h1 := nil_ne a l.length c
   have hb1 : Below w.heap.size w (w.alloc (.cells #[] 5)) := (Below.refl _ _).alloc (Nat.le_refl _) _
   have hr1 := hr.below hb1
   have hR : Row (w.alloc (.cells #[] 5)) w.heap.size (.slice (some ⟨w.heap.size, 0, none⟩) 0 0) [] := World.ownsRow_made w #[] 0 (Nat.le_refl _) (by simp [maxLen]) rfl
   go_enter Tryz.func61, Tryz.ntmps61
   go_wp2_with (at_builtin; refine wpList_rd rfl _ _ rfl l rfl hR rfl hr1 (by simp; omega) (by simp) rfl ?_; intro v1 w1 hrow1 hb2 hg2)
   go_ret
   exact ⟨v1, rfl, by simpa using hrow1, hb1.trans hb2⟩
end Go.Proofs.YtniaijgejljjbaaGreat.Tlv
namespace Go.Proofs.YtniaijgejljjbaaGreat.Tlv
open Go.RowKit
set_option maxRecDepth 100000
set_option linter.unusedVariables false
def Blk (w : World) (g : Nat) (t : TypeId) (cs : Array Value) : Prop := w.heap[g]? = some (.cells cs t (0, 0))
section
variable {w w' : World} {g : Nat} {t : TypeId} {cs : Array Value}
theorem Blk.lt (h : Blk w g t cs) : g < w.heap.size := (Array.getElem?_eq_some_iff.1 h).1
theorem Blk.cell (h : Blk w g t cs) (i : Nat) : w.cell? ⟨g, i, none⟩ = cs[i]? := cell_of_row w g i cs t (0, 0) h
theorem Blk.frozen (h : Blk w g t cs) (i : Nat) : w.frozen? ⟨g, i, none⟩ = false := by
 unfold Blk at h
 simp [World.frozen?, h]
theorem Blk.new (w : World) (t : TypeId) (cs : Array Value) : Blk (w.alloc (.cells cs t)) w.heap.size t cs := heap_alloc_new w _
theorem Blk.alloc (h : Blk w g t cs) (o : Obj) : Blk (w.alloc o) g t cs := (Below.heap_alloc w o g h.lt).trans h
theorem Blk.set_ (h : Blk w g t cs) (i : Nat) (u : Value) : Blk (w.setCell ⟨g, i, none⟩ u) g t (cs.setIfInBounds i u) := by
 unfold Blk at h ⊢
 simp [World.setCell, Array.getElem?_modify, h]
theorem Blk.grown {row : Option Nat} (h : Blk w g t cs) (hb : w.grownBy w' row) (hg : some g ≠ row) : Blk w' g t cs := (hb.block g h.lt hg).trans h
theorem Blk.below {B : Nat} (h : Blk w g t cs) (hb : Below B w w') (hg : g < B) : Blk w' g t cs := (hb.block g hg).trans h
theorem own_ne {base : Nat} {e : TypeId} {size n : Nat} {v : Value} {xs : List Value} (h : w.ownsRow base e size v n xs) (hg : Blk w g t cs) (hne : e ≠ t) : v.ownBlock ≠ some g := by
 rcases h.2 with ⟨rfl, _⟩ | ⟨g', cap, cur, rfl, _, hh, _⟩
 · simp [Value.ownBlock]
 · intro he
   have : g' = g := by simpa [Value.ownBlock] using he
   subst this
   unfold Blk at hg
   rw [hh] at hg
   injection hg with hg
   injection hg with _ ht
   exact hne ht
end
theorem grownBy_set (w : World) (p : Addr) (u : Value) : w.grownBy (w.setCell p u) (some p.block) :=
 ⟨rfl, rfl, rfl, by simp [World.setCell], fun k _ hk => Below.heap_setCell w p u k (fun e => hk (by rw [e]))⟩
theorem Row.set_ {w : World} {base : Nat} {v : Value} {l : List Int} (h : Row w base v l) {g i : Nat} (hg : v.ownBlock ≠ some g) (u : Value) : Row (w.setCell ⟨g, i, none⟩ u) base v l :=
 World.ownsRow.kept h (grownBy_set w ⟨g, i, none⟩ u) (.inr hg)
theorem Rd.grown {w w' : World} {A : Option Addr} {l : List Int} {row : Option Nat} (h : Rd w w.heap.size A l) (hg : w.grownBy w' row) (hr : ∀ ad, A = some ad → row ≠ some ad.block) : Rd w' w'.heap.size A l := fun hp => by
 obtain ⟨b, off, e, hlt, hc⟩ := h hp
 subst e
 refine ⟨b, off, rfl, by have := hg.size; omega, fun j hj => ?_⟩
 exact (World.cell?_of_block (w := w) (a := ⟨b, off + j, none⟩) (hg.block b hlt (fun e => hr _ rfl e.symm))).trans (hc j hj)
theorem wpList_app {w : World} {ops : Array Oper} {rest : List Oper} {o : Oper} {a : Act} {Q : Exit → Act → World → Prop} (hgd : o.guard = none) (s x : Operand)
   (ho : o.op = .call { callee := .builtin .append, args := #[s, x], argTypes := #[42, 42] })
   {base : Nat} {v : Value} {l : List Int} {ad : Addr} {c : Nat} (m : List Int) (hs : a.eval s = v) (hown : Row w base v l) (hx : a.eval x = .slice (some ad) m.length c) (hr : Rd w w.heap.size (some ad) m)
   (hn : l.length + m.length ≤ 140737488355328) (hb : base ≤ w.heap.size)
   (h : ∀ v' w', Row w' base v' (l ++ m) → w.grownBy w' v.ownBlock → (v'.ownBlock = v.ownBlock ∨ v'.ownBlock = some w.heap.size) → wpList Tryz.prog ops Q rest (a.put o.dst v') w') :
   wpList Tryz.prog ops Q (o :: rest) a w := by
 obtain ⟨i0, hi, hz0, hz1, hz2⟩ := info_parts info5
 have hcell : ∀ j u, (m.map (Value.int .u8))[j]? = some u → w.cell? (ad.add j) = some u := by
   intro j u hu
   have hj : j < m.length := by
     rcases Nat.lt_or_ge j m.length with h | h
     · exact h
     · rw [List.getElem?_eq_none (by simpa using h)] at hu; cases hu
   obtain ⟨b, off, e, hlt, hc⟩ := hr (by omega)
   injection e with e
   subst e
   rw [show (⟨b, off, none⟩ : Addr).add j = ⟨b, off + j, none⟩ from by unfold Addr.add; by_cases h : j = 0 <;> simp [h], hc j hj]
   simp [List.getElem?_map, List.getElem?_eq_getElem hj] at hu
   simp [List.getD_eq_getElem?_getD, List.getElem?_eq_getElem hj, hu]
 obtain ⟨v', w', hrun, h2, h3, _, h5⟩ := run_append_own_at (P := Tryz.prog) w base 42 o.type 5 i0 (.int .u8 0) 1 1 Tryz.underlying42 hi hz0 hz1 hz2 rfl (by decide) v l.length (l.map (Value.int .u8)) hown ad m.length c
   (m.map (Value.int .u8)) (by simp) hcell (by intro u hu; obtain ⟨y, _, rfl⟩ := List.mem_map.1 hu; rfl) (by unfold maxLen; omega) (by omega) hb
 refine wpList_plain hgd fun _ hK => ?_
 unfold Oper.wp execOp
 simp only [ho, resolve, invoke, builtin, Sem.run_bind, Sem.run_pure, Result.andThen_ok, List.map_toArray, List.map_cons, List.map_nil, hs, hx, hrun]
 exact hK _ _ (h v' w' (by unfold Row; simpa using h2) h3 h5)
theorem rd_after {w w1 : World} {X : Obj} {ad : Addr} {xs : List Int} {v u : Value} {g : Nat} (hrd : Rd w w.heap.size (some ad) xs) (h1 : ad.block ≠ g) (h2 : v.ownBlock ≠ some ad.block) (hg : (w.alloc X).grownBy w1 v.ownBlock) :
   Rd (w1.setCell ⟨g, 0, none⟩ u) (w1.setCell ⟨g, 0, none⟩ u).heap.size (some ad) xs := by
 have r1 := Rd.grown (w' := w.alloc X) (row := none) hrd (World.grownBy_alloc w X none) (fun _ _ => by simp)
 have r2 := Rd.grown r1 hg (fun ad' e => by injection e with e; subst e; exact h2)
 exact Rd.grown r2 (grownBy_set w1 ⟨g, 0, none⟩ u) (fun ad' e => by
   injection e with e
   subst e
   intro h
   injection h with h
   exact h1 h.symm)
def be4 (n : Nat) : List Int := [(n : Int) / 16777216, (n : Int) / 65536, (n : Int) / 256 % 256, (n : Int) % 256]
end Go.Proofs.YtniaijgejljjbaaGreat.Tlv
namespace Go.Proofs.YtniaijgejljjbaaGreat.Tlv
open Go.RowKit
set_option maxRecDepth 100000
set_option linter.unusedVariables false
theorem make8 (W : World) : (Instr.makeSlice 42 (.int .i64 8) (.int .i64 8)).run Tryz.prog W = .ok (.slice (some ⟨W.heap.size, 0, none⟩) 8 8)
   (W.alloc (.cells #[.int .u8 0, .int .u8 0, .int .u8 0, .int .u8 0, .int .u8 0, .int .u8 0, .int .u8 0, .int .u8 0] 5)) := by kernel_rfl
set_option maxHeartbeats 1000000 in
theorem end_ok (g : Nat) (v : Value) (m : Int) (l : List Int) (base : Nat) (w : World) (hblk : Blk w g 91 #[v, .int .i64 m, .int .i64 0]) (hrow : Row w base v l) (hl : l.length ≤ 1000000000000) :
   Calls Tryz.prog 68 #[.pointer (some ⟨g, 0, none⟩)] w fun e w' => ∃ v', e = .returned (.tuple #[v', .int .i64 0]) ∧ Row w' w.heap.size v' l ∧ Below w.heap.size w w' := by
 obtain ⟨A, c, rfl, hc, hrd⟩ := hrow.rd
 have c0 : w.cell? ⟨g, 0, none⟩ = some (.slice A l.length c) := hblk.cell 0
 have c2 : w.cell? ⟨g, 2, none⟩ = some (.int .i64 0) := hblk.cell 2
 go_enter Tryz.func68, Tryz.ntmps68
 go_wp2_with (go_at_call 61; refine (clone_any A c l w hrd (by omega)).mono ?_; rintro e w1 ⟨v1, rfl, hrow1, hb1⟩)
 go_ret2
 exact ⟨v1, rfl, hrow1, hb1⟩
def mkS (l : List Int) : ByteArray := l.foldl (fun r n => r.push (UInt8.ofNat n.toNat)) ByteArray.empty
theorem conv_of (W : World) (A : Option Addr) (cap B : Nat) (l : List Int) (h : Rd W B A l) (hs : A.isSome = true ∨ A = none) :
   (convert 42 9 (.slice A l.length cap)).run Tryz.prog W = .ok (.string (mkS l)) W := by
 rw [run_convert_bytes_string (P := Tryz.prog) W 42 9 5 A _ _ Tryz.underlying42 Tryz.underlying5 Tryz.underlying9]
 cases A with
 | none =>
   have : l = [] := by
     cases l with
     | nil => rfl
     | cons a t => obtain ⟨b, off, e, _⟩ := h (by simp); cases e
   subst this
   simp [Conv.bytesToString, mkS, Sem.run_pure]
 | some a =>
   refine run_bytesToString W a l.length cap l ?_
   have := run_loadCells_list (P := Tryz.prog) (w := W) a (l.map (Value.int .u8)) (fun j u hu => by
     have hj : j < l.length := by
       rcases Nat.lt_or_ge j l.length with h | h
       · exact h
       · rw [List.getElem?_eq_none (by simpa using h)] at hu; cases hu
     obtain ⟨b, off, e, hlt, hc⟩ := h (by omega)
     injection e with e
     subst e
     rw [show (⟨b, off, none⟩ : Addr).add j = ⟨b, off + j, none⟩ from by unfold Addr.add; by_cases h : j = 0 <;> simp [h], hc j hj]
     simp [List.getElem?_map, List.getElem?_eq_getElem hj] at hu
     simp [List.getD_eq_getElem?_getD, List.getElem?_eq_getElem hj, hu])
   simpa using this
end Go.Proofs.YtniaijgejljjbaaGreat.Tlv
