/- Rows of bytes: a slice that reads as a list, a slice that the call owns; slices.Clone. -/
import Derived.Test.YtcjiofhjognklaaGreatProg
import Derived.WalkKit
import Derived.ProofKit
import Derived.Below
import Derived.BigQuiet
import Derived.Deep.QuietTactic
import Derived.IntWalk
import Derived.OwnWalk
import Derived.WalkSpells
import Derived.Lib.Hide
import Derived.Outline
import Derived.LoopTactic
import Derived.LoopN
import Derived.Maps.AppendAt
import Derived.Laws.Rows
import Derived.ScopeJumps
import Derived.Laws.BitsAllLaws
namespace Go.Proofs.YtcjiofhjognklaaGreat.Tlv
open Go.RowKit
set_option maxRecDepth 100000
set_option linter.unusedVariables false
theorem info5 : (Tryz.prog.info? 5).map (fun i => (i.zero, i.size, i.bytes)) = some (some (.int .u8 0), 1, 1) := by kernel_rfl
def Rd (w : World) (B : Nat) (A : Option Addr) (l : List Int) : Prop :=
 0 < l.length → ∃ b off, A = some ⟨b, off, none⟩ ∧ b < B ∧ ∀ j, j < l.length → w.cell? ⟨b, off + j, none⟩ = some (.int .u8 (l.getD j 0))
def Row (w : World) (base : Nat) (v : Value) (l : List Int) : Prop := w.ownsRow base 5 1 v l.length (l.map (Value.int .u8))
theorem Rd.below {w w' : World} {B : Nat} {A : Option Addr} {l : List Int} (h : Rd w B A l) (hb : Below B w w') : Rd w' B A l := fun hp => by
 obtain ⟨b, off, e, hlt, hc⟩ := h hp
 exact ⟨b, off, e, hlt, fun j hj => (hb.cell (p := ⟨b, off + j, none⟩) hlt).trans (hc j hj)⟩
theorem Rd.more {w : World} {B B' : Nat} {A : Option Addr} {l : List Int} (h : Rd w B A l) (hB : B ≤ B') : Rd w B' A l := fun hp => by
 obtain ⟨b, off, e, hlt, hc⟩ := h hp
 exact ⟨b, off, e, by omega, hc⟩
theorem Rd.nil {w : World} {B : Nat} {A : Option Addr} : Rd w B A [] := fun h => by simp at h
theorem Row.rd {w : World} {base : Nat} {v : Value} {l : List Int} (h : Row w base v l) : ∃ A cap, v = .slice A l.length cap ∧ l.length ≤ cap ∧ Rd w w.heap.size A l := by
 rcases h.2 with ⟨rfl, hn⟩ | ⟨g, cap, cur, rfl, h3, hg, h5, r⟩
 · exact ⟨none, 0, by rw [hn], by omega, fun h => by omega⟩
 · refine ⟨_, cap, rfl, h5, fun hp => ⟨g, 0, rfl, (Array.getElem?_eq_some_iff.1 hg).1, fun j hj => ?_⟩⟩
   have := World.ownsRow.cells (w := w) (base := base) (e := 5) (size := 1) (v := .slice (some ⟨g, 0, none⟩) l.length cap) (n := l.length) (xs := l.map (Value.int .u8)) ⟨h.1, .inr ⟨g, cap, cur, rfl, h3, hg, h5, r⟩⟩ (g := g) rfl j (.int .u8 (l.getD j 0))
     (by simp [List.getElem?_map, List.getElem?_eq_getElem hj, List.getD_eq_getElem?_getD])
   rwa [show (⟨g, 0, none⟩ : Addr).add j = ⟨g, 0 + j, none⟩ from by unfold Addr.add; by_cases h : j = 0 <;> simp [h]] at this
theorem wpList_rd {w : World} {ops : Array Oper} {rest : List Oper} {o : Oper} {a : Act} {Q : Exit → Act → World → Prop} (hgd : o.guard = none) (s x : Operand)
   (ho : o.op = .call { callee := .builtin .append, args := #[s, x], argTypes := #[25, 25] })
   {base B : Nat} {v : Value} {l : List Int} {A : Option Addr} {c : Nat} (m : List Int) (hs : a.eval s = v) (hown : Row w base v l) (hx : a.eval x = .slice A m.length c) (hr : Rd w B A m)
   (hn : l.length + m.length ≤ 140737488355328) (hb : base ≤ w.heap.size) (hm : A.isSome = true)
   (h : ∀ v' w', Row w' base v' (l ++ m) → Below base w w' → w.grownBy w' v.ownBlock → wpList Tryz.prog ops Q rest (a.put o.dst v') w') :
   wpList Tryz.prog ops Q (o :: rest) a w := by
 obtain ⟨i0, hi, hz0, hz1, hz2⟩ := info_parts info5
 obtain ⟨ad, rfl⟩ := Option.isSome_iff_exists.1 hm
 refine wpList_append_own (w := w) hgd s x 25 ho base 5 i0 (.int .u8 0) 1 1 Tryz.underlying25 hi hz0 hz1 hz2 rfl (by decide) v l.length (l.map (Value.int .u8)) hs
   hown ad m.length c (m.map (Value.int .u8)) hx (by simp) ?_ ?_ ?_ ?_ hb ?_
 · intro j u hu
   have hj : j < m.length := by
     rcases Nat.lt_or_ge j m.length with h | h
     · exact h
     · rw [List.getElem?_eq_none (by simpa using h)] at hu; cases hu
   obtain ⟨b, off, e, hlt, hc⟩ := hr (by omega)
   injection e with e
   subst e
   rw [show (⟨b, off, none⟩ : Addr).add j = ⟨b, off + j, none⟩ from by unfold Addr.add; by_cases h : j = 0 <;> simp [h], hc j hj]
   simp [List.getElem?_map, List.getElem?_eq_getElem hj] at hu
   simp [List.getD_eq_getElem?_getD, List.getElem?_eq_getElem hj, hu]
 · intro u hu
   obtain ⟨y, _, rfl⟩ := List.mem_map.1 hu
   rfl
 · unfold maxLen; omega
 · omega
 · intro v' w' h2 h3 _
   refine h v' w' ?_ ?_ h3
   · unfold Row; simpa using h2
   · exact (Below.refl base w).grown h3 hb (fun k hk => (World.ownsRow.lt hown k hk).1)
theorem nil_eq (c : Nat) (W : World) : (binOp BinOp.eql 25 (Value.slice none 0 c) (Value.slice none 0 0)).run Tryz.prog W = .ok (.bool true) W := rfl
theorem nil_ne (a : Addr) (n c : Nat) (W : World) : (binOp BinOp.eql 25 (Value.slice (some a) n c) (Value.slice none 0 0)).run Tryz.prog W = .ok (.bool false) W := rfl
set_option maxHeartbeats 1000000 in
theorem clone_any (A : Option Addr) (c : Nat) (l : List Int) (w : World) (hr : Rd w w.heap.size A l) (hn : l.length ≤ 70368744177664) :
   Calls Tryz.prog 100 #[.slice A l.length c] w fun e w' => ∃ v, e = .returned v ∧ Row w' w.heap.size v l ∧ Below w.heap.size w w' := by
 by_cases hA : A = none
 · subst hA
   have hl : l = [] := by
     cases l with
     | nil => rfl
     | cons a t => obtain ⟨b, off, e, _⟩ := hr (by simp); cases e
   subst hl
   have h1 := nil_eq c
   go_enter Tryz.func100, Tryz.ntmps100
   go_wp2
   go_ret
   exact ⟨_, rfl, World.ownsRow_nil _ _ _ _, Below.refl _ _⟩
 · obtain ⟨a, rfl⟩ : ∃ a, A = some a := by cases A with | none => exact absurd rfl hA | some a => exact ⟨a, rfl⟩
   clear hA
   have h1 := nil_ne a l.length c
   have hb1 : Below w.heap.size w (w.alloc (.cells #[] 5)) := (Below.refl _ _).alloc (Nat.le_refl _) _
   have hr1 := hr.below hb1
   have hR : Row (w.alloc (.cells #[] 5)) w.heap.size (.slice (some ⟨w.heap.size, 0, none⟩) 0 0) [] := World.ownsRow_made w #[] 0 (Nat.le_refl _) (by simp [maxLen]) rfl
   go_enter Tryz.func100, Tryz.ntmps100
   go_wp2_with (at_builtin; refine wpList_rd rfl _ _ rfl l rfl hR rfl hr1 (by simp; omega) (by simp) rfl ?_; intro v1 w1 hrow1 hb2 hg2)
   go_ret
   exact ⟨v1, rfl, by simpa using hrow1, hb1.trans hb2⟩
end Go.Proofs.YtcjiofhjognklaaGreat.Tlv
namespace Go.Proofs.YtcjiofhjognklaaGreat.Tlv
open Go.RowKit
set_option maxRecDepth 100000
set_option linter.unusedVariables false
def Blk (w : World) (g : Nat) (t : TypeId) (cs : Array Value) : Prop := w.heap[g]? = some (.cells cs t (0, 0))
section
variable {w w' : World} {g : Nat} {t : TypeId} {cs : Array Value}
theorem Blk.lt (h : Blk w g t cs) : g < w.heap.size := (Array.getElem?_eq_some_iff.1 h).1
theorem Blk.cell (h : Blk w g t cs) (i : Nat) : w.cell? ⟨g, i, none⟩ = cs[i]? := cell_of_row w g i cs t (0, 0) h
theorem Blk.frozen (h : Blk w g t cs) (i : Nat) : w.frozen? ⟨g, i, none⟩ = false := by
 unfold Blk at h
 simp [World.frozen?, h]
theorem Blk.new (w : World) (t : TypeId) (cs : Array Value) : Blk (w.alloc (.cells cs t)) w.heap.size t cs := heap_alloc_new w _
theorem Blk.alloc (h : Blk w g t cs) (o : Obj) : Blk (w.alloc o) g t cs := (Below.heap_alloc w o g h.lt).trans h
theorem Blk.set_ (h : Blk w g t cs) (i : Nat) (u : Value) : Blk (w.setCell ⟨g, i, none⟩ u) g t (cs.setIfInBounds i u) := by
 unfold Blk at h ⊢
 simp [World.setCell, Array.getElem?_modify, h]
theorem Blk.grown {row : Option Nat} (h : Blk w g t cs) (hb : w.grownBy w' row) (hg : some g ≠ row) : Blk w' g t cs := (hb.block g h.lt hg).trans h
theorem Blk.below {B : Nat} (h : Blk w g t cs) (hb : Below B w w') (hg : g < B) : Blk w' g t cs := (hb.block g hg).trans h
theorem own_ne {base : Nat} {e : TypeId} {size n : Nat} {v : Value} {xs : List Value} (h : w.ownsRow base e size v n xs) (hg : Blk w g t cs) (hne : e ≠ t) : v.ownBlock ≠ some g := by
 rcases h.2 with ⟨rfl, _⟩ | ⟨g', cap, cur, rfl, _, hh, _⟩
 · simp [Value.ownBlock]
 · intro he
   have : g' = g := by simpa [Value.ownBlock] using he
   subst this
   unfold Blk at hg
   rw [hh] at hg
   injection hg with hg
   injection hg with _ ht
   exact hne ht
end
theorem Row.form {w : World} {base : Nat} {v : Value} {l : List Int} (h : Row w base v l) : ∃ A n c, v = .slice A n c := by
 obtain ⟨A, c, e, _, _⟩ := h.rd
 exact ⟨A, _, c, e⟩
theorem grownBy_set (w : World) (p : Addr) (u : Value) : w.grownBy (w.setCell p u) (some p.block) :=
 ⟨rfl, rfl, rfl, by simp [World.setCell], fun k _ hk => Below.heap_setCell w p u k (fun e => hk (by rw [e]))⟩
theorem Row.set_ {w : World} {base : Nat} {v : Value} {l : List Int} (h : Row w base v l) {g i : Nat} (hg : v.ownBlock ≠ some g) (u : Value) : Row (w.setCell ⟨g, i, none⟩ u) base v l :=
 World.ownsRow.kept h (grownBy_set w ⟨g, i, none⟩ u) (.inr hg)
theorem Rd.grown {w w' : World} {A : Option Addr} {l : List Int} {row : Option Nat} (h : Rd w w.heap.size A l) (hg : w.grownBy w' row) (hr : ∀ ad, A = some ad → row ≠ some ad.block) : Rd w' w'.heap.size A l := fun hp => by
 obtain ⟨b, off, e, hlt, hc⟩ := h hp
 subst e
 refine ⟨b, off, rfl, by have := hg.size; omega, fun j hj => ?_⟩
 exact (World.cell?_of_block (w := w) (a := ⟨b, off + j, none⟩) (hg.block b hlt (fun e => hr _ rfl e.symm))).trans (hc j hj)
theorem wpList_app {w : World} {ops : Array Oper} {rest : List Oper} {o : Oper} {a : Act} {Q : Exit → Act → World → Prop} (hgd : o.guard = none) (s x : Operand)
   (ho : o.op = .call { callee := .builtin .append, args := #[s, x], argTypes := #[25, 25] })
   {base : Nat} {v : Value} {l : List Int} {ad : Addr} {c : Nat} (m : List Int) (hs : a.eval s = v) (hown : Row w base v l) (hx : a.eval x = .slice (some ad) m.length c) (hr : Rd w w.heap.size (some ad) m)
   (hn : l.length + m.length ≤ 140737488355328) (hb : base ≤ w.heap.size)
   (h : ∀ v' w', Row w' base v' (l ++ m) → w.grownBy w' v.ownBlock → (v'.ownBlock = v.ownBlock ∨ v'.ownBlock = some w.heap.size) → wpList Tryz.prog ops Q rest (a.put o.dst v') w') :
   wpList Tryz.prog ops Q (o :: rest) a w := by
 obtain ⟨i0, hi, hz0, hz1, hz2⟩ := info_parts info5
 have hcell : ∀ j u, (m.map (Value.int .u8))[j]? = some u → w.cell? (ad.add j) = some u := by
   intro j u hu
   have hj : j < m.length := by
     rcases Nat.lt_or_ge j m.length with h | h
     · exact h
     · rw [List.getElem?_eq_none (by simpa using h)] at hu; cases hu
   obtain ⟨b, off, e, hlt, hc⟩ := hr (by omega)
   injection e with e
   subst e
   rw [show (⟨b, off, none⟩ : Addr).add j = ⟨b, off + j, none⟩ from by unfold Addr.add; by_cases h : j = 0 <;> simp [h], hc j hj]
   simp [List.getElem?_map, List.getElem?_eq_getElem hj] at hu
   simp [List.getD_eq_getElem?_getD, List.getElem?_eq_getElem hj, hu]
 obtain ⟨v', w', hrun, h2, h3, _, h5⟩ := run_append_own_at (P := Tryz.prog) w base 25 o.type 5 i0 (.int .u8 0) 1 1 Tryz.underlying25 hi hz0 hz1 hz2 rfl (by decide) v l.length (l.map (Value.int .u8)) hown ad m.length c
   (m.map (Value.int .u8)) (by simp) hcell (by intro u hu; obtain ⟨y, _, rfl⟩ := List.mem_map.1 hu; rfl) (by unfold maxLen; omega) (by omega) hb
 refine wpList_plain hgd fun _ hK => ?_
 unfold Oper.wp execOp
 simp only [ho, resolve, invoke, builtin, Sem.run_bind, Sem.run_pure, Result.andThen_ok, List.map_toArray, List.map_cons, List.map_nil, hs, hx, hrun]
 exact hK _ _ (h v' w' (by unfold Row; simpa using h2) h3 h5)
theorem rd_after {w w1 : World} {X : Obj} {ad : Addr} {xs : List Int} {v u : Value} {g : Nat} (hrd : Rd w w.heap.size (some ad) xs) (h1 : ad.block ≠ g) (h2 : v.ownBlock ≠ some ad.block) (hg : (w.alloc X).grownBy w1 v.ownBlock) :
   Rd (w1.setCell ⟨g, 0, none⟩ u) (w1.setCell ⟨g, 0, none⟩ u).heap.size (some ad) xs := by
 have r1 := Rd.grown (w' := w.alloc X) (row := none) hrd (World.grownBy_alloc w X none) (fun _ _ => by simp)
 have r2 := Rd.grown r1 hg (fun ad' e => by injection e with e; subst e; exact h2)
 exact Rd.grown r2 (grownBy_set w1 ⟨g, 0, none⟩ u) (fun ad' e => by
   injection e with e
   subst e
   intro h
   injection h with h
   exact h1 h.symm)
def be4 (n : Nat) : List Int := [(n : Int) / 16777216, (n : Int) / 65536, (n : Int) / 256 % 256, (n : Int) % 256]
end Go.Proofs.YtcjiofhjognklaaGreat.Tlv
namespace Go.Proofs.YtcjiofhjognklaaGreat.Tlv
open Go.RowKit
set_option maxRecDepth 100000
set_option linter.unusedVariables false
theorem make8 (W : World) : (Instr.makeSlice 25 (.int .i64 8) (.int .i64 8)).run Tryz.prog W = .ok (.slice (some ⟨W.heap.size, 0, none⟩) 8 8)
   (W.alloc (.cells #[.int .u8 0, .int .u8 0, .int .u8 0, .int .u8 0, .int .u8 0, .int .u8 0, .int .u8 0, .int .u8 0] 5)) := by kernel_rfl
set_option maxHeartbeats 1000000 in
theorem end_ok (g : Nat) (v : Value) (m : Int) (l : List Int) (base : Nat) (w : World) (hblk : Blk w g 88 #[v, .int .i64 m, .int .i64 0]) (hrow : Row w base v l) (hl : l.length ≤ 1000000000000) :
   Calls Tryz.prog 51 #[.pointer (some ⟨g, 0, none⟩)] w fun e w' => ∃ v', e = .returned (.tuple #[v', .int .i64 0]) ∧ Row w' w.heap.size v' l ∧ Below w.heap.size w w' := by
 obtain ⟨A, c, rfl, hc, hrd⟩ := hrow.rd
 have c0 : w.cell? ⟨g, 0, none⟩ = some (.slice A l.length c) := hblk.cell 0
 have c2 : w.cell? ⟨g, 2, none⟩ = some (.int .i64 0) := hblk.cell 2
 go_enter Tryz.func51, Tryz.ntmps51
 go_wp2_with (go_at_call 100; refine (clone_any A c l w hrd (by omega)).mono ?_; rintro e w1 ⟨v1, rfl, hrow1, hb1⟩)
 go_ret2
 exact ⟨v1, rfl, hrow1, hb1⟩
def mkS (l : List Int) : ByteArray := l.foldl (fun r n => r.push (UInt8.ofNat n.toNat)) ByteArray.empty
theorem conv_of (W : World) (A : Option Addr) (cap B : Nat) (l : List Int) (h : Rd W B A l) (hs : A.isSome = true ∨ A = none) :
   (convert 25 9 (.slice A l.length cap)).run Tryz.prog W = .ok (.string (mkS l)) W := by
 rw [run_convert_bytes_string (P := Tryz.prog) W 25 9 5 A _ _ Tryz.underlying25 Tryz.underlying5 Tryz.underlying9]
 cases A with
 | none =>
   have : l = [] := by
     cases l with
     | nil => rfl
     | cons a t => obtain ⟨b, off, e, _⟩ := h (by simp); cases e
   subst this
   simp [Conv.bytesToString, mkS, Sem.run_pure]
 | some a =>
   refine run_bytesToString W a l.length cap l ?_
   have := run_loadCells_list (P := Tryz.prog) (w := W) a (l.map (Value.int .u8)) (fun j u hu => by
     have hj : j < l.length := by
       rcases Nat.lt_or_ge j l.length with h | h
       · exact h
       · rw [List.getElem?_eq_none (by simpa using h)] at hu; cases hu
     obtain ⟨b, off, e, hlt, hc⟩ := h (by omega)
     injection e with e
     subst e
     rw [show (⟨b, off, none⟩ : Addr).add j = ⟨b, off + j, none⟩ from by unfold Addr.add; by_cases h : j = 0 <;> simp [h], hc j hj]
     simp [List.getElem?_map, List.getElem?_eq_getElem hj] at hu
     simp [List.getD_eq_getElem?_getD, List.getElem?_eq_getElem hj, hu])
   simpa using this
theorem i64_or_nat (a b : Nat) (ha : a < 1099511627776) (hb : b < 1099511627776) : bits .or .i64 (a : Int) (b : Int) = ((a ||| b : Nat) : Int) := by
 have hx : a ||| b < 2 ^ 40 := Nat.or_lt_two_pow (by omega) (by omega)
 show IntKind.i64.wrap ((BitVec.ofInt 64 (a : Int) ||| BitVec.ofInt 64 (b : Int)).toNat : Int) = _
 rw [BitVec.toNat_or, ofInt_u64 a (by omega), ofInt_u64 b (by omega)]
 exact IntWalk.i64_in _ (by omega)
theorem or_sum (k : Nat) (x y : Nat) (h1 : 2 ^ k * x < 1099511627776) (h2 : y < 1099511627776) (h3 : y < 2 ^ k) : bits .or .i64 ((2 ^ k * x : Nat) : Int) (y : Int) = ((2 ^ k * x + y : Nat) : Int) := by
 rw [i64_or_nat _ _ h1 h2, ← Nat.two_pow_add_eq_or_of_lt h3]
theorem four (a1 a2 a3 a4 : Int) (l1 : 0 ≤ a1) (g1 : a1 ≤ 255) (l2 : 0 ≤ a2) (g2 : a2 ≤ 255) (l3 : 0 ≤ a3) (g3 : a3 ≤ 255) (l4 : 0 ≤ a4) (g4 : a4 ≤ 255) :
   bits BinOp.or IntKind.i64 (bits BinOp.or IntKind.i64 (bits BinOp.or IntKind.i64 (a1 * 16777216) (a2 * 65536)) (a3 * 256)) a4 = a1 * 16777216 + a2 * 65536 + a3 * 256 + a4 := by
 obtain ⟨b1, rfl⟩ := Int.eq_ofNat_of_zero_le l1
 obtain ⟨b2, rfl⟩ := Int.eq_ofNat_of_zero_le l2
 obtain ⟨b3, rfl⟩ := Int.eq_ofNat_of_zero_le l3
 obtain ⟨b4, rfl⟩ := Int.eq_ofNat_of_zero_le l4
 have e1 := or_sum 24 b1 (b2 * 65536) (by omega) (by omega) (by omega)
 have e2 := or_sum 16 (b1 * 256 + b2) (b3 * 256) (by omega) (by omega) (by omega)
 have e3 := or_sum 8 ((b1 * 256 + b2) * 256 + b3) b4 (by omega) (by omega) (by omega)
 rw [show ((b1 : Nat) : Int) * 16777216 = ((2 ^ 24 * b1 : Nat) : Int) from by omega, show ((b2 : Nat) : Int) * 65536 = ((b2 * 65536 : Nat) : Int) from by omega, e1]
 rw [show 2 ^ 24 * b1 + b2 * 65536 = 2 ^ 16 * (b1 * 256 + b2) from by omega, show ((b3 : Nat) : Int) * 256 = ((b3 * 256 : Nat) : Int) from by omega, e2]
 rw [show 2 ^ 16 * (b1 * 256 + b2) + b3 * 256 = 2 ^ 8 * ((b1 * 256 + b2) * 256 + b3) from by omega, e3]
 omega
def Frm63 (a : Act) : Prop := a.defers = [] ∧ a.tmps.size = 63
theorem none_end {w' : World} {R : Ending → World → Prop} {t : Array Value} (ht : t.size = 63)
   (h : R (.returned (.tuple #[.int .u8 0, .slice none 0 0, .slice none 0 0])) w') :
   bodyPost Tryz.prog Tryz.f142 R Exit.ret { tmps := ((t.setIfInBounds 2 (Value.int IntKind.u8 0)).setIfInBounds 3 (Value.slice none 0 0)).setIfInBounds 4 (Value.slice none 0 0), defers := [] } w' := by
 refine bodyPost_ret (v := .tuple #[.int .u8 0, .slice none 0 0, .slice none 0 0]) ?_ rfl h
 simp [results, Tryz.results142, Array.getD, ht]
set_option maxHeartbeats 2000000 in
theorem val_short (A : Option Addr) (c : Nat) (l : List Int) (w : World) (hs : l.length < 5) :
   Calls Tryz.prog 142 #[.slice A l.length c] w fun e w' => e = .returned (.tuple #[.int .u8 0, .slice none 0 0, .slice none 0 0]) ∧ ∃ m, w' = w.drewN m := by
 go_enter Tryz.func142, Tryz.ntmps142
 go_wp2
 refine wp_scope_jumps 0 (fun a' w' => (∃ m, w' = w.drewN m) ∧ Frm63 a') (fun _ _ => 0) rfl ?_ ?_
 · go_wp2
   go_step3
   exact ⟨rfl, ⟨0, rfl⟩, rfl, rfl⟩
 · rintro ⟨t, d⟩ w' ⟨hw, rfl, ht⟩
   go_wp2
   simp only [Exit.jump]
   exact none_end ht ⟨rfl, hw⟩
set_option maxHeartbeats 2000000 in
theorem val_zero (b off c len : Nat) (w : World) (hs : 5 ≤ len) (h0 : w.cell? ⟨b, off, none⟩ = some (.int .u8 0)) :
   Calls Tryz.prog 142 #[.slice (some ⟨b, off, none⟩) len c] w fun e w' => e = .returned (.tuple #[.int .u8 0, .slice none 0 0, .slice none 0 0]) ∧ ∃ m, w' = w.drewN m := by
 go_enter Tryz.func142, Tryz.ntmps142
 go_wp2
 refine wp_scope_jumps 0 (fun a' w' => (∃ m, w' = w.drewN m) ∧ Frm63 a') (fun _ _ => 0) rfl ?_ ?_
 · go_wp2
   go_step3
   exact ⟨rfl, ⟨0, rfl⟩, rfl, rfl⟩
 · rintro ⟨t, d⟩ w' ⟨hw, rfl, ht⟩
   go_wp2
   simp only [Exit.jump]
   exact none_end ht ⟨rfl, hw⟩
theorem ret_val {t : Int} {A1 A2 : Option Addr} {x x' y y' : Nat} (hx : x = x') (hy : y = y') :
   Ending.returned (.tuple #[.int .u8 t, .slice A1 x x, .slice A2 y y]) = .returned (.tuple #[.int .u8 t, .slice A1 x' x', .slice A2 y' y']) := by rw [hx, hy]
set_option maxHeartbeats 4000000 in
theorem val_00 (b off c : Nat) (t a1 a2 a3 a4 : Int) (w : World) (hc : 5 ≤ c) (hcm : c ≤ 9223372036854775807) (h0 : w.cell? ⟨b, off, none⟩ = some (.int .u8 t))
   (h1 : w.cell? ⟨b, off + 1, none⟩ = some (.int .u8 a1)) (h2 : w.cell? ⟨b, off + 2, none⟩ = some (.int .u8 a2)) (h3 : w.cell? ⟨b, off + 3, none⟩ = some (.int .u8 a3)) (h4 : w.cell? ⟨b, off + 4, none⟩ = some (.int .u8 a4))
   (ht : 0 < t) (l1 : 0 ≤ a1) (g1 : a1 ≤ 255) (l2 : 0 ≤ a2) (g2 : a2 ≤ 255) (l3 : 0 ≤ a3) (g3 : a3 ≤ 255) (l4 : 0 ≤ a4) (g4 : a4 ≤ 255) (hn : a1 * 16777216 + a2 * 65536 + a3 * 256 + a4 = 0) :
   Calls Tryz.prog 142 #[.slice (some ⟨b, off, none⟩) (5) c] w fun e w' => ∃ A1 A2 : Option Addr, e = .returned (.tuple #[.int .u8 t, .slice A1 0 0, .slice A2 (5 - (5 + 0)) (5 - (5 + 0))]) ∧ ∃ m, w' = w.drewN m := by
 have ht0 : (t == 0) = false := by simp; omega
 have hf := four a1 a2 a3 a4 l1 g1 l2 g2 l3 g3 l4 g4
 rw [hn] at hf
 clear hn
 go_enter Tryz.func142, Tryz.ntmps142
 go_wp2
 refine wp_scope_jumps 0 (fun a' w' => False) (fun _ _ => 0) rfl ?_ ?_
 · go_wp2
   go_quiet (fail)
   go_wp2
   go_quiet (fail)
   go_wp2
   simp only [Exit.jump]
   go_ret3
   exact ⟨_, _, rfl, _, by first | rfl | rw [World.drewN_drewN]⟩
 · exact fun _ _ h => h.elim
set_option maxHeartbeats 4000000 in
theorem val_0l (b off c len : Nat) (t a1 a2 a3 a4 : Int) (w : World) (hs : 5 ≤ len) (hlen : len ≤ 1000000000000) (hc : len ≤ c) (hcm : c ≤ 9223372036854775807) (h0 : w.cell? ⟨b, off, none⟩ = some (.int .u8 t))
   (h1 : w.cell? ⟨b, off + 1, none⟩ = some (.int .u8 a1)) (h2 : w.cell? ⟨b, off + 2, none⟩ = some (.int .u8 a2)) (h3 : w.cell? ⟨b, off + 3, none⟩ = some (.int .u8 a3)) (h4 : w.cell? ⟨b, off + 4, none⟩ = some (.int .u8 a4))
   (ht : 0 < t) (l1 : 0 ≤ a1) (g1 : a1 ≤ 255) (l2 : 0 ≤ a2) (g2 : a2 ≤ 255) (l3 : 0 ≤ a3) (g3 : a3 ≤ 255) (l4 : 0 ≤ a4) (g4 : a4 ≤ 255) (hn : a1 * 16777216 + a2 * 65536 + a3 * 256 + a4 = 0) (hl : 5 < len) :
   Calls Tryz.prog 142 #[.slice (some ⟨b, off, none⟩) (len) c] w fun e w' => ∃ A1 A2 : Option Addr, e = .returned (.tuple #[.int .u8 t, .slice A1 0 0, .slice A2 (len - (5 + 0)) (len - (5 + 0))]) ∧ A2 = some ⟨b, off + 5, none⟩ ∧ ∃ m, w' = w.drewN m := by
 have ht0 : (t == 0) = false := by simp; omega
 have hf := four a1 a2 a3 a4 l1 g1 l2 g2 l3 g3 l4 g4
 rw [hn] at hf
 clear hn
 go_enter Tryz.func142, Tryz.ntmps142
 go_wp2
 refine wp_scope_jumps 0 (fun a' w' => False) (fun _ _ => 0) rfl ?_ ?_
 · go_wp2
   go_quiet (fail)
   go_wp2
   go_quiet (fail)
   go_wp2
   simp only [Exit.jump]
   go_ret3
   exact ⟨_, _, rfl, rfl, _, by first | rfl | rw [World.drewN_drewN]⟩
 · exact fun _ _ h => h.elim
set_option maxHeartbeats 4000000 in
theorem val_n0 (b off c len : Nat) (t a1 a2 a3 a4 : Int) (w : World) (hs : 5 ≤ len) (hlen : len ≤ 1000000000000) (hc : len ≤ c) (hcm : c ≤ 9223372036854775807) (h0 : w.cell? ⟨b, off, none⟩ = some (.int .u8 t))
   (h1 : w.cell? ⟨b, off + 1, none⟩ = some (.int .u8 a1)) (h2 : w.cell? ⟨b, off + 2, none⟩ = some (.int .u8 a2)) (h3 : w.cell? ⟨b, off + 3, none⟩ = some (.int .u8 a3)) (h4 : w.cell? ⟨b, off + 4, none⟩ = some (.int .u8 a4))
   (ht : 0 < t) (l1 : 0 ≤ a1) (g1 : a1 ≤ 255) (l2 : 0 ≤ a2) (g2 : a2 ≤ 255) (l3 : 0 ≤ a3) (g3 : a3 ≤ 255) (l4 : 0 ≤ a4) (g4 : a4 ≤ 255) (n : Nat) (hn : a1 * 16777216 + a2 * 65536 + a3 * 256 + a4 = n) (hn1 : n ≤ 4194304) (hz : 0 < n) (hl : len = 5 + n) :
   Calls Tryz.prog 142 #[.slice (some ⟨b, off, none⟩) (len) c] w fun e w' => ∃ A1 A2 : Option Addr, e = .returned (.tuple #[.int .u8 t, .slice A1 n n, .slice A2 (len - (5 + n)) (len - (5 + n))]) ∧ A1 = some ⟨b, off + 5, none⟩ ∧ ∃ m, w' = w.drewN m := by
 have ht0 : (t == 0) = false := by simp; omega
 have hf := four a1 a2 a3 a4 l1 g1 l2 g2 l3 g3 l4 g4
 rw [hn] at hf
 have b1 : (n : Int) ≤ 4194304 := by omega
 have b2 : (n : Int) ≤ (len : Int) - 5 := by omega
 have e5 : ¬ 5 + n = 5 := by omega
 clear hn
 go_enter Tryz.func142, Tryz.ntmps142
 go_wp2
 refine wp_scope_jumps 0 (fun a' w' => False) (fun _ _ => 0) rfl ?_ ?_
 · go_wp2
   go_quiet (fail)
   go_wp2
   go_quiet (fail)
   go_wp2
   simp only [Exit.jump]
   go_ret3
   exact ⟨_, _, ret_val (by omega) (by omega), rfl, _, by first | rfl | rw [World.drewN_drewN]⟩
 · exact fun _ _ h => h.elim
set_option maxHeartbeats 4000000 in
theorem val_nl (b off c len : Nat) (t a1 a2 a3 a4 : Int) (w : World) (hs : 5 ≤ len) (hlen : len ≤ 1000000000000) (hc : len ≤ c) (hcm : c ≤ 9223372036854775807) (h0 : w.cell? ⟨b, off, none⟩ = some (.int .u8 t))
   (h1 : w.cell? ⟨b, off + 1, none⟩ = some (.int .u8 a1)) (h2 : w.cell? ⟨b, off + 2, none⟩ = some (.int .u8 a2)) (h3 : w.cell? ⟨b, off + 3, none⟩ = some (.int .u8 a3)) (h4 : w.cell? ⟨b, off + 4, none⟩ = some (.int .u8 a4))
   (ht : 0 < t) (l1 : 0 ≤ a1) (g1 : a1 ≤ 255) (l2 : 0 ≤ a2) (g2 : a2 ≤ 255) (l3 : 0 ≤ a3) (g3 : a3 ≤ 255) (l4 : 0 ≤ a4) (g4 : a4 ≤ 255) (n : Nat) (hn : a1 * 16777216 + a2 * 65536 + a3 * 256 + a4 = n) (hn1 : n ≤ 4194304) (hz : 0 < n) (hl : 5 + n < len) :
   Calls Tryz.prog 142 #[.slice (some ⟨b, off, none⟩) (len) c] w fun e w' => ∃ A1 A2 : Option Addr, e = .returned (.tuple #[.int .u8 t, .slice A1 n n, .slice A2 (len - (5 + n)) (len - (5 + n))]) ∧ A1 = some ⟨b, off + 5, none⟩ ∧ A2 = some ⟨b, off + (5 + n), none⟩ ∧ ∃ m, w' = w.drewN m := by
 have ht0 : (t == 0) = false := by simp; omega
 have hf := four a1 a2 a3 a4 l1 g1 l2 g2 l3 g3 l4 g4
 rw [hn] at hf
 have b1 : (n : Int) ≤ 4194304 := by omega
 have b2 : (n : Int) ≤ (len : Int) - 5 := by omega
 clear hn
 go_enter Tryz.func142, Tryz.ntmps142
 go_wp2
 refine wp_scope_jumps 0 (fun a' w' => False) (fun _ _ => 0) rfl ?_ ?_
 · go_wp2
   go_quiet (fail)
   go_wp2
   go_quiet (fail)
   go_wp2
   simp only [Exit.jump]
   go_ret3
   exact ⟨_, _, ret_val (by omega) rfl, rfl, rfl, _, by first | rfl | rw [World.drewN_drewN]⟩
 · exact fun _ _ h => h.elim
set_option maxHeartbeats 4000000 in
theorem val_big (b off c len : Nat) (t a1 a2 a3 a4 : Int) (w : World) (hs : 5 ≤ len) (hlen : len ≤ 1000000000000) (hc : len ≤ c) (hcm : c ≤ 9223372036854775807) (h0 : w.cell? ⟨b, off, none⟩ = some (.int .u8 t))
   (h1 : w.cell? ⟨b, off + 1, none⟩ = some (.int .u8 a1)) (h2 : w.cell? ⟨b, off + 2, none⟩ = some (.int .u8 a2)) (h3 : w.cell? ⟨b, off + 3, none⟩ = some (.int .u8 a3)) (h4 : w.cell? ⟨b, off + 4, none⟩ = some (.int .u8 a4))
   (ht : 0 < t) (l1 : 0 ≤ a1) (g1 : a1 ≤ 255) (l2 : 0 ≤ a2) (g2 : a2 ≤ 255) (l3 : 0 ≤ a3) (g3 : a3 ≤ 255) (l4 : 0 ≤ a4) (g4 : a4 ≤ 255) (n : Nat) (hn : a1 * 16777216 + a2 * 65536 + a3 * 256 + a4 = n) (hn1 : 4194304 < n ∨ len < 5 + n) :
   Calls Tryz.prog 142 #[.slice (some ⟨b, off, none⟩) len c] w fun e w' => e = .returned (.tuple #[.int .u8 0, .slice none 0 0, .slice none 0 0]) ∧ ∃ m, w' = w.drewN m := by
 have ht0 : (t == 0) = false := by simp; omega
 have hf := four a1 a2 a3 a4 l1 g1 l2 g2 l3 g3 l4 g4
 rw [hn] at hf
 clear hn
 by_cases h5 : 4194304 < n
 · have b1 : (4194304 : Int) < n := by omega
   clear hn1 h5
   go_enter Tryz.func142, Tryz.ntmps142
   go_wp2
   refine wp_scope_jumps 0 (fun a' w' => (∃ m, w' = w.drewN m) ∧ Frm63 a') (fun _ _ => 0) rfl ?_ ?_
   · go_wp2
     go_quiet (fail)
     go_wp2
     go_step3
     exact ⟨rfl, ⟨_, rfl⟩, rfl, rfl⟩
   · rintro ⟨t, d⟩ w' ⟨hw, rfl, ht⟩
     go_wp2
     simp only [Exit.jump]
     exact none_end ht ⟨rfl, hw⟩
 · have b1 : (n : Int) ≤ 4194304 := by omega
   have b2 : (len : Int) - 5 < n := by omega
   clear hn1 h5
   go_enter Tryz.func142, Tryz.ntmps142
   go_wp2
   refine wp_scope_jumps 0 (fun a' w' => (∃ m, w' = w.drewN m) ∧ Frm63 a') (fun _ _ => 0) rfl ?_ ?_
   · go_wp2
     go_quiet (fail)
     go_wp2
     go_step3
     exact ⟨rfl, ⟨_, rfl⟩, rfl, rfl⟩
   · rintro ⟨t, d⟩ w' ⟨hw, rfl, ht⟩
     go_wp2
     simp only [Exit.jump]
     exact none_end ht ⟨rfl, hw⟩
def nv (l : List Int) : Nat := (l.getD 1 0 * 16777216 + l.getD 2 0 * 65536 + l.getD 3 0 * 256 + l.getD 4 0).toNat
def stands (l : List Int) : Bool := decide (5 ≤ l.length ∧ l.getD 0 0 ≠ 0 ∧ nv l ≤ 4194304 ∧ 5 + nv l ≤ l.length)
def Byt (l : List Int) : Prop := ∀ x ∈ l, 0 ≤ x ∧ x ≤ 255
theorem Byt.at {l : List Int} (h : Byt l) (i : Nat) : 0 ≤ l.getD i 0 ∧ l.getD i 0 ≤ 255 := by
 rcases Nat.lt_or_ge i l.length with hi | hi
 · rw [List.getD_eq_getElem?_getD, List.getElem?_eq_getElem hi]; exact h _ (List.getElem_mem hi)
 · rw [List.getD_eq_getElem?_getD, List.getElem?_eq_none hi]; simp
theorem Rd.drewN {w : World} {B : Nat} {A : Option Addr} {l : List Int} (h : Rd w B A l) (m : Nat) : Rd (w.drewN m) B A l := h
theorem Rd.part {w : World} {B b off : Nat} {l : List Int} (h : Rd w B (some ⟨b, off, none⟩) l) (k n : Nat) {A' : Option Addr} (hk : k + n ≤ l.length) (hA : 0 < n → A' = some ⟨b, off + k, none⟩) : Rd w B A' ((l.drop k).take n) := fun hp => by
 have hlen : ((l.drop k).take n).length = n := by rw [List.length_take, List.length_drop]; omega
 rw [hlen] at hp
 obtain ⟨b', off', e, hlt, hc⟩ := h (by omega)
 injection e with e
 injection e with e1 e2
 subst e1; subst e2
 refine ⟨b, off + k, hA hp, hlt, fun j hj => ?_⟩
 rw [hlen] at hj
 have := hc (k + j) (by omega)
 rw [Nat.add_assoc, this, List.getD_eq_getElem?_getD, List.getD_eq_getElem?_getD, List.getElem?_take_of_lt hj, List.getElem?_drop]
theorem value_any (A : Option Addr) (c B : Nat) (l : List Int) (w : World) (hr : Rd w B A l) (hby : Byt l) (hlen : l.length ≤ 1000000000000) (hc : l.length ≤ c) (hcm : c ≤ 9223372036854775807) :
   Calls Tryz.prog 142 #[.slice A l.length c] w fun e w' => (∃ m, w' = w.drewN m) ∧
     ((stands l = false ∧ e = .returned (.tuple #[.int .u8 0, .slice none 0 0, .slice none 0 0])) ∨
      (stands l = true ∧ ∃ A1 A2 : Option Addr, e = .returned (.tuple #[.int .u8 (l.getD 0 0), .slice A1 (nv l) (nv l), .slice A2 (l.length - (5 + nv l)) (l.length - (5 + nv l))]) ∧
        Rd w B A1 ((l.drop 5).take (nv l)) ∧ Rd w B A2 (l.drop (5 + nv l)))) := by
 by_cases hs : 5 ≤ l.length
 rotate_left
 · exact (val_short A c l w (by omega)).mono fun e w' ⟨he, hw⟩ => ⟨hw, .inl ⟨decide_eq_false (fun h => hs h.1), he⟩⟩
 obtain ⟨b, off, rfl, hlt, hcell⟩ := hr (by omega)
 have h0 := hcell 0 (by omega)
 rw [Nat.add_zero] at h0
 have h1 := hcell 1 (by omega)
 have h2 := hcell 2 (by omega)
 have h3 := hcell 3 (by omega)
 have h4 := hcell 4 (by omega)
 have y0 := hby.at 0
 have y1 := hby.at 1
 have y2 := hby.at 2
 have y3 := hby.at 3
 have y4 := hby.at 4
 by_cases hz : l.getD 0 0 = 0
 · rw [hz] at h0
   exact (val_zero b off c l.length w hs h0).mono fun e w' ⟨he, hw⟩ => ⟨hw, .inl ⟨decide_eq_false (fun h => h.2.1 hz), he⟩⟩
 have hn : l.getD 1 0 * 16777216 + l.getD 2 0 * 65536 + l.getD 3 0 * 256 + l.getD 4 0 = (nv l : Int) := by unfold nv; omega
 by_cases hbig : 4194304 < nv l ∨ l.length < 5 + nv l
 · exact (val_big b off c l.length _ _ _ _ _ w hs hlen hc hcm h0 h1 h2 h3 h4 (by omega) y1.1 y1.2 y2.1 y2.2 y3.1 y3.2 y4.1 y4.2 (nv l) hn hbig).mono fun e w' ⟨he, hw⟩ =>
     ⟨hw, .inl ⟨decide_eq_false (fun h => by have := h.2.2; omega), he⟩⟩
 have hst : stands l = true := decide_eq_true ⟨hs, hz, by omega, by omega⟩
 have fin : ∀ (e : Ending) (w' : World), (∃ A1 A2 : Option Addr, e = .returned (.tuple #[.int .u8 (l.getD 0 0), .slice A1 (nv l) (nv l), .slice A2 (l.length - (5 + nv l)) (l.length - (5 + nv l))]) ∧ (0 < nv l → A1 = some ⟨b, off + 5, none⟩) ∧
     (0 < l.length - (5 + nv l) → A2 = some ⟨b, off + (5 + nv l), none⟩) ∧ ∃ m, w' = w.drewN m) → (∃ m, w' = w.drewN m) ∧
     ((stands l = false ∧ e = .returned (.tuple #[.int .u8 0, .slice none 0 0, .slice none 0 0])) ∨
      (stands l = true ∧ ∃ A1 A2 : Option Addr, e = .returned (.tuple #[.int .u8 (l.getD 0 0), .slice A1 (nv l) (nv l), .slice A2 (l.length - (5 + nv l)) (l.length - (5 + nv l))]) ∧
        Rd w B A1 ((l.drop 5).take (nv l)) ∧ Rd w B A2 (l.drop (5 + nv l)))) := by
   rintro e w' ⟨A1, A2, he, hA1, hA2, hw⟩
   refine ⟨hw, .inr ⟨hst, A1, A2, he, hr.part 5 (nv l) (by omega) hA1, ?_⟩⟩
   have := hr.part (5 + nv l) (l.length - (5 + nv l)) (by omega) hA2
   rwa [List.take_of_length_le (by rw [List.length_drop]; omega)] at this
 have c1 : l.getD 0 0 > 0 := by omega
 rcases Nat.eq_zero_or_pos (nv l) with hz0 | hzp
 · rw [hz0] at hn fin ⊢
   rcases Nat.lt_or_ge 5 l.length with hl | hl
   · exact (val_0l b off c l.length _ _ _ _ _ w hs hlen hc hcm h0 h1 h2 h3 h4 c1 y1.1 y1.2 y2.1 y2.2 y3.1 y3.2 y4.1 y4.2 hn hl).mono fun e w' ⟨A1, A2, he, hA2, hw⟩ =>
       fin e w' ⟨A1, A2, he, fun h => by omega, fun _ => hA2, hw⟩
   · have e5 : l.length = 5 := by omega
     rw [e5] at hc fin ⊢
     exact (val_00 b off c _ _ _ _ _ w hc hcm h0 h1 h2 h3 h4 c1 y1.1 y1.2 y2.1 y2.2 y3.1 y3.2 y4.1 y4.2 hn).mono fun e w' ⟨A1, A2, he, hw⟩ =>
       fin e w' ⟨A1, A2, he, fun h => by omega, fun h => by omega, hw⟩
 · rcases Nat.lt_or_ge (5 + nv l) l.length with hl | hl
   · exact (val_nl b off c l.length _ _ _ _ _ w hs hlen hc hcm h0 h1 h2 h3 h4 c1 y1.1 y1.2 y2.1 y2.2 y3.1 y3.2 y4.1 y4.2 (nv l) hn (by omega) hzp hl).mono fun e w' ⟨A1, A2, he, hA1, hA2, hw⟩ =>
       fin e w' ⟨A1, A2, he, fun _ => hA1, fun _ => hA2, hw⟩
   · exact (val_n0 b off c l.length _ _ _ _ _ w hs hlen hc hcm h0 h1 h2 h3 h4 c1 y1.1 y1.2 y2.1 y2.2 y3.1 y3.2 y4.1 y4.2 (nv l) hn (by omega) hzp (by omega)).mono fun e w' ⟨A1, A2, he, hA1, hw⟩ =>
       fin e w' ⟨A1, A2, he, fun _ => hA1, fun h => by omega, hw⟩
end Go.Proofs.YtcjiofhjognklaaGreat.Tlv
