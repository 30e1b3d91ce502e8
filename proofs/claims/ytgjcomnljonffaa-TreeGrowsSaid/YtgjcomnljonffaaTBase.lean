/- Rows of bytes: a slice that reads as a list, a slice that the call owns; slices.Clone. -/
import Derived.Test.YtgjcomnljonffaaProg
import Derived.WalkKit
import Derived.ProofKit
import Derived.Below
import Derived.BigQuiet
import Derived.Deep.QuietTactic
import Derived.IntWalk
import Derived.OwnWalk
import Derived.WalkSpells
import Derived.Lib.Hide
import Derived.Outline
import Derived.LoopTactic
import Derived.LoopN
namespace Go.Proofs.Ytgjcomnljonffaa.Tlv
open Go.RowKit
set_option maxRecDepth 100000
set_option linter.unusedVariables false
theorem info5 : (Try.prog.info? 5).map (fun i => (i.zero, i.size, i.bytes)) = some (some (.int .u8 0), 1, 1) := by kernel_rfl

/-- A slice of bytes, below block B, that reads as l. -/
def Rd (w : World) (B : Nat) (A : Option Addr) (l : List Int) : Prop :=
  0 < l.length → ∃ b off, A = some ⟨b, off, none⟩ ∧ b < B ∧ ∀ j, j < l.length → w.cell? ⟨b, off + j, none⟩ = some (.int .u8 (l.getD j 0))
/-- A slice of bytes that the call owns, from block 'base' on. -/
def Row (w : World) (base : Nat) (v : Value) (l : List Int) : Prop := w.ownsRow base 5 1 v l.length (l.map (Value.int .u8))

theorem Rd.below {w w' : World} {B : Nat} {A : Option Addr} {l : List Int} (h : Rd w B A l) (hb : Below B w w') : Rd w' B A l := fun hp => by
  obtain ⟨b, off, e, hlt, hc⟩ := h hp
  exact ⟨b, off, e, hlt, fun j hj => (hb.cell (p := ⟨b, off + j, none⟩) hlt).trans (hc j hj)⟩
theorem Rd.more {w : World} {B B' : Nat} {A : Option Addr} {l : List Int} (h : Rd w B A l) (hB : B ≤ B') : Rd w B' A l := fun hp => by
  obtain ⟨b, off, e, hlt, hc⟩ := h hp
  exact ⟨b, off, e, by omega, hc⟩
theorem Rd.nil {w : World} {B : Nat} {A : Option Addr} : Rd w B A [] := fun h => by simp at h
theorem Row.rd {w : World} {base : Nat} {v : Value} {l : List Int} (h : Row w base v l) : ∃ A cap, v = .slice A l.length cap ∧ l.length ≤ cap ∧ Rd w w.heap.size A l := by
  rcases h.2 with ⟨rfl, hn⟩ | ⟨g, cap, cur, rfl, h3, hg, h5, r⟩
  · exact ⟨none, 0, by rw [hn], by omega, fun h => by omega⟩
  · refine ⟨_, cap, rfl, h5, fun hp => ⟨g, 0, rfl, (Array.getElem?_eq_some_iff.1 hg).1, fun j hj => ?_⟩⟩
    have := World.ownsRow.cells (w := w) (base := base) (e := 5) (size := 1) (v := .slice (some ⟨g, 0, none⟩) l.length cap) (n := l.length) (xs := l.map (Value.int .u8)) ⟨h.1, .inr ⟨g, cap, cur, rfl, h3, hg, h5, r⟩⟩ (g := g) rfl j (.int .u8 (l.getD j 0))
      (by simp [List.getElem?_map, List.getElem?_eq_getElem hj, List.getD_eq_getElem?_getD])
    rwa [show (⟨g, 0, none⟩ : Addr).add j = ⟨g, 0 + j, none⟩ from by unfold Addr.add; by_cases h : j = 0 <;> simp [h]] at this

/-- append(s, x...) onto a row of the call's own. -/
theorem wpList_rd {w : World} {ops : Array Oper} {rest : List Oper} {o : Oper} {a : Act} {Q : Exit → Act → World → Prop} (hgd : o.guard = none) (s x : Operand)
    (ho : o.op = .call { callee := .builtin .append, args := #[s, x], argTypes := #[39, 39] })
    {base B : Nat} {v : Value} {l : List Int} {A : Option Addr} {c : Nat} (m : List Int) (hs : a.eval s = v) (hown : Row w base v l) (hx : a.eval x = .slice A m.length c) (hr : Rd w B A m)
    (hn : l.length + m.length ≤ 140737488355328) (hb : base ≤ w.heap.size) (hm : A.isSome = true)
    (h : ∀ v' w', Row w' base v' (l ++ m) → Below base w w' → w.grownBy w' v.ownBlock → wpList Try.prog ops Q rest (a.put o.dst v') w') :
    wpList Try.prog ops Q (o :: rest) a w := by
  obtain ⟨i0, hi, hz0, hz1, hz2⟩ := info_parts info5
  obtain ⟨ad, rfl⟩ := Option.isSome_iff_exists.1 hm
  refine wpList_append_own (w := w) hgd s x 39 ho base 5 i0 (.int .u8 0) 1 1 Try.underlying39 hi hz0 hz1 hz2 rfl (by decide) v l.length (l.map (Value.int .u8)) hs
    hown ad m.length c (m.map (Value.int .u8)) hx (by simp) ?_ ?_ ?_ ?_ hb ?_
  · intro j u hu
    have hj : j < m.length := by
      rcases Nat.lt_or_ge j m.length with h | h
      · exact h
      · rw [List.getElem?_eq_none (by simpa using h)] at hu; cases hu
    obtain ⟨b, off, e, hlt, hc⟩ := hr (by omega)
    injection e with e
    subst e
    rw [show (⟨b, off, none⟩ : Addr).add j = ⟨b, off + j, none⟩ from by unfold Addr.add; by_cases h : j = 0 <;> simp [h], hc j hj]
    simp [List.getElem?_map, List.getElem?_eq_getElem hj] at hu
    simp [List.getD_eq_getElem?_getD, List.getElem?_eq_getElem hj, hu]
  · intro u hu
    obtain ⟨y, _, rfl⟩ := List.mem_map.1 hu
    rfl
  · unfold maxLen; omega
  · omega
  · intro v' w' h2 h3 _
    refine h v' w' ?_ ?_ h3
    · unfold Row; simpa using h2
    · exact (Below.refl base w).grown h3 hb (fun k hk => (World.ownsRow.lt hown k hk).1)

theorem nil_eq (c : Nat) (W : World) : (binOp BinOp.eql 39 (Value.slice none 0 c) (Value.slice none 0 0)).run Try.prog W = .ok (.bool true) W := rfl
theorem nil_ne (a : Addr) (n c : Nat) (W : World) : (binOp BinOp.eql 39 (Value.slice (some a) n c) (Value.slice none 0 0)).run Try.prog W = .ok (.bool false) W := rfl

set_option maxHeartbeats 1000000 in
theorem clone_any (A : Option Addr) (c : Nat) (l : List Int) (w : World) (hr : Rd w w.heap.size A l) (hn : l.length ≤ 70368744177664) :
    Calls Try.prog 28 #[.slice A l.length c] w fun e w' => ∃ v, e = .returned v ∧ Row w' w.heap.size v l ∧ Below w.heap.size w w' := by
  by_cases hA : A = none
  · subst hA
    have hl : l = [] := by
      cases l with
      | nil => rfl
      | cons a t => obtain ⟨b, off, e, _⟩ := hr (by simp); cases e
    subst hl
    have h1 := nil_eq c
    go_enter Try.func28, Try.ntmps28
    go_wp2
    go_ret
    exact ⟨_, rfl, World.ownsRow_nil _ _ _ _, Below.refl _ _⟩
  · obtain ⟨a, rfl⟩ : ∃ a, A = some a := by cases A with | none => exact absurd rfl hA | some a => exact ⟨a, rfl⟩
    clear hA
    have h1 := nil_ne a l.length c
    have hb1 : Below w.heap.size w (w.alloc (.cells #[] 5)) := (Below.refl _ _).alloc (Nat.le_refl _) _
    have hr1 := hr.below hb1
    have hR : Row (w.alloc (.cells #[] 5)) w.heap.size (.slice (some ⟨w.heap.size, 0, none⟩) 0 0) [] := World.ownsRow_made w #[] 0 (Nat.le_refl _) (by simp [maxLen]) rfl
    go_enter Try.func28, Try.ntmps28
    go_wp2_with (at_builtin; refine wpList_rd rfl _ _ rfl l rfl hR rfl hr1 (by simp; omega) (by simp) rfl ?_; intro v1 w1 hrow1 hb2 hg2)
    go_ret
    exact ⟨v1, rfl, by simpa using hrow1, hb1.trans hb2⟩
end Go.Proofs.Ytgjcomnljonffaa.Tlv
