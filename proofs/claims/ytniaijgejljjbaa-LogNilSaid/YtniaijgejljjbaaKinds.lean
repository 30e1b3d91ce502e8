/- Rows of attributes, as the program and the document keep them. -/
import Derived.Test.YtniaijgejljjbaaRow
import Derived.Test.YtniaijgejljjbaaAttr
namespace Go.Proofs.Ytniaijgejljjbaa
open Go.RowKit
set_option linter.unusedVariables false
set_option linter.unusedSimpArgs false

def sx (l : List UInt8) : ByteArray := ⟨l.toArray⟩
theorem sx_data (l : List UInt8) : (sx l).data.toList = l := by unfold sx; simp
theorem data_sx (s : ByteArray) : sx s.data.toList = s := by cases s; unfold sx; simp
theorem sx_size (l : List UInt8) : (sx l).size = l.length := by unfold sx; exact List.size_toArray
theorem sx_list (r : List UInt8) : (sx r).toList = r := by rw [ByteArray.toList_eq, sx_data]
theorem sx_inj {a b : List UInt8} (h : sx a = sx b) : a = b := by rw [← sx_data a, h, sx_data]
/-- An attribute as a value. -/
abbrev At.val (a : At) : Value := .agg #[.string (sx a.t), .string (sx a.v)]
def At.cells (a : At) : List Value := [.string (sx a.t), .string (sx a.v)]
theorem info29 : ∃ (i : TypeInfo) (z : Value), Try.prog.info? 100 = some i ∧ i.zero = some z ∧ i.size = 2 ∧ i.bytes = 32 ∧ z.cells.size = 2 := by
  have h : (Try.prog.info? 100).map (fun i => (i.zero, i.size, i.bytes)) = some (some (.agg #[.string ⟨#[]⟩, .string ⟨#[]⟩]), 2, 32) := by kernel_rfl
  obtain ⟨i, hi, h0, h1, h2⟩ := info_parts h
  exact ⟨i, _, hi, h0, h1, h2, rfl⟩
def kA : Kind At where
  e := 100
  st := 36
  size := 2
  bytes := 32
  cs := At.cells
  len := fun _ => rfl
  one := fun x u hu => by simp [At.cells] at hu; rcases hu with rfl | rfl <;> rfl
  pos := by decide
  sl := Try.underlying36
  zero := info29
  small := by decide
theorem RowK.on {α : Type} {K : Kind α} {w w' : World} {base : Nat} {v : Value} {l : List α} (h : RowK K w base v l) (hb : Below w.heap.size w w') : RowK K w' base v l := by
  refine ⟨h.1, ?_⟩
  rcases h.2 with h0 | ⟨g, cap, cur, hv, hg, hh, rest⟩
  · exact .inl h0
  · exact .inr ⟨g, cap, cur, hv, hg, (hb.block g (Array.getElem?_eq_some_iff.1 hh).1).trans hh, rest⟩
theorem RowK.low {α : Type} {K : Kind α} {w : World} {base base' : Nat} {v : Value} {l : List α} (h : RowK K w base v l) (hb : base' ≤ base) : RowK K w base' v l := by
  refine ⟨h.1, ?_⟩
  rcases h.2 with h0 | ⟨g, cap, cur, hv, hg, rest⟩
  · exact .inl h0
  · exact .inr ⟨g, cap, cur, hv, Nat.le_trans hb hg, rest⟩
/-- The two cells of an attribute. -/
theorem at_cells {w w' : World} {n k : Nat} {A : Option Addr} {l : List At} (h : RdK kA w n A l) (hb : Below n w w') (hk : k < l.length) : ∃ b off, A = some ⟨b, off, none⟩ ∧ b < n ∧
    w'.cell? ⟨b, off + k * 2, none⟩ = some (.string (sx (l.getD k default).t)) ∧ w'.cell? ⟨b, off + k * 2 + 1, none⟩ = some (.string (sx (l.getD k default).v)) := by
  obtain ⟨b, off, e, hlt, hc⟩ := h (by omega)
  exact ⟨b, off, e, hlt, (hb.cell (p := ⟨b, off + k * 2, none⟩) hlt).trans (hc k hk 0 _ rfl), (hb.cell (p := ⟨b, off + k * 2 + 1, none⟩) hlt).trans (hc k hk 1 _ rfl)⟩
theorem below_acc' {N : Nat} {args : Array Value} {u : Value} {n0 : Nat} {w0 W : World} (hb : Below n0 w0 W) (h : Calls Try.prog N args W fun e w' => e = .returned u ∧ Below W.heap.size W w') (hn : n0 ≤ W.heap.size) :
    Calls Try.prog N args W fun e w' => e = .returned u ∧ Below n0 w0 w' := h.mono fun e w' ⟨h1, h2⟩ => ⟨h1, hb.trans (h2.mono hn)⟩
/-- A contract, from a world on. -/
abbrev Acc (w : World) (f : FuncId) (args : Array Value) (u : Value) : Prop := ∀ W, Below w.heap.size w W → Calls Try.prog f args W fun e w' => e = .returned u ∧ Below w.heap.size w w'
theorem acc_below {w : World} {f : FuncId} {args : Array Value} {u : Value} (h : ∀ W, Below w.heap.size w W → Calls Try.prog f args W fun e w' => e = .returned u ∧ Below W.heap.size W w') : Acc w f args u := fun W hb => below_acc' hb (h W hb) hb.size
theorem acc_same {w : World} {f : FuncId} {args : Array Value} {u : Value} (h : ∀ W, Calls Try.prog f args W fun e w' => e = .returned u ∧ W = w') : Acc w f args u := fun W hb => (h W).mono fun e w' ⟨h1, h2⟩ => ⟨h1, h2 ▸ hb⟩
end Go.Proofs.Ytniaijgejljjbaa
