/- The values that stand one behind another. -/
import Derived.Test.YtlhbnmaalhainaaTFirst
import Derived.Test.YtlhbnmaalhainaaTRow
namespace Go.Proofs.Ytlhbnmaalhainaa.Tlv
open Go.RowKit
set_option maxRecDepth 100000
set_option linter.unusedVariables false
set_option linter.unusedSimpArgs false

/-- The values that stand one behind another at the beginning of bytes. -/
def items (l : List Int) : List (Int × List Int) :=
  if h : stands l = true then (l.getD 0 0, (l.drop 5).take (nv l)) :: items (l.drop (5 + nv l)) else []
termination_by l.length
decreasing_by
  have h1 := of_decide_eq_true h
  simp only [List.length_drop]
  omega
theorem items_no {l : List Int} (h : stands l = false) : items l = [] := by rw [items]; simp [h]
theorem items_yes {l : List Int} (h : stands l = true) : items l = (l.getD 0 0, (l.drop 5).take (nv l)) :: items (l.drop (5 + nv l)) := by rw [items]; simp [h]
theorem stands_parts {l : List Int} (h : stands l = true) : 5 ≤ l.length ∧ l.getD 0 0 ≠ 0 ∧ nv l ≤ 4194304 ∧ 5 + nv l ≤ l.length := of_decide_eq_true h

/-- What All's function hands: a tag, a slice that reads as the value's bytes. -/
structure Hand where
  t : Int
  A : Option Addr
  c : Nat
  bs : List Int
deriving Inhabited
def Hand.it (h : Hand) : Int × List Int := (h.t, h.bs)
abbrev Hand.enc (h : Hand) : Array Value := #[.int .u8 h.t, .slice h.A h.bs.length h.c]
def Reads (h : Hand) (W : World) : Prop := Rd W W.heap.size h.A h.bs

theorem step_items {l r : List Int} {pre : List Hand} (h : items l = pre.map Hand.it ++ items r) (hs : stands r = true) (x : Hand) (h1 : x.t = r.getD 0 0) (h2 : x.bs = (r.drop 5).take (nv r)) :
    items l = (pre ++ [x]).map Hand.it ++ items (r.drop (5 + nv r)) ∧ pre.length < (items l).length := by
  rw [items_yes hs] at h
  refine ⟨by rw [h]; simp [Hand.it, h1, h2], by rw [h]; simp⟩

theorem Byt.drop {l : List Int} (h : Byt l) (k : Nat) : Byt (l.drop k) := fun x hx => h x (List.mem_of_mem_drop hx)

end Go.Proofs.Ytlhbnmaalhainaa.Tlv
