/- The chapter's row of layer 2. -/
import Derived.Test.YtknjlholbelpbaaTWrite
namespace Go.Proofs.Ytknjlholbelpbaa.Tlv
open Go.RowKit
set_option maxRecDepth 100000
set_option linter.unusedVariables false

theorem make8 (W : World) : (Instr.makeSlice 30 (.int .i64 8) (.int .i64 8)).run Try.prog W = .ok (.slice (some ⟨W.heap.size, 0, none⟩) 8 8)
    (W.alloc (.cells #[.int .u8 0, .int .u8 0, .int .u8 0, .int .u8 0, .int .u8 0, .int .u8 0, .int .u8 0, .int .u8 0] 5)) := by kernel_rfl

set_option maxHeartbeats 1000000 in
/-- All bytes of a writer that has not failed. -/
theorem end_ok (g : Nat) (v : Value) (m : Int) (l : List Int) (base : Nat) (w : World) (hblk : Blk w g 76 #[v, .int .i64 m, .int .i64 0]) (hrow : Row w base v l) (hl : l.length ≤ 1000000000000) :
    Calls Try.prog 49 #[.pointer (some ⟨g, 0, none⟩)] w fun e w' => ∃ v', e = .returned (.tuple #[v', .int .i64 0]) ∧ Row w' w.heap.size v' l ∧ Below w.heap.size w w' := by
  obtain ⟨A, c, rfl, hc, hrd⟩ := hrow.rd
  have c0 : w.cell? ⟨g, 0, none⟩ = some (.slice A l.length c) := hblk.cell 0
  have c2 : w.cell? ⟨g, 2, none⟩ = some (.int .i64 0) := hblk.cell 2
  go_enter Try.func49, Try.ntmps49
  go_wp2_with (go_at_call 27; refine (clone_any A c l w hrd (by omega)).mono ?_; rintro e w1 ⟨v1, rfl, hrow1, hb1⟩)
  go_ret2
  exact ⟨v1, rfl, hrow1, hb1⟩

def mkS (l : List Int) : ByteArray := l.foldl (fun r n => r.push (UInt8.ofNat n.toNat)) ByteArray.empty
theorem conv_of (W : World) (A : Option Addr) (cap B : Nat) (l : List Int) (h : Rd W B A l) (hs : A.isSome = true ∨ A = none) :
    (convert 30 9 (.slice A l.length cap)).run Try.prog W = .ok (.string (mkS l)) W := by
  rw [run_convert_bytes_string (P := Try.prog) W 30 9 5 A _ _ Try.underlying30 Try.underlying5 Try.underlying9]
  cases A with
  | none =>
    have : l = [] := by
      cases l with
      | nil => rfl
      | cons a t => obtain ⟨b, off, e, _⟩ := h (by simp); cases e
    subst this
    simp [Conv.bytesToString, mkS, Sem.run_pure]
  | some a =>
    refine run_bytesToString W a l.length cap l ?_
    have := run_loadCells_list (P := Try.prog) (w := W) a (l.map (Value.int .u8)) (fun j u hu => by
      have hj : j < l.length := by
        rcases Nat.lt_or_ge j l.length with h | h
        · exact h
        · rw [List.getElem?_eq_none (by simpa using h)] at hu; cases hu
      obtain ⟨b, off, e, hlt, hc⟩ := h (by omega)
      injection e with e
      subst e
      rw [show (⟨b, off, none⟩ : Addr).add j = ⟨b, off + j, none⟩ from by unfold Addr.add; by_cases h : j = 0 <;> simp [h], hc j hj]
      simp [List.getElem?_map, List.getElem?_eq_getElem hj] at hu
      simp [List.getD_eq_getElem?_getD, List.getElem?_eq_getElem hj, hu])
    simpa using this
theorem conv_row {w : World} {base : Nat} {v : Value} {l : List Int} (h : Row w base v l) : (convert 30 9 v).run Try.prog w = .ok (.string (mkS l)) w := by
  obtain ⟨A, c, rfl, _, hr⟩ := h.rd
  exact conv_of w A c _ l hr (by cases A <;> simp)

end Go.Proofs.Ytknjlholbelpbaa.Tlv
