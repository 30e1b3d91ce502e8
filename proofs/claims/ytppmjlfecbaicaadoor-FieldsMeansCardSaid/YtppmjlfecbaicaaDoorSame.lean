/- Rows of code points: are they the same? -/
import Derived.Test.YtppmjlfecbaicaaDoorRow
import Derived.Test.YtppmjlfecbaicaaDoorTxt
namespace Go.Proofs.YtppmjlfecbaicaaDoor
open Go.RowKit
set_option linter.unusedVariables false
set_option linter.unusedSimpArgs false

theorem info21 : ∃ (i : TypeInfo) (z : Value), Tryd.prog.info? 21 = some i ∧ i.zero = some z ∧ i.size = 1 ∧ i.bytes = 4 ∧ z.cells.size = 1 := by
  have h : (Tryd.prog.info? 21).map (fun i => (i.zero, i.size, i.bytes)) = some (some (.int .i32 0), 1, 4) := by kernel_rfl
  obtain ⟨i, hi, h0, h1, h2⟩ := info_parts h
  exact ⟨i, _, hi, h0, h1, h2, rfl⟩
def kR : Kind Int where
  e := 21
  st := 28
  size := 1
  bytes := 4
  cs := fun x => [.int .i32 x]
  len := fun _ => rfl
  one := fun x u hu => by simp at hu; subst hu; rfl
  pos := by decide
  sl := Tryd.underlying28
  zero := info21
  small := by decide
theorem rune_cell {w w' : World} {n k : Nat} {A : Option Addr} {l : List Int} (h : RdK kR w n A l) (hb : Below n w w') (hk : k < l.length) : ∃ b off, A = some ⟨b, off, none⟩ ∧ b < n ∧ w'.cell? ⟨b, off + k, none⟩ = some (.int .i32 (l.getD k default)) := by
  obtain ⟨b, off, e, hlt, hc⟩ := h (by omega)
  refine ⟨b, off, e, hlt, ?_⟩
  have h2 := hc k hk 0 _ rfl
  rw [show off + k * kR.size + 0 = off + k from by show off + k * 1 + 0 = _; omega] at h2
  exact (hb.cell (p := ⟨b, off + k, none⟩) hlt).trans h2

set_option maxHeartbeats 4000000 in
theorem same_any (A A' : Option Addr) (c c' : Nat) (l m : List Int) (w : World) (hr : RdK kR w w.heap.size A l) (hr' : RdK kR w w.heap.size A' m) (hl : l.length ≤ 1000000000) (hm : m.length ≤ 1000000000) :
    Calls Tryd.prog 16 #[.slice A l.length c, .slice A' m.length c'] w fun e w' => e = .returned (.bool (decide (l = m))) ∧ Below w.heap.size w w' := by
  by_cases hlen : l.length = m.length
  · rw [← hlen]
    have HR := Lib.hid hr
    have HR' := Lib.hid hr'
    have HL := Lib.hid hlen
    clear hr hr' hlen
    go_enter Tryd.func16, Tryd.ntmps16
    go_wp2
    go_loopw [5] (fun i wr => ∃ k : Nat, i = .int .i64 k ∧ k ≤ l.length ∧ Hid (l.take k = m.take k) ∧ Hid (Below w.heap.size w wr)) (fun i _ => l.length - (intOf i).toNat)
    case atStart => exact ⟨0, rfl, Nat.zero_le _, Lib.hid rfl, Lib.hid (Below.refl _ _)⟩
    case round =>
      obtain ⟨k, rfl, hk, HT, HB⟩ := hrel
      by_cases hlt : k < l.length
      · obtain ⟨b, off, rfl, hb, x0⟩ := rune_cell HR.out HB.out hlt
        obtain ⟨b', off', rfl, hb', x1⟩ := rune_cell HR'.out HB.out (show k < m.length by have := HL.out; omega)
        have HE : Hid (l.take (k + 1) = m.take (k + 1) ↔ l.getD k default = m.getD k default) := Lib.hid (by
          have hm2 : k < m.length := by have := HL.out; omega
          have e1 : l.take (k + 1) = l.take k ++ [l[k]] := by rw [List.take_add_one, List.getElem?_eq_getElem hlt]; rfl
          have e2 : m.take (k + 1) = m.take k ++ [m[k]] := by rw [List.take_add_one, List.getElem?_eq_getElem hm2]; rfl
          have e3 : l.getD k default = l[k] := by rw [List.getD_eq_getElem?_getD, List.getElem?_eq_getElem hlt]; rfl
          have e4 : m.getD k default = m[k] := by rw [List.getD_eq_getElem?_getD, List.getElem?_eq_getElem hm2]; rfl
          rw [e1, e2, e3, e4, HT.out]
          exact ⟨fun h => (List.cons.inj (List.append_cancel_left h)).1, fun h => by rw [h]⟩)
        have HN : Hid (l.take (k + 1) ≠ m.take (k + 1) → l ≠ m) := Lib.hid fun h e => h (by rw [e])
        generalize l.getD k default = x at *
        generalize m.getD k default = y at *
        by_cases hxy : x = y
        · have HS := Lib.hid (HE.out.2 hxy)
          have hd : (x != y) = false := by simpa using hxy
          clear HE HN hxy
          go_wp2
          go_quiet (fail)
          go_wp2
          go_roundw
          case rel => exact ⟨k + 1, by go_num, by omega, HS, Lib.hid (below_drewN HB.out nq)⟩
          case measure => simp [intOf]; omega
        · have HS := Lib.hid (HN.out (fun h => hxy (HE.out.1 h)))
          have hd : (x != y) = true := by simpa using hxy
          clear HE HN hxy
          go_wp2
          go_quiet (fail)
          go_wp2
          go_ret
          exact ⟨by rw [decide_eq_false HS.out]; rfl, below_drewN HB.out nq⟩
      · have HE : Hid (l = m) := Lib.hid (by
          have h := HT.out
          have := HL.out
          rwa [List.take_of_length_le (by omega), List.take_of_length_le (by omega)] at h)
        clear HT
        go_wp2
        go_ret
        exact ⟨by rw [decide_eq_true HE.out]; rfl, HB.out⟩
  · have e : decide (l = m) = false := decide_eq_false (fun h => hlen (by rw [h]))
    rw [e]
    clear hr hr' e
    go_enter Tryd.func16, Tryd.ntmps16
    go_wp2
    go_ret
    exact ⟨rfl, Below.refl _ _⟩
end Go.Proofs.YtppmjlfecbaicaaDoor
