/- Elements, weights: the small functions: May, shifted, Same, sound. -/
import Derived.Test.YtlemiejmjdhcgaaRow
import Derived.Test.YtlemiejmjdhcgaaEq
namespace Go.Proofs.Ytlemiejmjdhcgaa
open Go.RowKit
set_option linter.unusedVariables false
set_option linter.unusedSimpArgs false

/-- An element: its three weights; is it variable? -/
structure El where
  p : Int
  s : Int
  t : Int
  var : Bool
deriving DecidableEq, Inhabited
/-- Four levels' weights. -/
structure Wt where
  a : Int
  b : Int
  c : Int
  d : Int
deriving DecidableEq, Inhabited
def El.cells (x : El) : List Value := [.int .u16 x.p, .int .u16 x.s, .int .u16 x.t, .bool x.var]
def Wt.cells (x : Wt) : List Value := [.int .u16 x.a, .int .u16 x.b, .int .u16 x.c, .int .u16 x.d]
abbrev El.agg (x : El) : Value := .agg #[.int .u16 x.p, .int .u16 x.s, .int .u16 x.t, .bool x.var]
abbrev Wt.agg (x : Wt) : Value := .agg #[.int .u16 x.a, .int .u16 x.b, .int .u16 x.c, .int .u16 x.d]
theorem info42 : ∃ (i : TypeInfo) (z : Value), Try.prog.info? 42 = some i ∧ i.zero = some z ∧ i.size = 4 ∧ i.bytes = 8 ∧ z.cells.size = 4 := by
  have h : (Try.prog.info? 42).map (fun i => (i.zero, i.size, i.bytes)) = some (some (.agg #[.int .u16 0, .int .u16 0, .int .u16 0, .bool false]), 4, 8) := by kernel_rfl
  obtain ⟨i, hi, h0, h1, h2⟩ := info_parts h
  exact ⟨i, _, hi, h0, h1, h2, rfl⟩
theorem info31 : ∃ (i : TypeInfo) (z : Value), Try.prog.info? 31 = some i ∧ i.zero = some z ∧ i.size = 4 ∧ i.bytes = 8 ∧ z.cells.size = 4 := by
  have h : (Try.prog.info? 31).map (fun i => (i.zero, i.size, i.bytes)) = some (some (.agg #[.int .u16 0, .int .u16 0, .int .u16 0, .int .u16 0]), 4, 8) := by kernel_rfl
  obtain ⟨i, hi, h0, h1, h2⟩ := info_parts h
  exact ⟨i, _, hi, h0, h1, h2, rfl⟩
def kE : Kind El where
  e := 42
  st := 24
  size := 4
  bytes := 8
  cs := El.cells
  len := fun _ => rfl
  one := fun x u hu => by simp [El.cells] at hu; rcases hu with rfl | rfl | rfl | rfl <;> rfl
  pos := by decide
  sl := Try.underlying24
  zero := info42
  small := by decide
def kW : Kind Wt where
  e := 31
  st := 27
  size := 4
  bytes := 8
  cs := Wt.cells
  len := fun _ => rfl
  one := fun x u hu => by simp [Wt.cells] at hu; rcases hu with rfl | rfl | rfl | rfl <;> rfl
  pos := by decide
  sl := Try.underlying27
  zero := info31
  small := by decide

/-- The facts of an element's, a weight's, cells, in a world behind. -/
theorem el_cells {w w' : World} {A : Option Addr} {l : List El} {n k : Nat} (h : RdK kE w n A l) (hb : Below n w w') (hk : k < l.length) :
    ∃ b off, A = some ⟨b, off, none⟩ ∧ b < n ∧ w'.cell? ⟨b, off + k * 4, none⟩ = some (.int .u16 (l.getD k default).p) ∧ w'.cell? ⟨b, off + k * 4 + 1, none⟩ = some (.int .u16 (l.getD k default).s) ∧
      w'.cell? ⟨b, off + k * 4 + 2, none⟩ = some (.int .u16 (l.getD k default).t) ∧ w'.cell? ⟨b, off + k * 4 + 3, none⟩ = some (.bool (l.getD k default).var) := by
  obtain ⟨b, off, e, hbl, hc⟩ := h (by omega)
  have h2 := hc k hk
  exact ⟨b, off, e, hbl, (hb.cell (p := ⟨b, off + k * 4, none⟩) hbl).trans (h2 0 _ rfl), (hb.cell (p := ⟨b, off + k * 4 + 1, none⟩) hbl).trans (h2 1 _ rfl), (hb.cell (p := ⟨b, off + k * 4 + 2, none⟩) hbl).trans (h2 2 _ rfl), (hb.cell (p := ⟨b, off + k * 4 + 3, none⟩) hbl).trans (h2 3 _ rfl)⟩
theorem wt_cells {w w' : World} {A : Option Addr} {l : List Wt} {n k : Nat} (h : RdK kW w n A l) (hb : Below n w w') (hk : k < l.length) :
    ∃ b off, A = some ⟨b, off, none⟩ ∧ b < n ∧ w'.cell? ⟨b, off + k * 4, none⟩ = some (.int .u16 (l.getD k default).a) ∧ w'.cell? ⟨b, off + k * 4 + 1, none⟩ = some (.int .u16 (l.getD k default).b) ∧
      w'.cell? ⟨b, off + k * 4 + 2, none⟩ = some (.int .u16 (l.getD k default).c) ∧ w'.cell? ⟨b, off + k * 4 + 3, none⟩ = some (.int .u16 (l.getD k default).d) := by
  obtain ⟨b, off, e, hbl, hc⟩ := h (by omega)
  have h2 := hc k hk
  exact ⟨b, off, e, hbl, (hb.cell (p := ⟨b, off + k * 4, none⟩) hbl).trans (h2 0 _ rfl), (hb.cell (p := ⟨b, off + k * 4 + 1, none⟩) hbl).trans (h2 1 _ rfl), (hb.cell (p := ⟨b, off + k * 4 + 2, none⟩) hbl).trans (h2 2 _ rfl), (hb.cell (p := ⟨b, off + k * 4 + 3, none⟩) hbl).trans (h2 3 _ rfl)⟩

def mayB (lv : Int) : Bool := decide (1 ≤ lv) && decide (lv ≤ 4)
theorem may_any (sh : Bool) (lv : Int) (w : World) : Calls Try.prog 12 #[.agg #[.bool sh, .int .i64 lv]] w fun e w' => e = .returned (.bool (mayB lv)) ∧ Below w.heap.size w w' := by
  have hb1 : Below w.heap.size w (w.alloc (.cells #[.bool sh, .int .i64 lv] 23)) := (Below.refl _ _).alloc (Nat.le_refl _) _
  by_cases h1 : 1 ≤ lv
  · have d1 : decide (1 ≤ lv) = true := by simp [h1]
    by_cases h2 : lv ≤ 4
    · have d2 : decide (lv ≤ 4) = true := by simp [h2]
      have e0 : mayB lv = true := by simp [mayB, h1, h2]
      rw [e0]
      go_enter Try.func12, Try.ntmps12
      go_wp2
      go_ret
      exact ⟨rfl, hb1⟩
    · have d2 : decide (lv ≤ 4) = false := by simp; omega
      have e0 : mayB lv = false := by simp [mayB]; omega
      rw [e0]
      go_enter Try.func12, Try.ntmps12
      go_wp2
      go_ret
      exact ⟨rfl, hb1⟩
  · have d1 : decide (1 ≤ lv) = false := by simp; omega
    have e0 : mayB lv = false := by simp [mayB]; omega
    rw [e0]
    go_enter Try.func12, Try.ntmps12
    go_wp2
    go_ret
    exact ⟨rfl, hb1⟩

set_option maxHeartbeats 4000000 in
/-- Same: of two lists of weights. -/
theorem same_any (A B : Option Addr) (c d : Nat) (l m : List Wt) (w : World) (hA : RdK kW w w.heap.size A l) (hB : RdK kW w w.heap.size B m) (hl : l.length ≤ 1000000) :
    Calls Try.prog 9 #[.slice A l.length c, .slice B m.length d] w fun e w' => e = .returned (.bool (decide (l = m))) ∧ Below w.heap.size w w' := by
  by_cases hlen : l.length = m.length
  · go_enter Try.func9, Try.ntmps9
    go_wp2
    go_loopw [5] (fun i wr => ∃ k : Nat, i = .int .i64 k ∧ k ≤ l.length ∧ Hid (∀ j, j < k → l.getD j default = m.getD j default) ∧ Below w.heap.size w wr) (fun i _ => l.length - (intOf i).toNat)
    case atStart => exact ⟨0, rfl, Nat.zero_le _, Lib.hid fun j h => by omega, Below.refl _ _⟩
    case round =>
      obtain ⟨k, rfl, hk, He, hb⟩ := hrel
      by_cases hlt : k < l.length
      · obtain ⟨b, off, rfl, hbl, x0, x1, x2, x3⟩ := wt_cells hA hb hlt
        obtain ⟨b', off', rfl, hbl', y0, y1, y2, y3⟩ := wt_cells hB hb (show k < m.length by omega)
        have hne : l.getD k default ≠ m.getD k default → Hid (decide (l = m) = false) := fun h => Lib.hid (by
          rw [decide_eq_false_iff_not]
          exact fun e => h (by rw [e]))
        have heq : l.getD k default = m.getD k default → Hid (∀ j, j < k + 1 → l.getD j default = m.getD j default) := fun h => Lib.hid fun j hj => by
          rcases Nat.lt_or_ge j k with h' | h'
          · exact He.out j h'
          · have : j = k := by omega
            subst this; exact h
        clear hA hB
        generalize l.getD k default = x at *
        generalize m.getD k default = y at *
        by_cases hxy : x = y
        · have Hq := heq hxy
          subst hxy
          clear heq hne
          have hn : ∀ W, (binOp BinOp.neq 31 x.agg x.agg).run Try.prog W = .ok (.bool false) W := fun W => by rw [neq31]; simp
          go_wp2
          go_quiet (fail)
          go_wp2
          go_roundw
          case rel => exact ⟨k + 1, by go_num, by omega, Hq, below_drewN hb _⟩
          case measure => simp [intOf]; omega
        · have Hq := hne hxy
          have hn : ∀ W, (binOp BinOp.neq 31 x.agg y.agg).run Try.prog W = .ok (.bool true) W := fun W => by
            rw [neq31]
            have : ¬ (x.a = y.a ∧ x.b = y.b ∧ x.c = y.c ∧ x.d = y.d) := fun ⟨h1, h2, h3, h4⟩ => hxy (by cases x; cases y; simp_all)
            have e : (x.a == y.a && (x.b == y.b && (x.c == y.c && x.d == y.d))) = false := by
              rw [Bool.eq_false_iff]
              intro h
              simp only [Bool.and_eq_true, beq_iff_eq] at h
              exact this h
            rw [e]; rfl
          clear heq hne hxy
          go_wp2
          go_quiet (fail)
          go_wp2
          go_ret
          exact ⟨by rw [Hq.out]; rfl, below_drewN hb _⟩
      · have hkl : k = l.length := by omega
        subst hkl
        have Heq : Hid (decide (l = m) = true) := Lib.hid (by
          rw [decide_eq_true_eq]
          refine List.ext_getElem hlen fun i h1 h2 => ?_
          have := He.out i h1
          rwa [List.getD_eq_getElem?_getD, List.getD_eq_getElem?_getD, List.getElem?_eq_getElem h1, List.getElem?_eq_getElem h2] at this)
        clear He
        go_wp2
        go_ret
        exact ⟨by rw [Heq.out]; rfl, hb⟩
  · have e0 : decide (l = m) = false := by
      rw [decide_eq_false_iff_not]
      exact fun e => hlen (by rw [e])
    rw [e0]
    go_enter Try.func9, Try.ntmps9
    go_wp2
    go_ret
    exact ⟨rfl, Below.refl _ _⟩
end Go.Proofs.Ytlemiejmjdhcgaa
