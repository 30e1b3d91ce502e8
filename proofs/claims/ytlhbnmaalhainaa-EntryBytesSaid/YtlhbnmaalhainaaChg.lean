/- Attributes changed by others. -/
import Derived.Test.YtlhbnmaalhainaaMayE
namespace Go.Proofs.Ytlhbnmaalhainaa
open Go.RowKit Go.Lib Go.Sort
set_option linter.unusedVariables false
set_option linter.unusedSimpArgs false

def keepA (by' : List At) (a : At) : Bool := !by'.any fun b => decide (b.t = a.t)
def setA (b : At) : Bool := decide (b.v ≠ [])
def changeL (l by' : List At) : List At := sortA (l.filter (keepA by') ++ by'.filter setA)
def mayC (l by' : List At) : Bool := mayL l && (decide (by'.length ≤ 50) && by'.all mayA)
/-- The changed ones, the error. -/
def changeR (l by' : List At) : List At × Int := if mayC l by' = true then (if 50 < (changeL l by').length then ([], 10) else (changeL l by', 0)) else ([], 2)
theorem filter_take_succ (p : At → Bool) (l : List At) (k : Nat) (h : k < l.length) : (l.take (k + 1)).filter p = (l.take k).filter p ++ (if p (l.getD k default) = true then [l.getD k default] else []) := by
  have e : l.take (k + 1) = l.take k ++ [l.getD k default] := by
    rw [List.take_add_one, List.getElem?_eq_getElem h, List.getD_eq_getElem?_getD, List.getElem?_eq_getElem h]
    rfl
  rw [e, List.filter_append]
  congr 1
  generalize l.getD k default = x
  cases hp : p x <;> simp [hp]
def ChOut (w : World) (r : List At × Int) (e : Ending) (w' : World) : Prop := ∃ v', e = .returned (.tuple #[v', .int .i64 r.2]) ∧ RdV w' v' r.1 ∧ Below w.heap.size w w'
set_option maxHeartbeats 2000000 in
theorem change_no (l by' : List At) (v vb : Value) (w : World) (hv : RdV w v l) (hvb : RdV w vb by') (hs : Sm l) (hsb : Sm by') (hl : l.length ≤ 1000000) (hlb : by'.length ≤ 1000000) (hno : mayC l by' = false) :
    Calls Try.prog 32 #[v, vb] w (ChOut w ([], 2)) := by
  have HL := Lib.hid (mayAttrs_any l v w hv hs hl)
  have HA := Lib.hid fun W (hb : Below w.heap.size w W) => all_any by' vb W (hvb.on hb) hsb hlb
  obtain ⟨A, c, rfl, _, _⟩ := hv
  obtain ⟨B, d, rfl, _, _⟩ := hvb
  unfold mayC at hno
  generalize mayL l = r at HL hno
  generalize by'.all mayA = r2 at HA hno
  generalize l.length = n at HL HA ⊢
  generalize by'.length = m at hlb hno HA ⊢
  clear hs hsb hl
  cases r with
  | false =>
    clear hno
    go_enter Try.func32, Try.ntmps32
    go_wp2_with (go_at_call 15; (with_reducible refine HL.out.mono ?_); rintro e w1 ⟨rfl, hb1⟩)
    go_ret2
    exact ⟨_, rfl, RdV.nil _, hb1⟩
  | true =>
    by_cases h50 : m ≤ 50
    · rw [decide_eq_true h50] at hno
      simp only [Bool.true_and] at hno
      subst hno
      go_enter Try.func32, Try.ntmps32
      go_wp2_with (first
        | (go_at_call 15; (with_reducible refine HL.out.mono ?_); rintro e w1 ⟨rfl, hb1⟩; have HB1 := Lib.hid hb1; have HA1 := Lib.hid (HA.out _ hb1); clear hb1)
        | (go_at_call 59; (with_reducible refine HA1.out.mono ?_); rintro e w2 ⟨rfl, hb2⟩))
      go_ret2
      exact ⟨_, rfl, RdV.nil _, HB1.out.trans (hb2.mono HB1.out.size)⟩
    · clear hno
      have hgt : 50 < m := by omega
      clear h50
      go_enter Try.func32, Try.ntmps32
      go_wp2_with (go_at_call 15; (with_reducible refine HL.out.mono ?_); rintro e w1 ⟨rfl, hb1⟩)
      go_ret2
      exact ⟨_, rfl, RdV.nil _, hb1⟩
end Go.Proofs.Ytlhbnmaalhainaa
