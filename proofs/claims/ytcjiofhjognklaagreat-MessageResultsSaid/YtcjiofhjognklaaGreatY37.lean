/- What the stage's law says, ahead of its walk. -/
import Derived.Test.YtcjiofhjognklaaGreatY25
import Derived.Test.YtcjiofhjognklaaGreatY36
import Derived.Test.YtcjiofhjognklaaGreatY22
import Derived.Test.YtcjiofhjognklaaGreatY30
import Derived.Test.YtcjiofhjognklaaGreatY16
import Derived.Deep.Slices
import Derived.Deep.Strs
import Derived.Lib.SmallJoins
import Derived.SliceStrings
import Derived.WideShapes
namespace Go.Proofs.YtcjiofhjognklaaGreat.Tlv
open Go.RowKit
set_option maxRecDepth 100000
set_option linter.unusedVariables false
set_option linter.unusedSimpArgs false
theorem ent_inj {n1 n2 : List UInt8} {l1 l2 : List At} (h1 : mayE n1 l1 = true) (h2 : mayE n2 l2 = true) (h : entB n1 l1 = entB n2 l2) : n1 = n2 ∧ l1 = l2 := by
 obtain ⟨a1, a2⟩ := may_lens h1
 obtain ⟨b1, b2⟩ := may_lens h2
 obtain ⟨c1, c2⟩ := of_put (name := n1) (l := l1) a1 a2
 obtain ⟨d1, d2⟩ := of_put (name := n2) (l := l2) b1 b2
 rw [h, d1] at c1
 simp only [Prod.mk.injEq, Option.some.injEq, true_and] at c1
 obtain ⟨e1, e2⟩ := c1
 rw [e2, c2] at d2
 simp only [Prod.mk.injEq, Option.some.injEq, and_true] at d2
 refine ⟨?_, ?_⟩
 · have h3 := u8s_bytes n1
   rw [← e1, u8s_bytes] at h3
   exact h3.symm
 · obtain ⟨_, k1⟩ := Bool.and_eq_true_iff.1 h1
   obtain ⟨_, k2⟩ := Bool.and_eq_true_iff.1 h2
   obtain ⟨l', k3, k4⟩ := atsB_prefix l1 l2 [] (sm_of_may k1) (sm_of_may k2) (by rw [List.append_nil]; exact d2)
   cases l' with
   | nil => rw [k3, List.append_nil]
   | cons a t =>
     have := congrArg List.length k4
     rw [atsB_cons, List.length_append, atB_len] at this
     simp at this
     omega
theorem numL_any (e : Int) (w : World) : Calls Tryz.prog 16 #[.int .i64 e] w fun r w' => r = .returned (.int .i64 e) ∧ w = w' := by
 go_enter Tryz.func16, Tryz.ntmps16
 go_wp2
 go_ret
 exact ⟨rfl, rfl⟩
def Took {α : Type} (P : α → List Int) (G : α → Prop) (f : Bool) (r : List Int) (a : α) (f' : Bool) (r' : List Int) : Prop :=
 (f' = false → f = false ∧ r = P a ++ r' ∧ G a) ∧ (f = false → ∀ a0 r1, G a0 → r = P a0 ++ r1 → a = a0 ∧ f' = false ∧ r' = r1)
abbrev SmB (v : List Int) : Prop := v.length ≤ 4194304 ∧ Byt v
abbrev SmN (m n : Int) : Prop := 0 ≤ n ∧ n ≤ m
theorem took_bytes {f : Bool} {r : List Int} {tag : Int} (hb : Byt r) (ht : tag ≠ 0) : Took (valB tag) SmB f r ((tk f r tag).1.getD []) (tk f r tag).2.1 (tk f r tag).2.2 := by
 refine ⟨fun h => ?_, fun h a0 r1 hg e => ?_⟩
 · cases htk : tk f r tag with
   | mk o q =>
     obtain ⟨q1, q2⟩ := q
     rw [htk] at h
     cases o with
     | none => have := (tk_none htk).1; simp only at h; rw [this] at h; cases h
     | some v =>
       obtain ⟨h1, h2, _, h4, h5⟩ := tk_some hb htk
       exact ⟨h1, h4, h5, tk_bytS hb htk⟩
 · subst h e
   rw [tk_put ht hg.1]
   exact ⟨rfl, rfl, rfl⟩
theorem numOf_lt8 {v : List Int} (hb : Byt v) (h : v.length = 8) : 0 ≤ numOf v ∧ numOf v ≤ 18446744073709551615 := by
 have := numOf_lt hb 8 (by omega)
 rw [List.take_of_length_le (by omega)] at this
 have e : ((256 ^ 8 : Nat) : Int) = 18446744073709551616 := by decide
 rw [e] at this
 omega
def NumOut (t : Option (List Int) × Bool × List Int) (n : Int) (f' : Bool) (r' : List Int) : Prop :=
 (∃ v, t.1 = some v ∧ v.length = 8 ∧ n = numOf v ∧ f' = t.2.1 ∧ r' = t.2.2) ∨ (f' = true ∧ n = 0 ∧ r' = t.2.2 ∧ ¬ ∃ v, t.1 = some v ∧ v.length = 8)
theorem took_num {f f' : Bool} {r r' : List Int} {tag n : Int} (hb : Byt r) (ht : tag ≠ 0) (h : NumOut (tk f r tag) n f' r') : Took (numB tag) (SmN 18446744073709551615) f r n f' r' := by
 refine ⟨fun h0 => ?_, fun h0 a0 r1 hg e => ?_⟩
 · rcases h with ⟨v, e1, e2, e3, e4, e5⟩ | ⟨e1, _⟩
   · cases htk : tk f r tag with
     | mk o q =>
       obtain ⟨q1, q2⟩ := q
       rw [htk] at e1 e4 e5
       simp only at e1 e4 e5
       subst e1
       obtain ⟨h1, h2, _, h4, h5⟩ := tk_some hb htk
       have hv := tk_bytS hb htk
       refine ⟨h1, ?_, ?_⟩
       · rw [e3, numB, be8_numOf hv e2, e5]
         exact h4
       · rw [e3]
         exact numOf_lt8 hv e2
   · rw [h0] at e1; cases e1
 · subst h0 e
   rcases h with ⟨v, e1, e2, e3, e4, e5⟩ | ⟨e1, e2⟩
   · rw [tk_put ht (by simp [be8])] at e1 e4 e5
     simp only [Option.some.injEq] at e1 e4 e5
     subst e1
     exact ⟨by rw [e3, numOf_be8 hg.1 (by have := hg.2; omega)], e4, e5⟩
   · exact (e2.2.2 ⟨be8 a0, by rw [tk_put ht (by simp [be8])], rfl⟩).elim
def numV (t : Option (List Int) × Bool × List Int) : Int × Bool × List Int := if t.1.isSome = true ∧ (t.1.getD []).length = 8 then (numOf (t.1.getD []), t.2.1, t.2.2) else (0, true, t.2.2)
theorem NumOut.is {t : Option (List Int) × Bool × List Int} {n : Int} {f' : Bool} {r' : List Int} (h : NumOut t n f' r') : n = (numV t).1 ∧ f' = (numV t).2.1 ∧ r' = (numV t).2.2 := by
 unfold numV
 rcases h with ⟨v, e1, e2, e3, e4, e5⟩ | ⟨e1, e2, e3, e4⟩
 · rw [if_pos (by rw [e1]; exact ⟨rfl, e2⟩), e1]
   exact ⟨e3, e4, e5⟩
 · rw [if_neg]
   · exact ⟨e2, e1, e3⟩
   · rintro ⟨h1, h2⟩
     obtain ⟨v, hv⟩ := Option.isSome_iff_exists.1 h1
     exact e4 ⟨v, hv, by rw [hv] at h2; exact h2⟩
theorem num_out (t : Option (List Int) × Bool × List Int) : NumOut t (numV t).1 (numV t).2.1 (numV t).2.2 := by
 unfold numV
 split
 · rename_i h
   obtain ⟨v, hv⟩ := Option.isSome_iff_exists.1 h.1
   have h2 := h.2
   rw [hv] at h2 ⊢
   exact .inl ⟨v, hv, h2, rfl, rfl, rfl⟩
 · rename_i h
   exact .inr ⟨rfl, rfl, rfl, fun ⟨v, h1, h2⟩ => h (by rw [h1]; exact ⟨rfl, h2⟩)⟩
def smallV (m : Int) (t : Option (List Int) × Bool × List Int) : Int × Bool × List Int := if m < (numV t).1 then (0, true, (numV t).2.2) else numV t
theorem numV_range {f : Bool} {r : List Int} {tag : Int} (hb : Byt r) : 0 ≤ (numV (tk f r tag)).1 ∧ (numV (tk f r tag)).1 ≤ 18446744073709551615 := by
 unfold numV
 split
 · rename_i h
   refine numOf_lt8 ?_ h.2
   obtain ⟨v, hv⟩ := Option.isSome_iff_exists.1 h.1
   rw [hv]
   cases htk : tk f r tag with
   | mk o q =>
     rw [htk] at hv
     simp only at hv
     subst hv
     exact tk_bytS hb htk
 · show (0 : Int) ≤ 0 ∧ (0 : Int) ≤ 18446744073709551615
   decide
theorem took_small {f f' : Bool} {r r' : List Int} {tag n m : Int} (hm : m ≤ 18446744073709551615) (h : Took (numB tag) (SmN 18446744073709551615) f r n f' r') (hn : n ≤ m) : Took (numB tag) (SmN m) f r n f' r' :=
 ⟨fun h0 => by obtain ⟨h1, h2, h3⟩ := h.1 h0; exact ⟨h1, h2, h3.1, hn⟩, fun h0 a0 r1 hg e => h.2 h0 a0 r1 ⟨hg.1, by have := hg.2; omega⟩ e⟩
theorem took_over {f f' : Bool} {r r' : List Int} {tag n m : Int} (hm : m ≤ 18446744073709551615) (h : Took (numB tag) (SmN 18446744073709551615) f r n f' r') (hn : m < n) : Took (numB tag) (SmN m) f r 0 true r' :=
 ⟨fun h0 => by (cases h0), fun h0 a0 r1 hg e => by
   obtain ⟨h1, _⟩ := h.2 h0 a0 r1 ⟨hg.1, by have := hg.2; omega⟩ e
   have := hg.2
   omega⟩
theorem took_numV {f : Bool} {r : List Int} {tag : Int} (hb : Byt r) (ht : tag ≠ 0) : Took (numB tag) (SmN 18446744073709551615) f r (numV (tk f r tag)).1 (numV (tk f r tag)).2.1 (numV (tk f r tag)).2.2 := took_num hb ht (num_out _)
theorem took_smallV {f : Bool} {r : List Int} {tag m : Int} (hb : Byt r) (ht : tag ≠ 0) (hm : m ≤ 18446744073709551615) : Took (numB tag) (SmN m) f r (smallV m (tk f r tag)).1 (smallV m (tk f r tag)).2.1 (smallV m (tk f r tag)).2.2 := by
 have h := took_numV (f := f) hb ht
 unfold smallV
 split
 · rename_i hc
   exact took_over hm h hc
 · rename_i hc
   exact took_small hm h (by omega)
end Go.Proofs.YtcjiofhjognklaaGreat.Tlv
namespace Go.Proofs.YtcjiofhjognklaaGreat.Tlv
open Go.RowKit
set_option maxRecDepth 100000
set_option linter.deprecated false
set_option linter.unusedVariables false
set_option linter.unusedSimpArgs false
def valsB (t : Int) (ls : List (List Int)) : List Int := ls.flatMap (valB t)
def snds (v : List Int) : List (List Int) := (items v).map (fun x => x.2)
theorem valsB_cons (t : Int) (x : List Int) (ls : List (List Int)) : valsB t (x :: ls) = valB t x ++ valsB t ls := by unfold valsB; rw [List.flatMap_cons]
theorem allT_nil (t : Int) : allT t [] = true ∧ snds [] = [] := by
 unfold allT snds
 rw [items_no (l := []) rfl, endP_no (l := []) rfl]
 simp
theorem allT_stand {t : Int} {v : List Int} (h : stands v = true) : allT t v = (v.getD 0 0 == t && allT t (v.drop (5 + nv v))) ∧ snds v = (v.drop 5).take (nv v) :: snds (v.drop (5 + nv v)) := by
 have hp := stands_parts h
 unfold allT snds
 rw [items_yes h, endP_yes h]
 refine ⟨?_, rfl⟩
 simp only [List.all_cons, List.length_drop]
 have e : decide (5 + nv v + endP (v.drop (5 + nv v)) = v.length) = decide (endP (v.drop (5 + nv v)) = v.length - (5 + nv v)) := by
   rw [decide_eq_decide]
   omega
 rw [e]
 simp only [Bool.and_assoc]
theorem allT_not {t : Int} {v : List Int} (h : stands v = false) (ho : allT t v = true) : v = [] := by
 unfold allT at ho
 rw [items_no h, endP_no h] at ho
 simp at ho
 exact List.eq_nil_of_length_eq_zero ho.symm
theorem allT_inv {t : Int} : ∀ (n : Nat) (v : List Int), v.length ≤ n → Byt v → allT t v = true → v = valsB t (snds v) ∧ ∀ x ∈ snds v, x.length ≤ 4194304 ∧ Byt x := by
 intro n
 induction n with
 | zero =>
   intro v h hb ho
   obtain rfl : v = [] := List.eq_nil_of_length_eq_zero (by omega)
   rw [(allT_nil t).2]
   exact ⟨rfl, fun a ha => by simp at ha⟩
 | succ n ih =>
   intro v h hb ho
   cases hst : stands v with
   | false =>
     obtain rfl := allT_not hst ho
     rw [(allT_nil t).2]
     exact ⟨rfl, fun a ha => by simp at ha⟩
   | true =>
     have hp := stands_parts hst
     obtain ⟨h1, h2⟩ := allT_stand (t := t) hst
     rw [h1] at ho
     obtain ⟨h3, h6⟩ := Bool.and_eq_true_iff.1 ho
     have h3 : v.getD 0 0 = t := by simpa using h3
     have htk : tk false v t = (some ((v.drop 5).take (nv v)), (false, v.drop (5 + nv v))) := by unfold tk; rw [if_neg (by decide), if_pos ⟨hst, h3⟩]
     obtain ⟨_, _, _, h7, h8⟩ := tk_some hb htk
     have hbs : Byt ((v.drop 5).take (nv v)) := fun x hx => hb x (List.mem_of_mem_drop (List.mem_of_mem_take hx))
     obtain ⟨i1, i2⟩ := ih (v.drop (5 + nv v)) (by rw [List.length_drop]; omega) (fun x hx => hb x (List.mem_of_mem_drop hx)) h6
     rw [h2]
     refine ⟨?_, ?_⟩
     · rw [valsB_cons, ← i1]
       exact h7
     · intro a ha
       rcases List.mem_cons.1 ha with rfl | ha
       · exact ⟨h8, hbs⟩
       · exact i2 a ha
theorem allT_vals {t : Int} (ht : t ≠ 0) : ∀ ls : List (List Int), (∀ x ∈ ls, x.length ≤ 4194304) → allT t (valsB t ls) = true ∧ snds (valsB t ls) = ls
 | [], _ => allT_nil t
 | a :: l, h => by
   obtain ⟨i1, i2⟩ := allT_vals ht l fun x hx => h x (List.mem_cons_of_mem _ hx)
   have ha := h a (List.mem_cons_self ..)
   have e1 : tk false (valsB t (a :: l)) t = (some a, (false, valsB t l)) := by
     rw [valsB_cons]
     exact tk_put ht ha
   obtain ⟨h1, h2, h3, h4⟩ := tk_yes e1
   obtain ⟨h5, h6⟩ := allT_stand (t := t) h1
   rw [← h4, i1] at h5
   rw [← h3, ← h4, i2] at h6
   rw [h2] at h5
   exact ⟨by rw [h5]; simp, h6⟩
theorem valB_cancel {t : Int} {x x' y y' : List Int} (ht : t ≠ 0) (hx : x.length ≤ 4194304) (hx' : x'.length ≤ 4194304) (h : valB t x ++ y = valB t x' ++ y') : x = x' ∧ y = y' := by
 have e1 := tk_put (tag := t) (xs := x) (r := y) ht hx
 have e2 := tk_put (tag := t) (xs := x') (r := y') ht hx'
 rw [h, e2] at e1
 simp only [Prod.mk.injEq, Option.some.injEq, true_and] at e1
 exact ⟨e1.1.symm, e1.2.symm⟩
theorem step_vals {t : Int} {r : List Int} (ht : t ≠ 0) (hb : Byt r) (hst : stands r = true) :
   ((tk false r t).2.1 = false ∧ r = valB t ((tk false r t).1.getD []) ++ (tk false r t).2.2 ∧ (tk false r t).2.2.length < r.length ∧ ((tk false r t).1.getD []).length ≤ 4194304) ∨
   ((tk false r t).2.1 = true ∧ (tk false r t).2.2 = r ∧ ∀ l : List (List Int), (∀ a ∈ l, a.length ≤ 4194304) → r ≠ valsB t l) := by
 cases htk : tk false r t with
 | mk o q =>
   obtain ⟨f1, r1⟩ := q
   cases o with
   | none =>
     obtain ⟨x1, x2⟩ := tk_none htk
     refine .inr ⟨x1, x2, fun l hl e => ?_⟩
     cases l with
     | nil => rw [e] at hst; simp [valsB, stands] at hst
     | cons a l' =>
       rw [e, valsB_cons, tk_put ht (hl a (List.mem_cons_self ..))] at htk
       simp at htk
   | some bs =>
     obtain ⟨_, h2, _, h4, h5⟩ := tk_some hb htk
     refine .inl ⟨h2, h4, ?_, h5⟩
     have := congrArg List.length h4
     rw [List.length_append, valB_length] at this
     show r1.length < _
     omega
end Go.Proofs.YtcjiofhjognklaaGreat.Tlv
namespace Go.Proofs.YtcjiofhjognklaaGreat
open Go.RowKit Go.ChangeShapes Go.WideShapes Go.Deep Go.Joins
set_option maxRecDepth 100000
set_option linter.unusedVariables false
set_option linter.unusedSimpArgs false
section
variable {H : Type} {enc : TypeId × Value → H} {w : World} {base : Nat} {spare : Nat → Bool} {held : Bool}
theorem open_at {fuel : Nat} {cs : List Value} {x : DataW H × List MemPlace} (h : DataW.trod enc Tryz.prog w base spare held fuel 67 cs = some x) : ∃ r : At, cs = r.cells ∧ r.t.length ≤ 9223372036854775807 ∧ r.v.length ≤ 9223372036854775807 := by
 obtain ⟨y0, y1, n, _, hl, h0, h1⟩ := trod_struct2 Tryz.underlying67 h
 have e0 : Tryz.prog.cellsOf 9 = 1 := by kernel_rfl
 have e2 : Tryz.prog.cellsOf 67 = 2 := by kernel_rfl
 simp only [e0] at h0 h1
 rw [e2] at hl
 match cs, hl with
 | [a, b], _ =>
   obtain ⟨s0, z0, _, g0⟩ := DataW.trod_string Tryz.underlying9 h0
   obtain ⟨s1, z1, _, g1⟩ := DataW.trod_string Tryz.underlying9 h1
   simp at z0 z1
   subst z0; subst z1
   refine ⟨⟨s0.data.toList, s1.data.toList⟩, by unfold At.cells; rw [data_sx, data_sx], ?_, ?_⟩
   · show s0.data.toList.length ≤ _
     rw [Array.length_toList]
     exact g0
   · show s1.data.toList.length ≤ _
     rw [Array.length_toList]
     exact g1
theorem open_atsC {fuel : Nat} {cs : List Value} {x : DataW H × List MemPlace} (hf : DataW.trod enc Tryz.prog w base spare held fuel 23 cs = some x) :
   ∃ (v : Value) (l : List At), cs = [v] ∧ RdV w v l ∧ l.length ≤ 9223372036854775807 ∧ Sm l := by
 have e2 : Tryz.prog.cellsOf 67 = 2 := by kernel_rfl
 rcases open_slice Tryz.underlying23 hf with ⟨hcs, _⟩ | ⟨a, n, c, m, k, D, Pl, hcs, hb, hl, hm, hmm, hxe, hi⟩
 · exact ⟨_, [], hcs, RdV.nil _, by simp, fun x hx => by simp at hx⟩
 · rw [e2] at hi
   have hl0 := hl
   have hm0 := hm
   have hle : n ≤ m := by rw [hmm]; split <;> omega
   have hel : ∀ i, i < n → ∃ r : At, (r.t.length ≤ 9223372036854775807 ∧ r.v.length ≤ 9223372036854775807) ∧ ∀ j u, r.cells[j]? = some u → w.cell? (a.add (i * 2 + j)) = some u := fun i hin => by
     obtain ⟨cs', hc, ht⟩ := hi i (by omega)
     obtain ⟨r, rfl, hr⟩ := open_at ht
     obtain ⟨_, _, hat⟩ := World.cells?_some hc
     refine ⟨r, hr, fun j u hu => ?_⟩
     have hj : j < 2 := (List.getElem?_eq_some_iff.1 hu).1
     rw [← Go.Deep.add_add, hat j hj, hu]
   have hch : ∃ l : List At, l.length = n ∧ Sm l ∧ ∀ i, i < n → ∀ j u, (l.getD i default).cells[j]? = some u → w.cell? (a.add (i * 2 + j)) = some u := by
     have hnm : n ≤ 9223372036854775807 := Nat.le_trans hl hm
     clear hi hle hl hm hmm hf hcs hxe hl0
     induction n with
     | zero => exact ⟨[], rfl, fun q hq => by simp at hq, fun i hi => by omega⟩
     | succ n ih =>
       obtain ⟨l, hl, h0, h1⟩ := ih (fun i hi => hel i (by omega)) (by omega)
       obtain ⟨r, hr, h2⟩ := hel n (by omega)
       refine ⟨l ++ [r], by simp [hl], fun q hq => ?_, fun i hi => ?_⟩
       · rcases List.mem_append.1 hq with h | h
         · exact h0 q h
         · rw [List.mem_singleton.1 h]; exact hr
       rcases Nat.lt_or_ge i n with hin | hin
       · have e : (l ++ [r]).getD i default = l.getD i default := by rw [List.getD_eq_getElem?_getD, List.getD_eq_getElem?_getD, List.getElem?_append_left (by omega)]
         rw [e]; exact h1 i hin
       · have e : (l ++ [r]).getD i default = r := by rw [List.getD_eq_getElem?_getD, List.getElem?_append_right (by omega), show i - l.length = 0 from by omega]; rfl
         rw [e]
         have : i = n := by omega
         subst this
         exact h2
   obtain ⟨l, hll, hsm, hle2⟩ := hch
   refine ⟨.slice (some a) n c, l, hcs, ⟨some a, c, by rw [hll], ⟨fun h => (by cases h), by rw [hll]; exact hl0, hm0⟩, fun hp => ?_⟩, by rw [hll]; exact Nat.le_trans hl hm, hsm⟩
   obtain ⟨b, off, spot⟩ := a
   have hc := hle2 0 (by omega) 0 _ rfl
   have hspot : spot = none := by simpa [Addr.add] using World.cell?_spot hc
   subst hspot
   have hb : b < w.heap.size := World.block_lt_of_cell? w _ hc
   refine ⟨b, off, rfl, hb, fun j hj i u hu => ?_⟩
   have := hle2 j (by omega) i u hu
   rw [Addr.add_mid, ← Nat.add_assoc] at this
   exact this
end
end Go.Proofs.YtcjiofhjognklaaGreat
namespace Go.Proofs.YtcjiofhjognklaaGreat.Tlv
open Go.RowKit Go.ChangeShapes Go.WideShapes Go.Deep Go.Joins
set_option maxRecDepth 100000
set_option linter.unusedVariables false
set_option linter.unusedSimpArgs false
theorem spot_none {w : World} {x : Addr} {v : Value} (hc : w.cell? (x.add 0) = some v) : ∃ b off, x = ⟨b, off, none⟩ ∧ b < w.heap.size := by
 obtain ⟨b, off, spot⟩ := x
 have hspot : spot = none := by simpa [Addr.add] using World.cell?_spot hc
 subst hspot
 exact ⟨b, off, rfl, World.block_lt_of_cell? w _ hc⟩
section
variable {H : Type} {enc : TypeId × Value → H} {w : World} {base : Nat} {spare : Nat → Bool} {held : Bool}
theorem open_bytes {fuel : Nat} {cs : List Value} {x : DataW H × List MemPlace} (h : DataW.trod enc Tryz.prog w base spare held fuel 25 cs = some x) :
   ∃ (A : Option Addr) (c : Nat) (l : List Int), cs = [.slice A l.length c] ∧ Rd w w.heap.size A l ∧ Byt l ∧ l.length ≤ c ∧ c ≤ maxLen := by
 rcases open_ints Tryz.underlying25 Tryz.underlying5 (by kernel_rfl) h with ⟨hcs, _⟩ | ⟨a, len, cap, zs, hcs, _, hl, hm, hz, _, hcell, hwz⟩
 · exact ⟨none, 0, [], hcs, Rd.nil, fun x hx => by simp at hx, Nat.le_refl _, Nat.zero_le _⟩
 · have hz1 : len ≤ zs.length := by rw [hz]; split <;> omega
   have hll : (zs.take len).length = len := by rw [List.length_take]; omega
   refine ⟨some a, cap, zs.take len, by rw [hll]; exact hcs, fun hp => ?_, fun n hn => ?_, by omega, hm⟩
   · obtain ⟨b, off, rfl, hb⟩ := spot_none (hcell 0 (by omega))
     refine ⟨b, off, rfl, hb, fun j hj => ?_⟩
     have := hcell j (by omega)
     rw [show (⟨b, off, none⟩ : Addr).add j = ⟨b, off + j, none⟩ from by unfold Addr.add; by_cases h : j = 0 <;> simp [h]] at this
     rw [this, List.getD_eq_getElem?_getD, List.getD_eq_getElem?_getD, List.getElem?_take_of_lt (by omega)]
   · have := hwz n (List.mem_of_mem_take hn)
     simp [Lit.wf, IntKind.min, IntKind.max, IntKind.signed, IntKind.bits] at this
     omega
theorem open_bytes2 {v : Value} {d : DataW H} {p : List MemPlace} (hv : ∃ A n c, v = .slice A n c) (h : DataW.Trod enc Tryz.prog w base spare held 25 v d p) :
   ∃ (A : Option Addr) (c : Nat) (l : List Int), v = .slice A l.length c ∧ Rd w w.heap.size A l ∧ Byt l ∧ l.length ≤ c ∧ c ≤ 9223372036854775807 := by
 obtain ⟨A, n, c, rfl⟩ := hv
 obtain ⟨fuel, hf⟩ := h
 obtain ⟨A', c', l, e, h1, h2, h3, h4⟩ := open_bytes hf
 simp only [Value.cells, List.cons.injEq, and_true] at e
 exact ⟨A', c', l, e, h1, h2, h3, h4⟩
theorem open_bytesN {fuel : Nat} {cs : List Value} {x : DataW H × List MemPlace} (h : DataW.trod enc Tryz.prog w base spare held fuel 25 cs = some x) :
   ∃ (A : Option Addr) (c : Nat) (l : List Int), cs = [.slice A l.length c] ∧ Rd w w.heap.size A l ∧ Byt l ∧ l.length ≤ c ∧ c ≤ maxLen ∧ (A = none → c = 0) := by
 rcases open_ints Tryz.underlying25 Tryz.underlying5 (by kernel_rfl) h with ⟨hcs, _⟩ | ⟨a, len, cap, zs, hcs, _⟩
 · exact ⟨none, 0, [], hcs, Rd.nil, fun x hx => by simp at hx, Nat.le_refl _, Nat.zero_le _, fun _ => rfl⟩
 · obtain ⟨A, c, l, e, h1, h2, h3, h4⟩ := open_bytes h
   refine ⟨A, c, l, e, h1, h2, h3, h4, fun hA => ?_⟩
   rw [e] at hcs
   simp only [List.cons.injEq, Value.slice.injEq, and_true] at hcs
   rw [hA] at hcs
   cases hcs.1
end
end Go.Proofs.YtcjiofhjognklaaGreat.Tlv
