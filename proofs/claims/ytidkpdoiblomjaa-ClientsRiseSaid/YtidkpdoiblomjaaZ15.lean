/- How two attributes stand, by both. -/
import Derived.Test.YtidkpdoiblomjaaZ14
import Derived.StillTailTactics
import Derived.Deep.LoopGhost
import Derived.Lib.SlicesCompact
import Derived.Lib.SliceRun
import Derived.Lib.LazyBuf
import Derived.Shelf.SlicesE.Kit
import Derived.Shelf.SlicesE.Equal
import Derived.Laws.StructEq
import Derived.Shelf.SlicesQ.IndexFunc
import Derived.Shelf.SlicesQ.Contains
import Derived.Ground.SlgfProg
import Derived.Ground.SlgqProg
namespace Go.Proofs.Ytidkpdoiblomjaa
open Go.RowKit
set_option linter.unusedVariables false
set_option linter.unusedSimpArgs false
set_option maxHeartbeats 4000000 in
theorem less_any (x y : At) (w : World) : Calls Try.prog 64 #[x.val, y.val] w fun e w' => e = .returned (.bool (ltA x y)) ∧ Below w.heap.size w w' := by
 have hb0 : Below w.heap.size w ((w.alloc (.cells #[.string (sx x.t), .string (sx x.v)] 117)).alloc (.cells #[.string (sx y.t), .string (sx y.v)] 117)) := ((Below.refl _ _).alloc (Nat.le_refl _) _).alloc (by simp) _
 have e1 := bless_list x.t y.t
 have e2 : ((sx x.t).toList == (sx y.t).toList) = (x.t == y.t) := by rw [sx_list, sx_list]
 have e3 := bless_list x.v y.v
 cases h1 : bless x.t y.t with
 | true =>
   have HC : Hid (ltA x y = true) := Lib.hid (ltA_iff.2 (.inl h1))
   rw [h1] at e1
   clear e2 e3 h1
   go_enter Try.func64, Try.ntmps64
   go_wp2
   go_ret
   exact ⟨by rw [HC.out]; rfl, hb0⟩
 | false =>
   rw [h1] at e1
   cases h2 : (x.t == y.t) with
   | false =>
     have HC : Hid (ltA x y = false) := Lib.hid (by unfold ltA; rw [h1, h2]; rfl)
     rw [h2] at e2
     clear e3 h1 h2
     go_enter Try.func64, Try.ntmps64
     go_wp2
     go_ret
     exact ⟨by rw [HC.out]; rfl, hb0⟩
   | true =>
     have HC : Hid (ltA x y = bless x.v y.v) := Lib.hid (by unfold ltA; rw [h1, h2]; rfl)
     generalize hbb : bless x.v y.v = b at *
     clear hbb
     obtain ⟨xt, xv⟩ := x
     obtain ⟨yt, yv⟩ := y
     dsimp only at *
     obtain rfl := beq_iff_eq.1 h2
     clear h1 h2 e2
     go_enter Try.func64, Try.ntmps64
     go_wp2
     go_ret
     exact ⟨by rw [HC.out]; rfl, hb0⟩
set_option maxHeartbeats 4000000 in
theorem or_any (a b : Int) (g : Nat) (w : World) (hg : Blk w g 3 #[.int .i64 a, .int .i64 b]) : Calls Try.prog 107 #[.slice (some ⟨g, 0, none⟩) 2 2] w fun e w' => e = .returned (.int .i64 (if a = 0 then b else a)) ∧ w = w' := by
 have c0 : w.cell? ⟨g, 0, none⟩ = some (.int .i64 a) := hg.cell 0
 have c1 : w.cell? ⟨g, 1, none⟩ = some (.int .i64 b) := hg.cell 1
 clear hg
 by_cases ha : a = 0
 · subst ha
   rw [if_pos rfl]
   by_cases hb : b = 0
   · subst hb
     go_enter Try.func107, Try.ntmps107
     go_wp2
     refine wp_loop_rounds 3 ?_
     rw [rounds_succ]
     go_wp2
     rw [rounds_succ]
     go_wp2
     rw [rounds_succ]
     go_wp2
     go_ret
     exact ⟨rfl, rfl⟩
   · have hb2 : (b != 0) = true := by simpa using hb
     clear hb
     go_enter Try.func107, Try.ntmps107
     go_wp2
     refine wp_loop_rounds 2 ?_
     rw [rounds_succ]
     go_wp2
     rw [rounds_succ]
     go_wp2
     go_ret
     exact ⟨rfl, rfl⟩
 · rw [if_neg ha]
   have ha2 : (a != 0) = true := by simpa using ha
   clear ha
   go_enter Try.func107, Try.ntmps107
   go_wp2
   refine wp_loop_rounds 1 ?_
   rw [rounds_succ]
   go_wp2
   go_ret
   exact ⟨rfl, rfl⟩
theorem cmpS_still (a b : List UInt8) (w : World) : Calls Try.prog 108 #[.string (sx a), .string (sx b)] w fun e w' => e = .returned (.int .i64 (cmpB a b)) ∧ w' = w := (cmpS_any a b w).mono fun _ _ h => ⟨h.1, h.2.symm⟩
set_option maxRecDepth 100000 in
set_option maxHeartbeats 1000000 in
theorem compare_any (x y : At) (w : World) : Calls Try.prog 96 #[x.val, y.val] w fun e w' => e = .returned (.int .i64 (cmpA x y)) ∧
   w' = ((((w.alloc (.cells #[.string (sx x.t), .string (sx x.v)] 117)).alloc (.cells #[.string (sx y.t), .string (sx y.v)] 117)).alloc (.cells #[.int .i64 (cmpB x.t y.t), .int .i64 (cmpB x.v y.v)] 3)).drew) := by
 have HA := Lib.hid (cmpA_or x y)
 have b0 := (Blk.new w 117 #[.string (sx x.t), .string (sx x.v)]).alloc (.cells #[.string (sx y.t), .string (sx y.v)] 117)
 have b1 := Blk.new (w.alloc (.cells #[.string (sx x.t), .string (sx x.v)] 117)) 117 #[.string (sx y.t), .string (sx y.v)]
 rw [World.size_alloc] at b1
 have HB := Lib.hid (And.intro b0 b1)
 clear b0 b1
 go_enter Try.func96, Try.ntmps96
 go_wp2
 obtain ⟨W, hW⟩ : ∃ W, (w.alloc (.cells #[.string (sx x.t), .string (sx x.v)] 117)).alloc (.cells #[.string (sx y.t), .string (sx y.v)] 117) = W := ⟨_, rfl⟩
 rw [hW] at HB ⊢
 have HW := Lib.hid hW
 clear hW
 have c0 : W.drew.cell? ⟨w.heap.size, 0, none⟩ = some (.string (sx x.t)) := HB.out.1.cell 0
 have c1 : W.drew.cell? ⟨w.heap.size, 1, none⟩ = some (.string (sx x.v)) := HB.out.1.cell 1
 have c2 : W.drew.cell? ⟨w.heap.size + 1, 0, none⟩ = some (.string (sx y.t)) := HB.out.2.cell 0
 have c3 : W.drew.cell? ⟨w.heap.size + 1, 1, none⟩ = some (.string (sx y.v)) := HB.out.2.cell 1
 refine wp_region_still_tail 10 (by kernel_rfl) (by kernel_rfl) ?_
 simp only [List.take_succ_cons, List.take_zero, List.drop_succ_cons, List.drop_zero]
 change wpStill _ _ W.drew _ _ _
 generalize hD : W.drew = D at *
 repeat (first | still_step | still_call (cmpS_still _ _ _))
 try refine wpStill_nil ?_
 have HDD := Lib.hid hD
 clear hD c0 c1 c2 c3 HB
 have h66 := or_any (cmpB x.t y.t) (cmpB x.v y.v) W.heap.size (W.alloc (.cells #[.int .i64 (cmpB x.t y.t), .int .i64 (cmpB x.v y.v)] 3)).drew (Blk.new W _ _)
 rw [← HA.out] at h66
 have H66 := Lib.hid h66
 clear h66
 go_wp2_with (go_at_call 107; (with_reducible refine H66.out.mono ?_); rintro e w2 ⟨rfl, rfl⟩)
 go_ret
 exact ⟨rfl, by rw [HW.out]⟩
end Go.Proofs.Ytidkpdoiblomjaa
namespace Go.Proofs.Ytidkpdoiblomjaa
open Go.RowKit Go.Lib
set_option linter.unusedVariables false
set_option linter.unusedSimpArgs false
theorem at_eta (x y : At) : decide (x = y) = (decide (x.t = y.t) && decide (x.v = y.v)) := by
 cases x; cases y
 simp [Bool.decide_and]
theorem sx_beq (a b : List UInt8) : ((sx a).toList == (sx b).toList) = decide (a = b) := by
 rw [sx_list, sx_list]
 by_cases h : a = b <;> simp [h]
set_option maxRecDepth 100000 in
theorem eqA : EqlAt Try.prog 117 (fun x : At => .agg x.cells.toArray) (fun x y => decide (x = y)) := by
 refine ⟨fun x y w => ?_, GuardAt.agg _ (by kernel_rfl)⟩
 have u9 := Try.underlying9
 have a9 := Try.isAgg9
 have z9 := Try.sizeOf9
 have hS : Try.prog.underlying 117 = some (.struct (Try.prog.fieldsOf 117)) := by kernel_rfl
 have hp : Try.prog.stoodInHeld 117 = false := by kernel_rfl
 have e1 := sx_beq x.t y.t
 have e2 := sx_beq x.v y.v
 show _ = Result.ok (Value.bool (decide (x = y))) w
 rw [at_eta]
 simp only [At.cells]
 rw [run_eql_struct, show (10000 : Nat) = 9999 + 1 from rfl, run_equalIn_agg w 9999 117 _ _ hS hp]
 simp only [Program.fieldsOf, Try.underlying117]
 go_simp
 by_cases h1 : x.t = y.t <;> by_cases h2 : x.v = y.v <;> simp [h1, h2] at e1 e2 ⊢ <;> simp [e1, e2]
theorem below_drew {B : Nat} {a w : World} (h : Below B a w) : Below B a w.drew := ⟨h.os, h.tape, h.output, h.size, h.block⟩
set_option maxRecDepth 100000 in
theorem neqv (x y : At) (w : World) : Sem.run Try.prog (binOp .neq 117 (.agg #[.string (sx x.t), .string (sx x.v)]) (.agg #[.string (sx y.t), .string (sx y.v)])) w = .ok (.bool (!decide (x = y))) w := by
 have u9 := Try.underlying9
 have a9 := Try.isAgg9
 have z9 := Try.sizeOf9
 have hS : Try.prog.underlying 117 = some (.struct (Try.prog.fieldsOf 117)) := by kernel_rfl
 have hp : Try.prog.stoodInHeld 117 = false := by kernel_rfl
 have e1 := sx_beq x.t y.t
 have e2 := sx_beq x.v y.v
 rw [at_eta, run_neq_struct, show (10000 : Nat) = 9999 + 1 from rfl, run_equalIn_agg w 9999 117 _ _ hS hp]
 simp only [Program.fieldsOf, Try.underlying117]
 go_simp
 by_cases h1 : x.t = y.t <;> by_cases h2 : x.v = y.v <;> simp [h1, h2] at e1 e2 ⊢ <;> simp [e1, e2]
theorem grd (op : BinOp) (a b : Operand) (x y : At) (w : World) : Sem.run Try.prog (eqGuard op 117 a b (.agg #[.string (sx x.t), .string (sx x.v)]) (.agg #[.string (sx y.t), .string (sx y.v)])) w = .ok () w := eqA.2 op a b x y w
end Go.Proofs.Ytidkpdoiblomjaa
namespace Go.Proofs.Ytidkpdoiblomjaa
open Go.RowKit Go.Lib Go.Sort
set_option linter.unusedVariables false
set_option linter.unusedSimpArgs false
def RdV (w : World) (v : Value) (l : List At) : Prop := ∃ A c, v = .slice A l.length c ∧ ((A = none → c = 0) ∧ l.length ≤ c ∧ c ≤ maxLen) ∧ RdK kA w w.heap.size A l
theorem RdV.on {w w' : World} {v : Value} {l : List At} (h : RdV w v l) (hb : Below w.heap.size w w') : RdV w' v l := by
 obtain ⟨A, c, e, h0, h1⟩ := h
 exact ⟨A, c, e, h0, h1.on hb⟩
theorem RdV.nil (w : World) : RdV w (.slice none 0 0) [] := ⟨none, 0, rfl, ⟨fun _ => rfl, Nat.le_refl _, Nat.zero_le _⟩, fun h => by simp at h⟩
theorem RowK.rdv {w : World} {base : Nat} {v : Value} {l : List At} (h : RowK kA w base v l) : RdV w v l := by
 obtain ⟨A, c, e, h0, h1⟩ := h.rd0
 refine ⟨A, c, e, ⟨h0, ?_⟩, h1⟩
 rcases h.2 with ⟨e2, hn⟩ | ⟨g, cap, cur, e2, _, _, h5, h6, _⟩
 · rw [e] at e2
   injection e2 with e3 e4 e5
   omega
 · rw [e] at e2
   injection e2 with e3 e4 e5
   subst e5
   exact ⟨h5, h6⟩
theorem empty_row (w : World) : RowK kA (w.alloc (.cells #[] 117)) w.heap.size (.slice (some ⟨w.heap.size, 0, none⟩) 0 0) [] := by
 refine ⟨rfl, .inr ⟨w.heap.size, 0, #[], rfl, Nat.le_refl _, (show (w.heap.push (.cells #[] 117))[w.heap.size]? = _ from Array.getElem?_push_size), Nat.le_refl _, Nat.zero_le _, rfl, rfl⟩⟩
set_option maxRecDepth 100000 in
set_option maxHeartbeats 4000000 in
theorem clone_any (v : Value) (l : List At) (w : World) (hv : RdV w v l) (hl : l.length ≤ 1000000) :
   Calls Try.prog 60 #[v] w fun e w' => ∃ v', e = .returned v' ∧ RowK kA w' w.heap.size v' l ∧ Below w.heap.size w w' := by
 obtain ⟨A, c, rfl, ⟨h0, _, _⟩, hr⟩ := hv
 have q22 : ∀ (w : World) (a : Option Addr) (n c n' c' : Nat), (binOp .eql 45 (.slice a n c) (.slice none n' c')).run Try.prog w = .ok (.bool a.isNone) w := fun w a n c n' c' => Go.Lib.run_eql_slice_nil w 45 117 a n c n' c' Try.underlying45
 cases A with
 | none =>
   have hl0 := rd_none hr
   have hc0 := h0 rfl
   subst hl0 hc0
   clear hr h0
   go_enter Try.func60, Try.ntmps60
   go_wp2
   go_ret
   exact ⟨_, rfl, nil_row kA _ _, Below.refl _ _⟩
 | some ad =>
   have HR := Lib.hid hr
   have HN := Lib.hid (empty_row w)
   have HL := Lib.hid hl
   clear hr h0 hl
   have hrd := HR.out.below ((Below.refl w.heap.size w).alloc (Nat.le_refl _) (.cells #[] 117))
   have hln : ([] : List At).length + l.length ≤ 1000000000 := by have := HL.out; simp; omega
   have hbs : w.heap.size ≤ (w.alloc (.cells #[] 117)).heap.size := by simp
   have HX := Lib.hid (And.intro hrd (And.intro hln hbs))
   clear hrd hln hbs
   go_enter Try.func60, Try.ntmps60
   go_wp2_with (at_builtin; refine wpList_app kA rfl _ _ rfl l rfl HN.out rfl HX.out.1 (fun h => by cases h) HX.out.2.1 HX.out.2.2 ?_; intro v' w' hrow hgrow)
   go_ret
   exact ⟨v', rfl, hrow, ((Below.refl _ _).alloc (Nat.le_refl _) _).trans ((row_below HN.out hgrow (by simp)).mono (Nat.le_refl _))⟩
end Go.Proofs.Ytidkpdoiblomjaa
namespace Go.Proofs.Ytidkpdoiblomjaa
open Go.Shelf Go.RowKit Go.Lib
set_option linter.unusedVariables false
set_option linter.unusedSimpArgs false
def Sm (l : List At) : Prop := ∀ x ∈ l, x.t.length ≤ 9223372036854775807 ∧ x.v.length ≤ 9223372036854775807
end Go.Proofs.Ytidkpdoiblomjaa
