/- How two attributes stand, by both. -/
import Derived.Test.YtniaijgejljjbaaGreatY10
import Derived.StillTailTactics
import Derived.Deep.LoopGhost
import Derived.Lib.SlicesCompact
import Derived.Lib.SliceRun
import Derived.Lib.LazyBuf
import Derived.Shelf.SlicesE.Kit
import Derived.Shelf.SlicesE.Equal
import Derived.Laws.StructEq
import Derived.Shelf.SlicesQ.IndexFunc
import Derived.Shelf.SlicesQ.Contains
import Derived.Ground.SlgfProg
import Derived.Ground.SlgqProg
namespace Go.Proofs.YtniaijgejljjbaaGreat
open Go.RowKit
set_option linter.unusedVariables false
set_option linter.unusedSimpArgs false
set_option maxHeartbeats 4000000 in
theorem less_any (x y : At) (w : World) : Calls Tryz.prog 70 #[x.val, y.val] w fun e w' => e = .returned (.bool (ltA x y)) ∧ Below w.heap.size w w' := by
 have hb0 : Below w.heap.size w ((w.alloc (.cells #[.string (sx x.t), .string (sx x.v)] 99)).alloc (.cells #[.string (sx y.t), .string (sx y.v)] 99)) := ((Below.refl _ _).alloc (Nat.le_refl _) _).alloc (by simp) _
 have e1 := bless_list x.t y.t
 have e2 : ((sx x.t).toList == (sx y.t).toList) = (x.t == y.t) := by rw [sx_list, sx_list]
 have e3 := bless_list x.v y.v
 cases h1 : bless x.t y.t with
 | true =>
   have HC : Hid (ltA x y = true) := Lib.hid (ltA_iff.2 (.inl h1))
   rw [h1] at e1
   clear e2 e3 h1
   go_enter Tryz.func70, Tryz.ntmps70
   go_wp2
   go_ret
   exact ⟨by rw [HC.out]; rfl, hb0⟩
 | false =>
   rw [h1] at e1
   cases h2 : (x.t == y.t) with
   | false =>
     have HC : Hid (ltA x y = false) := Lib.hid (by unfold ltA; rw [h1, h2]; rfl)
     rw [h2] at e2
     clear e3 h1 h2
     go_enter Tryz.func70, Tryz.ntmps70
     go_wp2
     go_ret
     exact ⟨by rw [HC.out]; rfl, hb0⟩
   | true =>
     have HC : Hid (ltA x y = bless x.v y.v) := Lib.hid (by unfold ltA; rw [h1, h2]; rfl)
     generalize hbb : bless x.v y.v = b at *
     clear hbb
     obtain ⟨xt, xv⟩ := x
     obtain ⟨yt, yv⟩ := y
     dsimp only at *
     obtain rfl := beq_iff_eq.1 h2
     clear h1 h2 e2
     go_enter Tryz.func70, Tryz.ntmps70
     go_wp2
     go_ret
     exact ⟨by rw [HC.out]; rfl, hb0⟩
set_option maxHeartbeats 4000000 in
theorem or_any (a b : Int) (g : Nat) (w : World) (hg : Blk w g 3 #[.int .i64 a, .int .i64 b]) : Calls Tryz.prog 98 #[.slice (some ⟨g, 0, none⟩) 2 2] w fun e w' => e = .returned (.int .i64 (if a = 0 then b else a)) ∧ w = w' := by
 have c0 : w.cell? ⟨g, 0, none⟩ = some (.int .i64 a) := hg.cell 0
 have c1 : w.cell? ⟨g, 1, none⟩ = some (.int .i64 b) := hg.cell 1
 clear hg
 by_cases ha : a = 0
 · subst ha
   rw [if_pos rfl]
   by_cases hb : b = 0
   · subst hb
     go_enter Tryz.func98, Tryz.ntmps98
     go_wp2
     refine wp_loop_rounds 3 ?_
     rw [rounds_succ]
     go_wp2
     rw [rounds_succ]
     go_wp2
     rw [rounds_succ]
     go_wp2
     go_ret
     exact ⟨rfl, rfl⟩
   · have hb2 : (b != 0) = true := by simpa using hb
     clear hb
     go_enter Tryz.func98, Tryz.ntmps98
     go_wp2
     refine wp_loop_rounds 2 ?_
     rw [rounds_succ]
     go_wp2
     rw [rounds_succ]
     go_wp2
     go_ret
     exact ⟨rfl, rfl⟩
 · rw [if_neg ha]
   have ha2 : (a != 0) = true := by simpa using ha
   clear ha
   go_enter Tryz.func98, Tryz.ntmps98
   go_wp2
   refine wp_loop_rounds 1 ?_
   rw [rounds_succ]
   go_wp2
   go_ret
   exact ⟨rfl, rfl⟩
theorem cmpS_still (a b : List UInt8) (w : World) : Calls Tryz.prog 99 #[.string (sx a), .string (sx b)] w fun e w' => e = .returned (.int .i64 (cmpB a b)) ∧ w' = w := (cmpS_any a b w).mono fun _ _ h => ⟨h.1, h.2.symm⟩
set_option maxRecDepth 100000 in
set_option maxHeartbeats 1000000 in
theorem compare_any (x y : At) (w : World) : Calls Tryz.prog 91 #[x.val, y.val] w fun e w' => e = .returned (.int .i64 (cmpA x y)) ∧
   w' = ((((w.alloc (.cells #[.string (sx x.t), .string (sx x.v)] 99)).alloc (.cells #[.string (sx y.t), .string (sx y.v)] 99)).alloc (.cells #[.int .i64 (cmpB x.t y.t), .int .i64 (cmpB x.v y.v)] 3)).drew) := by
 have HA := Lib.hid (cmpA_or x y)
 have b0 := (Blk.new w 99 #[.string (sx x.t), .string (sx x.v)]).alloc (.cells #[.string (sx y.t), .string (sx y.v)] 99)
 have b1 := Blk.new (w.alloc (.cells #[.string (sx x.t), .string (sx x.v)] 99)) 99 #[.string (sx y.t), .string (sx y.v)]
 rw [World.size_alloc] at b1
 have HB := Lib.hid (And.intro b0 b1)
 clear b0 b1
 go_enter Tryz.func91, Tryz.ntmps91
 go_wp2
 obtain ⟨W, hW⟩ : ∃ W, (w.alloc (.cells #[.string (sx x.t), .string (sx x.v)] 99)).alloc (.cells #[.string (sx y.t), .string (sx y.v)] 99) = W := ⟨_, rfl⟩
 rw [hW] at HB ⊢
 have HW := Lib.hid hW
 clear hW
 have c0 : W.drew.cell? ⟨w.heap.size, 0, none⟩ = some (.string (sx x.t)) := HB.out.1.cell 0
 have c1 : W.drew.cell? ⟨w.heap.size, 1, none⟩ = some (.string (sx x.v)) := HB.out.1.cell 1
 have c2 : W.drew.cell? ⟨w.heap.size + 1, 0, none⟩ = some (.string (sx y.t)) := HB.out.2.cell 0
 have c3 : W.drew.cell? ⟨w.heap.size + 1, 1, none⟩ = some (.string (sx y.v)) := HB.out.2.cell 1
 refine wp_region_still_tail 10 (by kernel_rfl) (by kernel_rfl) ?_
 simp only [List.take_succ_cons, List.take_zero, List.drop_succ_cons, List.drop_zero]
 change wpStill _ _ W.drew _ _ _
 generalize hD : W.drew = D at *
 repeat (first | still_step | still_call (cmpS_still _ _ _))
 try refine wpStill_nil ?_
 have HDD := Lib.hid hD
 clear hD c0 c1 c2 c3 HB
 have h66 := or_any (cmpB x.t y.t) (cmpB x.v y.v) W.heap.size (W.alloc (.cells #[.int .i64 (cmpB x.t y.t), .int .i64 (cmpB x.v y.v)] 3)).drew (Blk.new W _ _)
 rw [← HA.out] at h66
 have H66 := Lib.hid h66
 clear h66
 go_wp2_with (go_at_call 98; (with_reducible refine H66.out.mono ?_); rintro e w2 ⟨rfl, rfl⟩)
 go_ret
 exact ⟨rfl, by rw [HW.out]⟩
end Go.Proofs.YtniaijgejljjbaaGreat
namespace Go.Proofs.YtniaijgejljjbaaGreat
open Go.RowKit Go.Lib
set_option linter.unusedVariables false
set_option linter.unusedSimpArgs false
theorem at_eta (x y : At) : decide (x = y) = (decide (x.t = y.t) && decide (x.v = y.v)) := by
 cases x; cases y
 simp [Bool.decide_and]
theorem sx_beq (a b : List UInt8) : ((sx a).toList == (sx b).toList) = decide (a = b) := by
 rw [sx_list, sx_list]
 by_cases h : a = b <;> simp [h]
set_option maxRecDepth 100000 in
theorem eqA : EqlAt Tryz.prog 99 (fun x : At => .agg x.cells.toArray) (fun x y => decide (x = y)) := by
 refine ⟨fun x y w => ?_, GuardAt.agg _ (by kernel_rfl)⟩
 have u9 := Tryz.underlying9
 have a9 := Tryz.isAgg9
 have z9 := Tryz.sizeOf9
 have hS : Tryz.prog.underlying 99 = some (.struct (Tryz.prog.fieldsOf 99)) := by kernel_rfl
 have hp : Tryz.prog.stoodInHeld 99 = false := by kernel_rfl
 have e1 := sx_beq x.t y.t
 have e2 := sx_beq x.v y.v
 show _ = Result.ok (Value.bool (decide (x = y))) w
 rw [at_eta]
 simp only [At.cells]
 rw [run_eql_struct, show (10000 : Nat) = 9999 + 1 from rfl, run_equalIn_agg w 9999 99 _ _ hS hp]
 simp only [Program.fieldsOf, Tryz.underlying99]
 go_simp
 by_cases h1 : x.t = y.t <;> by_cases h2 : x.v = y.v <;> simp [h1, h2] at e1 e2 ⊢ <;> simp [e1, e2]
theorem below_drew {B : Nat} {a w : World} (h : Below B a w) : Below B a w.drew := ⟨h.os, h.tape, h.output, h.size, h.block⟩
set_option maxRecDepth 100000 in
theorem neqv (x y : At) (w : World) : Sem.run Tryz.prog (binOp .neq 99 (.agg #[.string (sx x.t), .string (sx x.v)]) (.agg #[.string (sx y.t), .string (sx y.v)])) w = .ok (.bool (!decide (x = y))) w := by
 have u9 := Tryz.underlying9
 have a9 := Tryz.isAgg9
 have z9 := Tryz.sizeOf9
 have hS : Tryz.prog.underlying 99 = some (.struct (Tryz.prog.fieldsOf 99)) := by kernel_rfl
 have hp : Tryz.prog.stoodInHeld 99 = false := by kernel_rfl
 have e1 := sx_beq x.t y.t
 have e2 := sx_beq x.v y.v
 rw [at_eta, run_neq_struct, show (10000 : Nat) = 9999 + 1 from rfl, run_equalIn_agg w 9999 99 _ _ hS hp]
 simp only [Program.fieldsOf, Tryz.underlying99]
 go_simp
 by_cases h1 : x.t = y.t <;> by_cases h2 : x.v = y.v <;> simp [h1, h2] at e1 e2 ⊢ <;> simp [e1, e2]
theorem grd (op : BinOp) (a b : Operand) (x y : At) (w : World) : Sem.run Tryz.prog (eqGuard op 99 a b (.agg #[.string (sx x.t), .string (sx x.v)]) (.agg #[.string (sx y.t), .string (sx y.v)])) w = .ok () w := eqA.2 op a b x y w
end Go.Proofs.YtniaijgejljjbaaGreat
namespace Go.Proofs.YtniaijgejljjbaaGreat
open Go.RowKit Go.Lib Go.Sort
set_option linter.unusedVariables false
set_option linter.unusedSimpArgs false
def RdV (w : World) (v : Value) (l : List At) : Prop := ∃ A c, v = .slice A l.length c ∧ ((A = none → c = 0) ∧ l.length ≤ c ∧ c ≤ maxLen) ∧ RdK kA w w.heap.size A l
theorem RdV.on {w w' : World} {v : Value} {l : List At} (h : RdV w v l) (hb : Below w.heap.size w w') : RdV w' v l := by
 obtain ⟨A, c, e, h0, h1⟩ := h
 exact ⟨A, c, e, h0, h1.on hb⟩
theorem RdV.nil (w : World) : RdV w (.slice none 0 0) [] := ⟨none, 0, rfl, ⟨fun _ => rfl, Nat.le_refl _, Nat.zero_le _⟩, fun h => by simp at h⟩
theorem RowK.rdv {w : World} {base : Nat} {v : Value} {l : List At} (h : RowK kA w base v l) : RdV w v l := by
 obtain ⟨A, c, e, h0, h1⟩ := h.rd0
 refine ⟨A, c, e, ⟨h0, ?_⟩, h1⟩
 rcases h.2 with ⟨e2, hn⟩ | ⟨g, cap, cur, e2, _, _, h5, h6, _⟩
 · rw [e] at e2
   injection e2 with e3 e4 e5
   omega
 · rw [e] at e2
   injection e2 with e3 e4 e5
   subst e5
   exact ⟨h5, h6⟩
theorem empty_row (w : World) : RowK kA (w.alloc (.cells #[] 99)) w.heap.size (.slice (some ⟨w.heap.size, 0, none⟩) 0 0) [] := by
 refine ⟨rfl, .inr ⟨w.heap.size, 0, #[], rfl, Nat.le_refl _, (show (w.heap.push (.cells #[] 99))[w.heap.size]? = _ from Array.getElem?_push_size), Nat.le_refl _, Nat.zero_le _, rfl, rfl⟩⟩
set_option maxRecDepth 100000 in
set_option maxHeartbeats 4000000 in
theorem clone_any (v : Value) (l : List At) (w : World) (hv : RdV w v l) (hl : l.length ≤ 1000000) :
   Calls Tryz.prog 59 #[v] w fun e w' => ∃ v', e = .returned v' ∧ RowK kA w' w.heap.size v' l ∧ Below w.heap.size w w' := by
 obtain ⟨A, c, rfl, ⟨h0, _, _⟩, hr⟩ := hv
 have q22 : ∀ (w : World) (a : Option Addr) (n c n' c' : Nat), (binOp .eql 40 (.slice a n c) (.slice none n' c')).run Tryz.prog w = .ok (.bool a.isNone) w := fun w a n c n' c' => Go.Lib.run_eql_slice_nil w 40 99 a n c n' c' Tryz.underlying40
 cases A with
 | none =>
   have hl0 := rd_none hr
   have hc0 := h0 rfl
   subst hl0 hc0
   clear hr h0
   go_enter Tryz.func59, Tryz.ntmps59
   go_wp2
   go_ret
   exact ⟨_, rfl, nil_row kA _ _, Below.refl _ _⟩
 | some ad =>
   have HR := Lib.hid hr
   have HN := Lib.hid (empty_row w)
   have HL := Lib.hid hl
   clear hr h0 hl
   have hrd := HR.out.below ((Below.refl w.heap.size w).alloc (Nat.le_refl _) (.cells #[] 99))
   have hln : ([] : List At).length + l.length ≤ 1000000000 := by have := HL.out; simp; omega
   have hbs : w.heap.size ≤ (w.alloc (.cells #[] 99)).heap.size := by simp
   have HX := Lib.hid (And.intro hrd (And.intro hln hbs))
   clear hrd hln hbs
   go_enter Tryz.func59, Tryz.ntmps59
   go_wp2_with (at_builtin; refine wpList_app kA rfl _ _ rfl l rfl HN.out rfl HX.out.1 (fun h => by cases h) HX.out.2.1 HX.out.2.2 ?_; intro v' w' hrow hgrow)
   go_ret
   exact ⟨v', rfl, hrow, ((Below.refl _ _).alloc (Nat.le_refl _) _).trans ((row_below HN.out hgrow (by simp)).mono (Nat.le_refl _))⟩
end Go.Proofs.YtniaijgejljjbaaGreat
namespace Go.Proofs.YtniaijgejljjbaaGreat
open Go.Shelf Go.RowKit Go.Lib
set_option linter.unusedVariables false
set_option linter.unusedSimpArgs false
def Tryz.cfAt_ren : Go.Shelf.Ren := ⟨fun | 8 => 83 | 6 => 92 | n => n, fun | 22 => 40 | 23 => 99 | 25 => 97 | 4 => 4 | 3 => 3 | 0 => 0 | n => n, fun | n => n⟩
theorem Tryz.cfAt : Go.Proofs.SlLaysH0.n8 Tryz.prog Tryz.cfAt_ren := {
 mixed := by kernel_rfl
 f6 := ⟨Tryz.f92.name, by decide, Tryz.func92.trans (congrArg some (by kernel_rfl))⟩
 f8 := ⟨Tryz.f83.name, by decide, Tryz.func83.trans (congrArg some (by kernel_rfl))⟩
 t0 := Tryz.underlying0
 a0 := Tryz.isAgg0
 z0 := Tryz.sizeOf0
 v0 := Tryz.zeroValue0
 t3 := Tryz.underlying3
 a3 := Tryz.isAgg3
 z3 := Tryz.sizeOf3
 v3 := Tryz.zeroValue3
 t4 := Tryz.underlying4
 a4 := Tryz.isAgg4
 z4 := Tryz.sizeOf4
 v4 := Tryz.zeroValue4
 t22 := Tryz.underlying40
 a22 := Tryz.isAgg40
 z22 := Tryz.sizeOf40
 v22 := Tryz.zeroValue40
 t25 := Tryz.underlying97
 a25 := Tryz.isAgg97
 z25 := Tryz.sizeOf97
 v25 := Tryz.zeroValue97 }
set_option maxHeartbeats 1000000 in
theorem idx_empty (a : Option Addr) (c : Nat) (fv : Value) (w : World) : Calls Tryz.prog 92 #[.slice a 0 c, fv] w fun e w' => e = .returned (.int .i64 (-1)) ∧ w = w' := by
 go_enter Tryz.func92, Tryz.ntmps92
 go_wp2
 refine wp_loop_rounds 1 ?_
 rw [rounds_succ]
 go_wp2
 go_ret
 exact ⟨rfl, rfl⟩
set_option maxHeartbeats 1000000 in
theorem cf_empty (a : Option Addr) (c : Nat) (fv : Value) (w : World) : Calls Tryz.prog 83 #[.slice a 0 c, fv] w fun e w' => e = .returned (.bool false) ∧ w = w' := by
 go_enter Tryz.func83, Tryz.ntmps83
 go_wp2_with (go_at_call 92; (with_reducible refine (idx_empty _ _ _ _).mono ?_); rintro e w' ⟨rfl, rfl⟩)
 go_ret
 exact ⟨rfl, rfl⟩
theorem rd_hc {α : Type} [Inhabited α] (f : α → At) {w : World} {n b off : Nat} {zs : List α} (hr : RdK kA w n (some ⟨b, off, none⟩) (zs.map f)) : ∀ j, j < zs.length → ∀ i v, (At.cells (f zs[j]!))[i]? = some v → w.cell? ⟨b, off + j * 2 + i, none⟩ = some v := by
 intro j hj i v hi
 obtain ⟨b', off', e, hlt, hc⟩ := hr (by simp; omega)
 injection e with e
 injection e with e1 e2
 subst e1 e2
 refine hc j (by simpa using hj) i v ?_
 have : (zs.map f).getD j default = f zs[j]! := by
   rw [getElem!_pos zs j hj]
   simp [List.getD_eq_getElem?_getD, hj]
 rw [this]
 exact hi
theorem cf_any {α : Type} [Inhabited α] (f : α → At) (p : α → Bool) (g : Nat) (lb : Array Value) (eg : ∀ args w, (callFunc g args).run Tryz.prog w = .ok (.enter g args) w) (zs : List α) (A : Option Addr) (c : Nat) (w : World)
   (hp : PredBelow Tryz.prog g lb (fun x => .agg (f x).cells.toArray) p w) (hr : RdK kA w w.heap.size A (zs.map f)) (hl : zs.length ≤ 1000000) :
   Calls Tryz.prog 83 #[.slice A zs.length c, .func (.func g) #[] lb] w fun e w' => e = .returned (.bool (zs.any p)) ∧ Below w.heap.size w w' := by
 by_cases h0 : zs = []
 · subst h0
   exact (cf_empty A c _ w).mono fun e w' ⟨h1, h2⟩ => ⟨h1, h2 ▸ Below.refl _ _⟩
 · obtain ⟨b, off, e, hlt, _⟩ := hr (by simpa [List.length_pos_iff] using h0)
   subst e
   have h := AnyQ.slices_ContainsFunc Tryz.cfAt 2 Tryz.isAgg99 Tryz.sizeOf99 (fun x => (f x).cells) (fun _ => rfl) p g lb eg b off zs.length c zs w hp (Nat.le_refl _) (by omega) hlt (rd_hc f hr)
   rw [List.take_length] at h
   exact h
abbrev SmA := {x : At // x.t.length ≤ 9223372036854775807 ∧ x.v.length ≤ 9223372036854775807}
instance : Inhabited SmA := ⟨⟨⟨[], []⟩, by decide, by decide⟩⟩
def Sm (l : List At) : Prop := ∀ x ∈ l, x.t.length ≤ 9223372036854775807 ∧ x.v.length ≤ 9223372036854775807
theorem sm_list {l : List At} (h : ∀ x ∈ l, x.t.length ≤ 9223372036854775807 ∧ x.v.length ≤ 9223372036854775807) : ∃ zs : List SmA, zs.map (·.1) = l := ⟨l.pmap (fun x hx => ⟨x, hx⟩) h, by rw [List.map_pmap]; simp⟩
end Go.Proofs.YtniaijgejljjbaaGreat
