/- Is one of them so: slices.ContainsFunc, Contains, Equal at attributes. -/
import Derived.Test.YtlhbnmaalhainaaSorted
import Derived.Shelf.SlicesQ.IndexFunc
import Derived.Shelf.SlicesQ.Contains
import Derived.Shelf.SlicesQ.Equal
import Derived.Ground.SlgfProg
import Derived.Ground.SlgqProg
namespace Go.Proofs.Ytlhbnmaalhainaa
open Go.Shelf Go.RowKit Go.Lib
set_option linter.unusedVariables false
set_option linter.unusedSimpArgs false
def Try.cfAt_ren : Go.Shelf.Ren := ⟨fun | 8 => 60 | 6 => 79 | n => n, fun | 22 => 22 | 23 => 29 | 25 => 27 | 4 => 4 | 3 => 3 | 0 => 0 | n => n, fun | n => n⟩
theorem Try.cfAt : Go.Proofs.SlLaysH0.n8 Try.prog Try.cfAt_ren := {
  mixed := by kernel_rfl
  f6 := ⟨Try.f79.name, by decide, Try.func79.trans (congrArg some (by kernel_rfl))⟩
  f8 := ⟨Try.f60.name, by decide, Try.func60.trans (congrArg some (by kernel_rfl))⟩
  t0 := Try.underlying0
  a0 := Try.isAgg0
  z0 := Try.sizeOf0
  v0 := Try.zeroValue0
  t3 := Try.underlying3
  a3 := Try.isAgg3
  z3 := Try.sizeOf3
  v3 := Try.zeroValue3
  t4 := Try.underlying4
  a4 := Try.isAgg4
  z4 := Try.sizeOf4
  v4 := Try.zeroValue4
  t22 := Try.underlying22
  a22 := Try.isAgg22
  z22 := Try.sizeOf22
  v22 := Try.zeroValue22
  t25 := Try.underlying27
  a25 := Try.isAgg27
  z25 := Try.sizeOf27
  v25 := Try.zeroValue27 }
def Try.conAt_ren : Go.Shelf.Ren := ⟨fun | 7 => 68 | 6 => 83 | n => n, fun | 22 => 22 | 24 => 29 | 4 => 4 | 0 => 0 | 3 => 3 | n => n, fun | n => n⟩
theorem Try.conAt : Go.Proofs.SlLaysQ.n7 Try.prog Try.conAt_ren := {
  mixed := by kernel_rfl
  f6 := ⟨Try.f83.name, by decide, Try.func83.trans (congrArg some (by kernel_rfl))⟩
  f7 := ⟨Try.f68.name, by decide, Try.func68.trans (congrArg some (by kernel_rfl))⟩
  t0 := Try.underlying0
  a0 := Try.isAgg0
  z0 := Try.sizeOf0
  v0 := Try.zeroValue0
  t3 := Try.underlying3
  a3 := Try.isAgg3
  z3 := Try.sizeOf3
  v3 := Try.zeroValue3
  t4 := Try.underlying4
  a4 := Try.isAgg4
  z4 := Try.sizeOf4
  v4 := Try.zeroValue4
  t22 := Try.underlying22
  a22 := Try.isAgg22
  z22 := Try.sizeOf22
  v22 := Try.zeroValue22 }
def Try.eqAt_ren : Go.Shelf.Ren := ⟨fun | 8 => 69 | n => n, fun | 22 => 22 | 24 => 29 | 4 => 4 | 3 => 3 | 0 => 0 | n => n, fun | n => n⟩
theorem Try.eqAt : Go.Proofs.SlLaysQ.n8 Try.prog Try.eqAt_ren := {
  mixed := by kernel_rfl
  f8 := ⟨Try.f69.name, by decide, Try.func69.trans (congrArg some (by kernel_rfl))⟩
  t0 := Try.underlying0
  a0 := Try.isAgg0
  z0 := Try.sizeOf0
  v0 := Try.zeroValue0
  t3 := Try.underlying3
  a3 := Try.isAgg3
  z3 := Try.sizeOf3
  v3 := Try.zeroValue3
  t4 := Try.underlying4
  a4 := Try.isAgg4
  z4 := Try.sizeOf4
  v4 := Try.zeroValue4
  t22 := Try.underlying22
  a22 := Try.isAgg22
  z22 := Try.sizeOf22
  v22 := Try.zeroValue22 }

set_option maxHeartbeats 1000000 in
theorem idx_empty (a : Option Addr) (c : Nat) (fv : Value) (w : World) : Calls Try.prog 79 #[.slice a 0 c, fv] w fun e w' => e = .returned (.int .i64 (-1)) ∧ w = w' := by
  go_enter Try.func79, Try.ntmps79
  go_wp2
  refine wp_loop_rounds 1 ?_
  rw [rounds_succ]
  go_wp2
  go_ret
  exact ⟨rfl, rfl⟩
set_option maxHeartbeats 1000000 in
theorem cf_empty (a : Option Addr) (c : Nat) (fv : Value) (w : World) : Calls Try.prog 60 #[.slice a 0 c, fv] w fun e w' => e = .returned (.bool false) ∧ w = w' := by
  go_enter Try.func60, Try.ntmps60
  go_wp2_with (go_at_call 79; (with_reducible refine (idx_empty _ _ _ _).mono ?_); rintro e w' ⟨rfl, rfl⟩)
  go_ret
  exact ⟨rfl, rfl⟩
theorem rd_hc {α : Type} [Inhabited α] (f : α → At) {w : World} {n b off : Nat} {zs : List α} (hr : RdK kA w n (some ⟨b, off, none⟩) (zs.map f)) : ∀ j, j < zs.length → ∀ i v, (At.cells (f zs[j]!))[i]? = some v → w.cell? ⟨b, off + j * 2 + i, none⟩ = some v := by
  intro j hj i v hi
  obtain ⟨b', off', e, hlt, hc⟩ := hr (by simp; omega)
  injection e with e
  injection e with e1 e2
  subst e1 e2
  refine hc j (by simpa using hj) i v ?_
  have : (zs.map f).getD j default = f zs[j]! := by
    rw [getElem!_pos zs j hj]
    simp [List.getD_eq_getElem?_getD, hj]
  rw [this]
  exact hi
theorem cf_any {α : Type} [Inhabited α] (f : α → At) (p : α → Bool) (g : Nat) (lb : Array Value) (eg : ∀ args w, (callFunc g args).run Try.prog w = .ok (.enter g args) w) (zs : List α) (A : Option Addr) (c : Nat) (w : World)
    (hp : PredBelow Try.prog g lb (fun x => .agg (f x).cells.toArray) p w) (hr : RdK kA w w.heap.size A (zs.map f)) (hl : zs.length ≤ 1000000) :
    Calls Try.prog 60 #[.slice A zs.length c, .func (.func g) #[] lb] w fun e w' => e = .returned (.bool (zs.any p)) ∧ Below w.heap.size w w' := by
  by_cases h0 : zs = []
  · subst h0
    exact (cf_empty A c _ w).mono fun e w' ⟨h1, h2⟩ => ⟨h1, h2 ▸ Below.refl _ _⟩
  · obtain ⟨b, off, e, hlt, _⟩ := hr (by simpa [List.length_pos_iff] using h0)
    subst e
    have h := AnyQ.slices_ContainsFunc Try.cfAt 2 Try.isAgg29 Try.sizeOf29 (fun x => (f x).cells) (fun _ => rfl) p g lb eg b off zs.length c zs w hp (Nat.le_refl _) (by omega) hlt (rd_hc f hr)
    rw [List.take_length] at h
    exact h
/-- Attributes that are not out of all bounds. -/
abbrev SmA := {x : At // x.t.length ≤ 9223372036854775807 ∧ x.v.length ≤ 9223372036854775807}
instance : Inhabited SmA := ⟨⟨⟨[], []⟩, by decide, by decide⟩⟩
theorem eg78 : ∀ args w, (callFunc 78 args).run Try.prog w = .ok (.enter 78 args) w := enters_of Try.func78 (by kernel_rfl) rfl
theorem eg61 : ∀ args w, (callFunc 61 args).run Try.prog w = .ok (.enter 61 args) w := enters_of Try.func61 (by kernel_rfl) rfl
set_option maxHeartbeats 1000000 in
theorem pred61 (a : At) (B : Nat) (w : World) (hB : B < w.heap.size) (hc : w.cell? ⟨B, 0, none⟩ = some (.string (sx a.t))) :
    PredBelow Try.prog 61 #[.pointer (some ⟨B, 0, none⟩)] (fun x : At => .agg x.cells.toArray) (fun x => decide (x.t = a.t)) w := fun W x hb => by
  have hcW : W.cell? ⟨B, 0, none⟩ = some (.string (sx a.t)) := (hb.cell (p := ⟨B, 0, none⟩) hB).trans hc
  have hBW : B < W.heap.size := Nat.lt_of_lt_of_le hB hb.size
  have hne : B ≠ W.heap.size := by omega
  have e1 := sx_beq x.t a.t
  show Calls Try.prog 61 #[.agg #[.string (sx x.t), .string (sx x.v)], .pointer (some ⟨B, 0, none⟩)] W _
  dsimp only
  generalize decide (x.t = a.t) = r at e1 ⊢
  have HB := Lib.hid (hb.alloc hb.size (.cells #[.string (sx x.t), .string (sx x.v)] 29))
  clear hb hc
  go_enter Try.func61, Try.ntmps61
  go_wp2
  go_ret
  exact ⟨rfl, HB.out⟩
set_option maxHeartbeats 1000000 in
theorem pred78 (B : Nat) (w : World) (hB : B < w.heap.size) (hc : w.cell? ⟨B, 0, none⟩ = some (.func (.func 11) #[] #[])) :
    PredBelow Try.prog 78 #[.pointer (some ⟨B, 0, none⟩)] (fun x : SmA => .agg x.1.cells.toArray) (fun x => !mayA x.1) w := fun W x hb => by
  obtain ⟨x, h1, h2⟩ := x
  have hcW : W.cell? ⟨B, 0, none⟩ = some (.func (.func 11) #[] #[]) := (hb.cell (p := ⟨B, 0, none⟩) hB).trans hc
  have hBW : B < W.heap.size := Nat.lt_of_lt_of_le hB hb.size
  have hne : B ≠ W.heap.size := by omega
  have HM := Lib.hid fun W => mayAttr_any x W h1 h2
  show Calls Try.prog 78 #[.agg #[.string (sx x.t), .string (sx x.v)], .pointer (some ⟨B, 0, none⟩)] W _
  dsimp only
  generalize mayA x = r at HM ⊢
  have HB := Lib.hid (hb.alloc hb.size (.cells #[.string (sx x.t), .string (sx x.v)] 29))
  have HZ := Lib.hid (Nat.le_trans hb.size (show W.heap.size ≤ (W.alloc (.cells #[.string (sx x.t), .string (sx x.v)] 29)).heap.size by simp))
  clear hb hc h1 h2
  go_enter Try.func78, Try.ntmps78
  go_wp2_with (go_at_call 11; (with_reducible refine (HM.out _).mono ?_); rintro e w' ⟨rfl, hb1⟩)
  go_ret
  exact ⟨rfl, HB.out.trans (hb1.mono HZ.out)⟩
/-- Each is of a length that can be. -/
def Sm (l : List At) : Prop := ∀ x ∈ l, x.t.length ≤ 9223372036854775807 ∧ x.v.length ≤ 9223372036854775807
theorem sm_list {l : List At} (h : ∀ x ∈ l, x.t.length ≤ 9223372036854775807 ∧ x.v.length ≤ 9223372036854775807) : ∃ zs : List SmA, zs.map (·.1) = l := ⟨l.pmap (fun x hx => ⟨x, hx⟩) h, by rw [List.map_pmap]; simp⟩
set_option maxHeartbeats 1000000 in
theorem all_any (l : List At) (v : Value) (w : World) (hv : RdV w v l) (hs : Sm l) (hl : l.length ≤ 1000000) :
    Calls Try.prog 59 #[v, .func (.func 11) #[] #[]] w fun e w' => e = .returned (.bool (l.all mayA)) ∧ Below w.heap.size w w' := by
  obtain ⟨zs, rfl⟩ := sm_list hs
  obtain ⟨A, c, rfl, _, hr⟩ := hv
  obtain ⟨o, ho⟩ : ∃ o : Obj, o = .cells #[.func (.func 11) #[] #[]] 27 := ⟨_, rfl⟩
  have hb0 := (Below.refl w.heap.size w).alloc (Nat.le_refl _) o
  have hc0 : (w.alloc o).cell? ⟨w.heap.size, 0, none⟩ = some (.func (.func 11) #[] #[]) := by
    subst ho
    have hB := Blk.new w 27 #[.func (.func 11) #[] #[]]
    exact hB.cell 0
  have hz0 : w.heap.size < (w.alloc o).heap.size := by rw [World.size_alloc]; omega
  have hp := pred78 w.heap.size (w.alloc o) hz0 hc0
  have hcf := cf_any (α := SmA) (fun x => x.1) (fun x => !mayA x.1) 78 #[.pointer (some ⟨w.heap.size, 0, none⟩)] eg78 zs A c (w.alloc o) hp ((hr.below hb0).more (Nat.le_of_lt hz0)) (by rw [List.length_map] at hl; exact hl)
  have HZ := Lib.hid (Nat.le_of_lt hz0)
  subst ho
  rw [List.length_map]
  have HR : Hid ((zs.map (·.1)).all mayA = !(zs.any fun x => !mayA x.1)) := Lib.hid (by rw [List.all_map, List.not_any_eq_all_not]; simp [Function.comp_def])
  generalize (zs.any fun x => !mayA x.1) = r at hcf HR
  generalize zs.length = n at hcf
  have HC := Lib.hid hcf
  have HB := Lib.hid hb0
  clear hcf hb0 hp hr hs hl hc0 hz0
  go_enter Try.func59, Try.ntmps59
  go_wp2_with (go_at_call 60; (with_reducible refine HC.out.mono ?_); rintro e w' ⟨rfl, hb1⟩)
  go_ret
  exact ⟨by rw [HR.out]; rfl, HB.out.trans (hb1.mono HZ.out)⟩
end Go.Proofs.Ytlhbnmaalhainaa
