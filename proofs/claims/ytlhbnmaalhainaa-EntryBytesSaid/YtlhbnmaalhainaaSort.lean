/- The sort, at attributes. -/
import Derived.Test.YtlhbnmaalhainaaCmp
import Derived.Shelf.SlSortCmp.NoneTotal
import Derived.Shelf.SlLaysF0
import Derived.Ground.SlsfProg
namespace Go.Proofs.Ytlhbnmaalhainaa
open Go.Shelf Go.RowKit Go.Lib Go.Sort
set_option linter.unusedVariables false
set_option linter.unusedSimpArgs false
def Try.sortAt_ren : Go.Shelf.Ren := ⟨fun | 6 => 64 | 15 => 81 | 14 => 80 | 28 => 101 | 29 => 102 | 20 => 93 | 21 => 94 | 22 => 95 | 23 => 96 | 24 => 97 | 25 => 98 | 26 => 99 | 27 => 100 | 46 => 107 | 47 => 108 | 48 => 109 | 49 => 110 | 50 => 111 | 57 => 113 | n => n, fun | 22 => 22 | 24 => 29 | 25 => 62 | 3 => 3 | 39 => 102 | 0 => 0 | 53 => 128 | 55 => 130 | 4 => 4 | 46 => 121 | 45 => 120 | 50 => 125 | 5 => 5 | 9 => 9 | 66 => 136 | 70 => 140 | 76 => 142 | 77 => 143 | n => n, fun | n => n⟩
theorem Try.sortAt : Go.Proofs.SlLaysF0.n6 Try.prog Try.sortAt_ren := {
  mixed := by kernel_rfl
  f6 := ⟨Try.f64.name, by decide, Try.func64.trans (congrArg some (by kernel_rfl))⟩
  f14 := ⟨Try.f80.name, by decide, Try.func80.trans (congrArg some (by kernel_rfl))⟩
  f15 := Try.func81.trans (congrArg some (by kernel_rfl))
  f20 := ⟨Try.f93.name, by decide, Try.func93.trans (congrArg some (by kernel_rfl))⟩
  f21 := ⟨Try.f94.name, by decide, Try.func94.trans (congrArg some (by kernel_rfl))⟩
  f22 := ⟨Try.f95.name, by decide, Try.func95.trans (congrArg some (by kernel_rfl))⟩
  f23 := ⟨Try.f96.name, by decide, Try.func96.trans (congrArg some (by kernel_rfl))⟩
  f24 := ⟨Try.f97.name, by decide, Try.func97.trans (congrArg some (by kernel_rfl))⟩
  f25 := ⟨Try.f98.name, by decide, Try.func98.trans (congrArg some (by kernel_rfl))⟩
  f26 := ⟨Try.f99.name, by decide, Try.func99.trans (congrArg some (by kernel_rfl))⟩
  f27 := ⟨Try.f100.name, by decide, Try.func100.trans (congrArg some (by kernel_rfl))⟩
  f28 := Try.func101.trans (congrArg some (by kernel_rfl))
  f29 := Try.func102.trans (congrArg some (by kernel_rfl))
  f46 := ⟨Try.f107.name, by decide, Try.func107.trans (congrArg some (by kernel_rfl))⟩
  f47 := Try.func108.trans (congrArg some (by kernel_rfl))
  f48 := Try.func109.trans (congrArg some (by kernel_rfl))
  f49 := ⟨Try.f110.name, by decide, Try.func110.trans (congrArg some (by kernel_rfl))⟩
  f50 := ⟨Try.f111.name, by decide, Try.func111.trans (congrArg some (by kernel_rfl))⟩
  f57 := ⟨Try.f113.name, by decide, Try.func113.trans (congrArg some (by kernel_rfl))⟩
  t0 := Try.underlying0
  a0 := Try.isAgg0
  z0 := Try.sizeOf0
  v0 := Try.zeroValue0
  t3 := Try.underlying3
  a3 := Try.isAgg3
  z3 := Try.sizeOf3
  v3 := Try.zeroValue3
  t4 := Try.underlying4
  a4 := Try.isAgg4
  z4 := Try.sizeOf4
  v4 := Try.zeroValue4
  t5 := Try.underlying5
  a5 := Try.isAgg5
  z5 := Try.sizeOf5
  v5 := Try.zeroValue5
  t9 := Try.underlying9
  a9 := Try.isAgg9
  z9 := Try.sizeOf9
  v9 := Try.zeroValue9
  t22 := Try.underlying22
  a22 := Try.isAgg22
  z22 := Try.sizeOf22
  v22 := Try.zeroValue22
  t25 := Try.underlying62
  a25 := Try.isAgg62
  z25 := Try.sizeOf62
  v25 := Try.zeroValue62
  t39 := Try.underlying102
  a39 := Try.isAgg102
  z39 := Try.sizeOf102
  v39 := Try.zeroValue102
  t45 := Try.underlying120
  a45 := Try.isAgg120
  z45 := Try.sizeOf120
  v45 := Try.zeroValue120
  t46 := Try.underlying121
  a46 := Try.isAgg121
  z46 := Try.sizeOf121
  v46 := Try.zeroValue121
  t50 := Try.underlying125
  a50 := Try.isAgg125
  z50 := Try.sizeOf125
  v50 := Try.zeroValue125
  t53 := Try.underlying128
  a53 := Try.isAgg128
  z53 := Try.sizeOf128
  v53 := Try.zeroValue128
  t55 := Try.underlying130
  a55 := Try.isAgg130
  z55 := Try.sizeOf130
  v55 := Try.zeroValue130
  t66 := Try.underlying136
  a66 := Try.isAgg136
  z66 := Try.sizeOf136
  v66 := Try.zeroValue136
  t70 := Try.underlying140
  a70 := Try.isAgg140
  z70 := Try.sizeOf140
  v70 := Try.zeroValue140
  t76 := Try.underlying142
  a76 := Try.isAgg142
  z76 := Try.sizeOf142
  v76 := Try.zeroValue142
  t77 := Try.underlying143
  a77 := Try.isAgg143
  z77 := Try.sizeOf143
  v77 := Try.zeroValue143 }

theorem cmpLays (blk off size : Nat) (w : World) : CmpLays Try.prog 37 #[] At.cells 2 cmpA blk off size w :=
  fun m os dk _ x y => (compare_any x y _).mono fun e w' ⟨he, hw⟩ => ⟨he, 1, #[.cells #[.string (sx x.t), .string (sx x.v)] 29, .cells #[.string (sx y.t), .string (sx y.v)] 29, .cells #[.int .i64 (cmpB x.t y.t), .int .i64 (cmpB x.v y.v)] 3], by
    rw [hw, alloc_eq_grow, alloc_eq_grow, alloc_eq_grow, grow_grow, grow_grow]
    rfl⟩
theorem ltOfA (x y : At) : ltOf cmpA x y = ltA x y := by
  unfold ltOf cmpA
  cases h1 : ltA x y <;> cases h2 : ltA y x <;> simp
theorem swoA : SWO (ltOf cmpA) where
  irrefl x := by rw [ltOfA, ltA_irrefl]
  trans x y z h1 h2 := by rw [ltOfA] at *; exact ltA_trans h1 h2
  ntrans x y z h1 h2 := by
    rw [ltOfA] at *
    cases h : ltA x z with
    | false => rfl
    | true =>
      rcases ltA_tri y x with k | k | k
      · rw [ltA_trans k h] at h2; cases h2
      · subst k; rw [h] at h2; cases h2
      · rw [k] at h1; cases h1
theorem sort_any (blk off cap : Nat) (d : Array At) (w : World) (hH : HoldsK At.cells 2 w blk off d) (hblk : blk < w.heap.size) (hsz : d.size < 4611686018427387904) :
    Calls Try.prog 64 #[.slice (some ⟨blk, off, none⟩) d.size cap, .func (.func 37) #[] #[]] w fun e w' => e = .returned (.tuple #[]) ∧ ∃ d' n os, PermIn 0 d.size d d' ∧ SortedIn (ltOf cmpA) 0 d.size d' ∧ w' = sortWorldK At.cells 2 w blk off n d' os := by
  have eg : ∀ args w, (callFunc 37 args).run Try.prog w = .ok (.enter 37 args) w := enters_of Try.func37 (by kernel_rfl) rfl
  exact AnyQ.slices_SortFunc Try.sortAt 2 Try.isAgg29 Try.sizeOf29 At.cells (fun _ => rfl) (fun x v hv => by simp [At.cells] at hv; rcases hv with rfl | rfl <;> rfl) cmpA swoA 37 #[] blk off cap d w eg (cmpLays blk off d.size w) hH hblk hsz
theorem sort_none (cap : Nat) (fv : Value) (w : World) : Calls Try.prog 64 #[.slice none 0 cap, fv] w fun e w' => e = .returned (.tuple #[]) ∧ w' = w :=
  AnyF.slices_SortFunc_none Try.sortAt none cap fv w
theorem getD_toArray (l : List At) (i : Nat) (h : i < l.length) : l.toArray[i]! = l.getD i default := by
  simp [List.getD_eq_getElem?_getD, List.getElem?_eq_getElem h, h]
theorem sortW_block {blk off n : Nat} {w : World} {d : Array At} {os : Array Obj} {base : Nat} (hb : base ≤ blk) (hs : base ≤ w.heap.size) : Below base w (sortWorldK At.cells 2 w blk off n d os) := by
  unfold sortWorldK putRowK putRow mapBlock grow Sort.ahead
  refine ⟨rfl, rfl, rfl, by simp, fun k hk => ?_⟩
  have h1 : k < w.heap.size := by omega
  simp only [Array.getElem?_append, Array.size_modify, h1, if_true]
  rw [Array.getElem?_modify, if_neg (by omega)]
end Go.Proofs.Ytlhbnmaalhainaa
