/- Stage 4's sort: slices.SortFunc at ranges, by the shelf's contract. -/
import Derived.Test.YtpghnoadeamplaaAdd
import Derived.Shelf.SlSortCmp.NoneTotal
import Derived.Shelf.Lays
import Derived.Ground.SlsfProg
namespace Go.Proofs.Ytpghnoadeamplaa
open Go.Shelf Go.RowKit Go.Lib Go.Sort
set_option linter.unusedVariables false
set_option linter.unusedSimpArgs false
def Try.sortRg_ren : Go.Shelf.Ren := ⟨fun | 6 => 20 | 15 => 26 | 14 => 25 | 28 => 36 | 29 => 37 | 20 => 28 | 21 => 29 | 22 => 30 | 23 => 31 | 24 => 32 | 25 => 33 | 26 => 34 | 27 => 35 | 46 => 38 | 47 => 39 | 48 => 40 | 49 => 41 | 50 => 42 | 57 => 43 | n => n, fun | 22 => 22 | 24 => 24 | 25 => 52 | 3 => 3 | 39 => 56 | 0 => 0 | 53 => 67 | 55 => 69 | 4 => 4 | 46 => 61 | 45 => 60 | 50 => 33 | 5 => 5 | 9 => 9 | 66 => 70 | 70 => 74 | 76 => 76 | 77 => 77 | n => n, fun | n => n⟩
theorem Try.sortRg : Go.Proofs.SlLaysF0.n6 Try.prog Try.sortRg_ren := {
  mixed := by kernel_rfl
  f6 := ⟨Try.f20.name, by decide, Try.func20.trans (congrArg some (by kernel_rfl))⟩
  f14 := ⟨Try.f25.name, by decide, Try.func25.trans (congrArg some (by kernel_rfl))⟩
  f15 := Try.func26.trans (congrArg some (by kernel_rfl))
  f20 := ⟨Try.f28.name, by decide, Try.func28.trans (congrArg some (by kernel_rfl))⟩
  f21 := ⟨Try.f29.name, by decide, Try.func29.trans (congrArg some (by kernel_rfl))⟩
  f22 := ⟨Try.f30.name, by decide, Try.func30.trans (congrArg some (by kernel_rfl))⟩
  f23 := ⟨Try.f31.name, by decide, Try.func31.trans (congrArg some (by kernel_rfl))⟩
  f24 := ⟨Try.f32.name, by decide, Try.func32.trans (congrArg some (by kernel_rfl))⟩
  f25 := ⟨Try.f33.name, by decide, Try.func33.trans (congrArg some (by kernel_rfl))⟩
  f26 := ⟨Try.f34.name, by decide, Try.func34.trans (congrArg some (by kernel_rfl))⟩
  f27 := ⟨Try.f35.name, by decide, Try.func35.trans (congrArg some (by kernel_rfl))⟩
  f28 := Try.func36.trans (congrArg some (by kernel_rfl))
  f29 := Try.func37.trans (congrArg some (by kernel_rfl))
  f46 := ⟨Try.f38.name, by decide, Try.func38.trans (congrArg some (by kernel_rfl))⟩
  f47 := Try.func39.trans (congrArg some (by kernel_rfl))
  f48 := Try.func40.trans (congrArg some (by kernel_rfl))
  f49 := ⟨Try.f41.name, by decide, Try.func41.trans (congrArg some (by kernel_rfl))⟩
  f50 := ⟨Try.f42.name, by decide, Try.func42.trans (congrArg some (by kernel_rfl))⟩
  f57 := ⟨Try.f43.name, by decide, Try.func43.trans (congrArg some (by kernel_rfl))⟩
  t0 := Try.underlying0
  a0 := Try.isAgg0
  z0 := Try.sizeOf0
  v0 := Try.zeroValue0
  t3 := Try.underlying3
  a3 := Try.isAgg3
  z3 := Try.sizeOf3
  v3 := Try.zeroValue3
  t4 := Try.underlying4
  a4 := Try.isAgg4
  z4 := Try.sizeOf4
  v4 := Try.zeroValue4
  t5 := Try.underlying5
  a5 := Try.isAgg5
  z5 := Try.sizeOf5
  v5 := Try.zeroValue5
  t9 := Try.underlying9
  a9 := Try.isAgg9
  z9 := Try.sizeOf9
  v9 := Try.zeroValue9
  t22 := Try.underlying22
  a22 := Try.isAgg22
  z22 := Try.sizeOf22
  v22 := Try.zeroValue22
  t25 := Try.underlying52
  a25 := Try.isAgg52
  z25 := Try.sizeOf52
  v25 := Try.zeroValue52
  t39 := Try.underlying56
  a39 := Try.isAgg56
  z39 := Try.sizeOf56
  v39 := Try.zeroValue56
  t45 := Try.underlying60
  a45 := Try.isAgg60
  z45 := Try.sizeOf60
  v45 := Try.zeroValue60
  t46 := Try.underlying61
  a46 := Try.isAgg61
  z46 := Try.sizeOf61
  v46 := Try.zeroValue61
  t50 := Try.underlying33
  a50 := Try.isAgg33
  z50 := Try.sizeOf33
  v50 := Try.zeroValue33
  t53 := Try.underlying67
  a53 := Try.isAgg67
  z53 := Try.sizeOf67
  v53 := Try.zeroValue67
  t55 := Try.underlying69
  a55 := Try.isAgg69
  z55 := Try.sizeOf69
  v55 := Try.zeroValue69
  t66 := Try.underlying70
  a66 := Try.isAgg70
  z66 := Try.sizeOf70
  v66 := Try.zeroValue70
  t70 := Try.underlying74
  a70 := Try.isAgg74
  z70 := Try.sizeOf74
  v70 := Try.zeroValue74
  t76 := Try.underlying76
  a76 := Try.isAgg76
  z76 := Try.sizeOf76
  v76 := Try.zeroValue76
  t77 := Try.underlying77
  a77 := Try.isAgg77
  z77 := Try.sizeOf77
  v77 := Try.zeroValue77 }

theorem cmpLays (blk off size : Nat) (w : World) : CmpLays Try.prog 21 #[] Rg.cells 3 (fun x y => cmpI x.lo y.lo) blk off size w :=
  fun _ _ _ _ x y => (less_any x y _).mono fun e w' ⟨he, o, o', hw⟩ => ⟨he, 0, #[o, o'], by rw [hw, alloc_eq_grow, alloc_eq_grow, grow_grow]; rfl⟩

theorem ltLo (x y : Rg) : ltOf (fun x y : Rg => cmpI x.lo y.lo) x y = decide (x.lo < y.lo) := by
  unfold ltOf cmpI
  by_cases h1 : x.lo < y.lo
  · simp [h1]
  · by_cases h2 : y.lo < x.lo <;> simp [h1, h2]

theorem swoLo : SWO (ltOf fun x y : Rg => cmpI x.lo y.lo) where
  irrefl x := by rw [ltLo]; simp
  trans x y z h1 h2 := by rw [ltLo] at *; simp at *; omega
  ntrans x y z h1 h2 := by rw [ltLo] at *; simp at *; omega

theorem sort_any (blk off cap : Nat) (d : Array Rg) (w : World) (hH : HoldsK Rg.cells 3 w blk off d) (hblk : blk < w.heap.size) (hsz : d.size < 4611686018427387904) :
    Calls Try.prog 20 #[.slice (some ⟨blk, off, none⟩) d.size cap, .func (.func 21) #[] #[]] w fun e w' => e = .returned (.tuple #[]) ∧ ∃ d' n os, PermIn 0 d.size d d' ∧ SortedIn (ltOf fun x y : Rg => cmpI x.lo y.lo) 0 d.size d' ∧ w' = sortWorldK Rg.cells 3 w blk off n d' os := by
  have eg : ∀ args w, (callFunc 21 args).run Try.prog w = .ok (.enter 21 args) w := enters_of Try.func21 (by kernel_rfl) rfl
  exact AnyQ.slices_SortFunc Try.sortRg 3 (by intro w; rfl) (by intro w; rfl) Rg.cells (fun _ => rfl) (fun x v hv => by simp [Rg.cells] at hv; rcases hv with rfl | rfl | rfl <;> rfl) (fun x y => cmpI x.lo y.lo) swoLo 21 #[] blk off cap d w eg (cmpLays blk off d.size w) hH hblk hsz

theorem sort_none (cap : Nat) (fv : Value) (w : World) : Calls Try.prog 20 #[.slice none 0 cap, fv] w fun e w' => e = .returned (.tuple #[]) ∧ w' = w :=
  AnyF.slices_SortFunc_none Try.sortRg none cap fv w

theorem sortW_below {base blk off n : Nat} {w : World} {d : Array Rg} {os : Array Obj} (hb : base ≤ blk) (hs : base ≤ w.heap.size) : Go.RowKit.Below base w (sortWorldK Rg.cells 3 w blk off n d os) := by
  unfold sortWorldK putRowK putRow mapBlock grow Sort.ahead
  refine ⟨rfl, rfl, rfl, by simp, fun k hk => ?_⟩
  have h1 : k < w.heap.size := by omega
  simp only [Array.getElem?_append, Array.size_modify, h1, if_true]
  rw [Array.getElem?_modify, if_neg (by omega)]

/-- Ranges by their lower ends. -/
def Sorted (l : List Rg) : Prop := l.Pairwise fun x y => x.lo ≤ y.lo

/-- A slice value that reads as l. -/
def RdV (w : World) (base : Nat) (v : Value) (l : List Rg) : Prop := ∃ A c, v = .slice A l.length c ∧ RdR w w.heap.size A l ∧ ∀ a, A = some a → base ≤ a.block

theorem getD_toArray (l : List Rg) (i : Nat) (h : i < l.length) : l.toArray[i]! = l.getD i default := by
  simp [List.getD_eq_getElem?_getD, List.getElem?_eq_getElem h, h]

theorem cells_get (x : Rg) (i : Nat) (h : i < 3) : x.cells[i]? = some (x.cells[i]!) := by
  have : i = 0 ∨ i = 1 ∨ i = 2 := by omega
  rcases this with rfl | rfl | rfl <;> rfl

theorem sort_row (v : Value) (l : List Rg) (base : Nat) (w : World) (h : RowR w base v l) (hb : base ≤ w.heap.size) (hl : l.length ≤ 1000000) :
    Calls Try.prog 20 #[v, .func (.func 21) #[] #[]] w fun e w' => e = .returned (.tuple #[]) ∧ ∃ d : List Rg, d.Perm l ∧ Sorted d ∧ RdV w' base v d ∧ Go.RowKit.Below base w w' := by
  rcases h.form with ⟨rfl, rfl⟩ | ⟨g, c, cur, rfl, h1, h2, h3, h4, h5, h6, h7⟩
  · refine (sort_none 0 _ w).mono ?_
    rintro e w' ⟨he, rfl⟩
    exact ⟨he, [], List.Perm.refl _, List.Pairwise.nil, ⟨none, 0, rfl, fun h => by simp at h, fun a e => by cases e⟩, Go.RowKit.Below.refl _ _⟩
  · have hH : HoldsK Rg.cells 3 w g 0 l.toArray := by
      intro j hj
      simp only [size_flatK, List.size_toArray] at hj
      rw [get_flatK _ _ _ _ (by simpa using hj)]
      refine ⟨?_, Blk.frozen (t := 24) h4 _⟩
      have hq : j / 3 < l.length := by omega
      have h8 := h5 (j / 3) hq (j % 3) ((Rg.cells (l.toArray[j / 3]!))[j % 3]!) (by
        rw [getD_toArray l _ hq]
        exact cells_get _ _ (Nat.mod_lt _ (by decide)))
      rw [show 0 + j / 3 * 3 + j % 3 = 0 + j from by omega] at h8
      exact h8
    have hs := sort_any g 0 c l.toArray w hH h4.lt (by simp; omega)
    rw [List.size_toArray] at hs
    refine hs.mono ?_
    rintro e w' ⟨he, d', n, os, ⟨p1, _, p3⟩, hsd, rfl⟩
    have hsz : d'.toList.length = l.length := by simpa using p1
    have hsz2 : d'.size = l.length := by simpa using p1
    refine ⟨he, d'.toList, ?_, ?_, ⟨some ⟨g, 0, none⟩, c, by rw [hsz], ?_, fun a e => by injection e with e; subst e; exact h3⟩, sortW_below h3 hb⟩
    · rw [Array.extract_eq_self_of_le (by rw [hsz2]; exact Nat.le_refl _)] at p3
      rw [Array.extract_eq_self_of_le (by simp)] at p3
      simpa using p3
    · refine List.pairwise_iff_getElem.2 fun i j hi hj hij => ?_
      have := hsd i j (Nat.zero_le _) hij (by omega)
      rw [ltLo, decide_eq_false_iff_not] at this
      rw [getElem!_pos d' j (by omega), getElem!_pos d' i (by omega)] at this
      simp only [Array.getElem_toList]
      omega
    · intro hp
      have hH2 := holdsK_sortWorldK Rg.cells 3 w g 0 n l.toArray d' os h4.lt hH (by simpa using p1)
      refine ⟨g, 0, rfl, lt_sortWorldK Rg.cells 3 w g 0 n d' os h4.lt, fun j hj i u hu => ?_⟩
      have hi : i < 3 := by
        rcases Nat.lt_or_ge i 3 with h | h
        · exact h
        · rw [List.getElem?_eq_none (by simpa [Rg.cells] using h)] at hu; cases hu
      have h9 := (HoldsK.cell hH2 (i := j) (c := i) (by omega) hi).1
      rw [h9]
      have e1 : d'[j]! = d'.toList.getD j default := by
        rw [getElem!_pos d' j (by omega)]
        simp [List.getD_eq_getElem?_getD, List.getElem?_eq_getElem hj]
      rw [e1, ← cells_get _ i hi, hu]
end Go.Proofs.Ytpghnoadeamplaa
