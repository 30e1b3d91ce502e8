/- A node: find, leaf, full; slices.Insert at the end. -/
import Derived.Test.YtpldeobobfbkiaaS3a
namespace Go.Proofs.Ytpldeobobfbkiaa.Tlv
open Go.RowKit
set_option maxRecDepth 100000
set_option linter.unusedVariables false
set_option linter.unusedSimpArgs false

theorem find_of (N b c' n c : Nat) (A : Option Addr) (x : Value) (r : Int) (ok : Bool) (w : World) (hN : Blk w N 44 #[.slice A n c, x])
    (HS : Calls Try.prog 29 #[.slice A n c, keyV b c', .func (.func 30) #[] #[]] w fun e w' => e = .returned (.tuple #[.int .i64 r, .bool ok]) ∧ Below w.heap.size w w') :
    Calls Try.prog 18 #[.pointer (some ⟨N, 0, none⟩), keyV b c'] w fun e w' => e = .returned (.tuple #[.int .i64 r, .bool ok]) ∧ Below w.heap.size w w' := by
  have c0 := hN.cell 0
  simp only [List.getElem?_toArray, List.getElem?_cons_zero, List.getElem?_cons_succ] at c0
  have H := Lib.hid HS
  clear HS hN
  go_enter Try.func18, Try.ntmps18
  go_wp2_with (with_reducible refine H.out.mono ?_; rintro e w1 ⟨rfl, hb⟩; dsimp only)
  go_ret2
  exact ⟨rfl, hb⟩
theorem leaf_any (N n c : Nat) (v : Value) (A : Option Addr) (w : World) (hN : Blk w N 44 #[v, .slice A n c]) : Calls Try.prog 19 #[.pointer (some ⟨N, 0, none⟩)] w fun e w' => e = .returned (.bool ((n : Int) == 0)) ∧ w = w' := by
  have c0 := hN.cell 1
  simp only [List.getElem?_toArray, List.getElem?_cons_zero, List.getElem?_cons_succ] at c0
  go_enter Try.func19, Try.ntmps19
  go_wp2
  go_ret
  exact ⟨by simp, rfl⟩
theorem full_any (T N n c : Nat) (A : Option Addr) (x y z : Value) (w : World) (hT : Blk w T 24 #[.int .i64 2, x, y]) (hN : Blk w N 44 #[.slice A n c, z]) : Calls Try.prog 15 #[.pointer (some ⟨T, 0, none⟩), .pointer (some ⟨N, 0, none⟩)] w fun e w' => e = .returned (.bool ((n : Int) == 3)) ∧ ∃ m, w' = w.drewN m := by
  have c0 := hT.cell 0
  have c1 := hN.cell 0
  simp only [List.getElem?_toArray, List.getElem?_cons_zero, List.getElem?_cons_succ] at c0 c1
  clear hT hN
  go_enter Try.func15, Try.ntmps15
  go_upto_region 1 with fail
  go_quiet (fail)
  go_wp2
  go_ret
  exact ⟨by simp, _, rfl⟩
theorem none_tree (T N : Nat) (x y : Value) (w : World) (hT : Blk w T 24 #[x, y, .pointer (some ⟨N, 0, none⟩)]) : Calls Try.prog 14 #[.pointer (some ⟨T, 0, none⟩)] w fun e w' => e = .returned (.bool false) ∧ w = w' := by
  have c0 := hT.cell 2
  simp only [List.getElem?_toArray, List.getElem?_cons_zero, List.getElem?_cons_succ] at c0
  go_enter Try.func14, Try.ntmps14
  go_wp2
  go_ret
  exact ⟨rfl, rfl⟩
/-- No tree. -/
def NoT (w : World) (q : Option Addr) : Prop := q = none ∨ ∃ g, q = some ⟨g, 0, none⟩ ∧ Blk w g 24 #[.int .i64 0, .int .i64 0, .pointer none]
theorem NoT.on {w w' : World} {q : Option Addr} (h : NoT w q) (hb : Below w.heap.size w w') : NoT w' q := by
  rcases h with h | ⟨g, h1, h2⟩
  · exact .inl h
  · exact .inr ⟨g, h1, h2.on hb⟩
theorem none_no (q : Option Addr) (w : World) (h : NoT w q) : Calls Try.prog 14 #[.pointer q] w fun e w' => e = .returned (.bool true) ∧ w = w' := by
  rcases h with rfl | ⟨g, rfl, hg⟩
  · go_enter Try.func14, Try.ntmps14
    go_wp2
    go_ret
    exact ⟨rfl, rfl⟩
  · have c0 := hg.cell 2
    simp only [List.getElem?_toArray, List.getElem?_cons_zero, List.getElem?_cons_succ] at c0
    go_enter Try.func14, Try.ntmps14
    go_wp2
    go_ret
    exact ⟨rfl, rfl⟩
theorem RowK.cap {α : Type} [Inhabited α] {K : Kind α} {w : World} {base n c : Nat} {A : Option Addr} {l : List α} (h : RowK K w base (.slice A n c) l) : n = l.length ∧ n ≤ c ∧ (A = none → c = 0) ∧ RdK K w w.heap.size A l := by
  obtain ⟨A', c', e, h1, h2⟩ := h.rd0
  injection e with e1 e2 e3
  subst e1 e3 e2
  refine ⟨rfl, ?_, h1, h2⟩
  rcases h.2 with ⟨e, h0⟩ | ⟨g, cap, cur, e, _, _, h5, _⟩
  · omega
  · injection e with _ _ e3
    subst e3
    exact h5
theorem rd_one {α : Type} [Inhabited α] {K : Kind α} {w : World} {g : Nat} {cs : Array Value} (x : α) (h : Blk w g K.e cs) (hc : cs.toList = K.cs x) : RdK K w w.heap.size (some ⟨g, 0, none⟩) [x] :=
  rd_block h (by simp [flatK, hc])
def InsOut {α : Type} (K : Kind α) (base : Nat) (v : Value) (l : List α) (w : World) (e : Ending) (w' : World) : Prop := ∃ v', e = .returned v' ∧ RowK K w' base v' l ∧ w.grownBy w' v.ownBlock
theorem insI (base n c : Nat) (A : Option Addr) (l : List It) (x : It) (g c' : Nat) (w : World) (hr : RowK kI w base (.slice A n c) l) (hx : RdK kI w w.heap.size (some ⟨g, 0, none⟩) [x]) (hl : l.length ≤ 1000) (hb : base ≤ w.heap.size) :
    Calls Try.prog 27 #[.slice A n c, .int .i64 n, .slice (some ⟨g, 0, none⟩) 1 c'] w (InsOut kI base (.slice A n c) (l ++ [x]) w) := by
  obtain ⟨h1, h2, h3, h4⟩ := hr.cap
  have hn : n ≤ 1000 := by omega
  have HR := Lib.hid hr
  have HL := Lib.hid h1
  clear hr h1 hl h4 h3
  rcases Decidable.em (c = n) with e | e
  · subst e
    go_enter Try.func27, Try.ntmps27
    go_wp2_with (refine wpList_appK kI (v := .slice A c c) rfl _ _ rfl [x] rfl HR.out rfl hx (fun h => by cases h) (by have := HL.out; simp; omega) hb ?_; intro v1 w1 hr1 hg1)
    go_ret
    exact ⟨v1, rfl, hr1, hg1⟩
  · go_enter Try.func27, Try.ntmps27
    go_wp2_with (refine wpList_appK kI (v := .slice A n c) rfl _ _ rfl [x] rfl HR.out rfl hx (fun h => by cases h) (by have := HL.out; simp; omega) hb ?_; intro v1 w1 hr1 hg1)
    go_ret
    exact ⟨v1, rfl, hr1, hg1⟩
theorem insP (base n c : Nat) (A : Option Addr) (l : List Nat) (x : Nat) (g c' : Nat) (w : World) (hr : RowK kP w base (.slice A n c) l) (hx : RdK kP w w.heap.size (some ⟨g, 0, none⟩) [x]) (hl : l.length ≤ 1000) (hb : base ≤ w.heap.size) :
    Calls Try.prog 42 #[.slice A n c, .int .i64 n, .slice (some ⟨g, 0, none⟩) 1 c'] w (InsOut kP base (.slice A n c) (l ++ [x]) w) := by
  obtain ⟨h1, h2, h3, h4⟩ := hr.cap
  have hn : n ≤ 1000 := by omega
  have HR := Lib.hid hr
  have HL := Lib.hid h1
  clear hr h1 hl h4 h3
  rcases Decidable.em (c = n) with e | e
  · subst e
    go_enter Try.func42, Try.ntmps42
    go_wp2_with (refine wpList_appK kP (v := .slice A c c) rfl _ _ rfl [x] rfl HR.out rfl hx (fun h => by cases h) (by have := HL.out; simp; omega) hb ?_; intro v1 w1 hr1 hg1)
    go_ret
    exact ⟨v1, rfl, hr1, hg1⟩
  · go_enter Try.func42, Try.ntmps42
    go_wp2_with (refine wpList_appK kP (v := .slice A n c) rfl _ _ rfl [x] rfl HR.out rfl hx (fun h => by cases h) (by have := HL.out; simp; omega) hb ?_; intro v1 w1 hr1 hg1)
    go_ret
    exact ⟨v1, rfl, hr1, hg1⟩
/-- slices.Clone of one item. -/
theorem cloneI (g o c : Nat) (x : It) (w : World) (hx : RdK kI w w.heap.size (some ⟨g, o, none⟩) [x]) :
    Calls Try.prog 38 #[.slice (some ⟨g, o, none⟩) 1 c] w fun e w' => (∃ v, e = .returned v ∧ RowK kI w' w.heap.size v [x]) ∧ Below w.heap.size w w' := by
  have h1 : ∀ W, (binOp BinOp.eql 42 (Value.slice (some ⟨g, o, none⟩) 1 c) (Value.slice none 0 0)).run Try.prog W = .ok (.bool false) W := fun _ => rfl
  have hb1 : Below w.heap.size w (w.alloc (.cells #[] 48)) := (Below.refl _ _).alloc (Nat.le_refl _) _
  have hr1 := hx.below hb1
  have hR : RowK kI (w.alloc (.cells #[] 48)) w.heap.size (.slice (some ⟨w.heap.size, 0, none⟩) 0 0) [] := World.ownsRow_made w #[] 0 (Nat.le_refl _) (by simp [maxLen]) rfl
  go_enter Try.func38, Try.ntmps38
  go_wp2_with (at_builtin; refine wpList_appK kI rfl _ _ rfl [x] rfl hR rfl hr1 (fun h => by cases h) (by simp) (by simp) ?_; intro v1 w1 hrow1 hg1)
  go_ret
  exact ⟨⟨v1, rfl, by simpa using hrow1⟩, hb1.trans (row_below hR hg1 (by simp))⟩
end Go.Proofs.Ytpldeobobfbkiaa.Tlv
