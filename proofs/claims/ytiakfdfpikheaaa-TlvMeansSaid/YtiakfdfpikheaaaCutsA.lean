/- Read; bytes that are cut: what stands ahead of the cut. -/
import Derived.Test.YtiakfdfpikheaaaBack
import Derived.Test.YtiakfdfpikheaaaWrites
import Derived.Test.YtiakfdfpikheaaaGoes
namespace Go.Proofs.Ytiakfdfpikheaaa
open Go.RowKit
set_option linter.unusedVariables false
set_option linter.unusedSimpArgs false

theorem Byt.take {l : List Int} (h : Byt l) (k : Nat) : Byt (l.take k) := fun x hx => h x (List.mem_of_mem_take hx)
theorem byt_app {a b : List Int} (h : Byt a) (k : Byt b) : Byt (a ++ b) := fun x hx => by
  rcases List.mem_append.1 hx with h1 | h1
  · exact h x h1
  · exact k x h1
theorem byt_valB {t : Int} {xs : List Int} (h0 : 0 ≤ t) (h1 : t ≤ 255) (hx : Byt xs) (hl : xs.length ≤ 4194304) : Byt (valB t xs) := by
  unfold valB
  refine byt_app (fun x hx => ?_) hx
  unfold be4 at hx
  simp only [List.mem_cons, List.not_mem_nil, or_false] at hx
  rcases hx with rfl | rfl | rfl | rfl | rfl <;> omega
theorem byt_be8 {n : Int} (h0 : 0 ≤ n) (h1 : n < 18446744073709551616) : Byt (be8 n) := fun x hx => by
  unfold be8 at hx
  simp only [List.mem_cons, List.not_mem_nil, or_false] at hx
  rcases hx with rfl | rfl | rfl | rfl | rfl | rfl | rfl | rfl <;> omega
theorem byt_lb : ∀ l : List ByteArray, (l.map ByteArray.size).sum ≤ 4000000 → Byt (lb l) := by
  intro l
  unfold lb
  induction l with
  | nil => intro _ x hx; simp at hx
  | cons a t ih =>
    intro h
    simp only [List.map_cons, List.sum_cons] at h
    rw [List.flatMap_cons]
    exact byt_app (byt_valB (by decide) (by decide) (byt_bytesOf a) (by rw [bytesOf_length]; omega)) (ih (by omega))
theorem byt_encP {W : World} {B : Nat} {p : Pt} (hok : PtOk W B p) (hf : Few p) {x : List Int} (e : encP p = some x) : Byt x := by
  have h1 := hf.lb'
  have h2 := hf.1
  have h3 := hf.2.2
  unfold encP at e
  split at e
  · injection e with e; subst e; intro y hy; simp at hy
  split at e
  · cases e
  split at e
  · injection e with e; subst e; exact byt_valB hok.t.1 hok.t.2 (byt_be8 hok.n.1 hok.n.2) (by simp [be8])
  split at e
  · injection e with e; subst e
    refine byt_valB hok.t.1 hok.t.2 (fun y hy => ?_) (by simp)
    simp only [List.mem_cons, List.not_mem_nil, or_false] at hy
    subst hy
    omega
  split at e
  · injection e with e; subst e; exact byt_valB hok.t.1 hok.t.2 (byt_lb _ (by omega)) (by omega)
  · injection e with e; subst e; exact byt_valB hok.t.1 hok.t.2 hok.y (by omega)
theorem byt_want {W : World} {B : Nat} {l : List Pt} (hok : ∀ p ∈ l, PtOk W B p) (hf : ∀ p ∈ l, Few p) : Byt (wantL l) := fun x hx => by
  unfold wantL at hx
  obtain ⟨p, hp, hx⟩ := List.mem_flatMap.1 hx
  cases e : encP p with
  | none => rw [e] at hx; simp at hx
  | some z => rw [e] at hx; exact byt_encP (hok p hp) (hf p hp) e x hx

/-- How far the first values of a list reach. -/
def posI (l : List (Int × List Int)) : Nat := (l.map fun x => 5 + x.2.length).sum
theorem getD_take {l : List Int} {k i : Nat} (h : i < k) : (l.take k).getD i 0 = l.getD i 0 := by
  rw [List.getD_eq_getElem?_getD, List.getD_eq_getElem?_getD, List.getElem?_take_of_lt h]
theorem nv_take {l : List Int} {k : Nat} (h : 5 ≤ k) : nv (l.take k) = nv l := by
  unfold nv
  rw [getD_take (by omega), getD_take (by omega), getD_take (by omega), getD_take (by omega)]
theorem stands_take {l : List Int} {k : Nat} (hk : k ≤ l.length) : stands (l.take k) = (stands l && decide (5 + nv l ≤ k)) := by
  by_cases h5 : 5 ≤ k
  · unfold stands
    rw [nv_take h5, getD_take (by omega), List.length_take, Nat.min_eq_left hk]
    rw [Bool.eq_iff_iff, Bool.and_eq_true, decide_eq_true_eq, decide_eq_true_eq, decide_eq_true_eq]
    generalize l.getD 0 0 = z at *
    omega
  · have : stands (l.take k) = false := decide_eq_false (fun h => by have := h.1; rw [List.length_take] at this; omega)
    rw [this]
    have : ¬ 5 + nv l ≤ k := by omega
    simp [this]
theorem items_cut : ∀ (n : Nat) (l : List Int) (k : Nat), k ≤ l.length → n ≤ (items l).length → posI ((items l).take n) ≤ k → (n = (items l).length ∨ k < posI ((items l).take (n + 1))) → items (l.take k) = (items l).take n := by
  intro n
  induction n with
  | zero =>
    intro l k hk hn h1 h2
    rw [List.take_zero]
    refine items_no ?_
    rw [stands_take hk]
    cases hs : stands l with
    | false => rfl
    | true =>
      obtain ⟨p1, p2, p3, p4⟩ := stands_parts hs
      rw [items_yes hs] at h2
      simp only [List.length_cons, Nat.zero_add, List.take_succ_cons, List.take_zero, posI, List.map_cons, List.map_nil, List.sum_cons, List.sum_nil, List.length_take, List.length_drop] at h2
      have : ¬ 5 + nv l ≤ k := by omega
      simp [this]
  | succ n ih =>
    intro l k hk hn h1 h2
    cases hs : stands l with
    | false => rw [items_no hs] at hn; simp at hn
    | true =>
      obtain ⟨p1, p2, p3, p4⟩ := stands_parts hs
      rw [items_yes hs] at hn h1 h2 ⊢
      have hl : ((l.drop 5).take (nv l)).length = nv l := by rw [List.length_take, List.length_drop]; omega
      simp only [List.length_cons, List.take_succ_cons, posI, List.map_cons, List.sum_cons, hl] at hn h1 h2 ⊢
      have hk5 : 5 + nv l ≤ k := by omega
      have hst : stands (l.take k) = true := by rw [stands_take hk, hs]; simpa using hk5
      have hlen : (l.drop (5 + nv l)).length = l.length - (5 + nv l) := List.length_drop ..
      have := ih (l.drop (5 + nv l)) (k - (5 + nv l)) (by omega) (by omega) (by show ((items (l.drop (5 + nv l))).take n |>.map fun x => 5 + x.2.length).sum ≤ _; omega) (by
        rcases h2 with h | h
        · exact .inl (by omega)
        · right; show _ < (((items (l.drop (5 + nv l))).take (n + 1)).map fun x => 5 + x.2.length).sum; omega)
      rw [items_yes hst, nv_take (by omega), getD_take (by omega), List.drop_take, List.drop_take, this]
      rw [List.take_take, Nat.min_eq_left (by omega)]

/-- Read, of bytes. -/
theorem read_any (A : Option Addr) (c : Nat) (l : List Int) (w : World) (hr : Rd w w.heap.size A l) (hby : Byt l) (hn : l.length ≤ 100000000) :
    Calls Try.prog 15 #[.slice A l.length c] w fun e w' => ∃ g, e = .returned (.pointer (some ⟨g, 0, none⟩)) ∧ RS w' g g false l ∧ w.heap.size ≤ g ∧ Below w.heap.size w w' := by
  have HC := Lib.hid (clone_any A c l w hr (by omega))
  have HY := Lib.hid hby
  clear hr hby
  go_enter Try.func15, Try.ntmps15
  go_wp2_with fail
  refine HC.out.mono ?_
  rintro e w1 ⟨v, rfl, hrow, hb⟩
  obtain ⟨A', c', rfl, h1, h2, h3⟩ := hrow.rdc
  have hB := Blk.new w1 69 #[.slice A' l.length c', .bool true, .bool false]
  have hb1 : Below w1.heap.size w1 (w1.alloc (.cells #[.slice A' l.length c', .bool true, .bool false] 69)) := (Below.refl _ _).alloc (Nat.le_refl _) _
  have hr1 := h3.below hb1
  have hb2 : Below w.heap.size w (w1.alloc (.cells #[.slice A' l.length c', .bool true, .bool false] 69)) := hb.trans (hb1.mono hb.size)
  clear hrow h3 hb1
  have H := Lib.hid (And.intro hB (And.intro hr1 hb2))
  have hs := hb.size
  clear hB hr1 hb2 hb
  go_wp2
  go_ret
  exact ⟨_, rfl, ⟨Nat.le_refl _, _, _, H.out.1, H.out.2.1, HY.out, h1, h2, hn⟩, hs, H.out.2.2⟩
end Go.Proofs.Ytiakfdfpikheaaa
