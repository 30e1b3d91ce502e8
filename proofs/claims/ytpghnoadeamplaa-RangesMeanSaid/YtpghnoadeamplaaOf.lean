/- Of: the map of ranges. -/
import Derived.Test.YtpghnoadeamplaaSort
import Derived.Test.YtpghnoadeamplaaIter
namespace Go.Proofs.Ytpghnoadeamplaa
open Go.RowKit
set_option linter.unusedVariables false
set_option linter.unusedSimpArgs false

/-- All ranges, one behind the other. -/
def addAll (m : List Rg) : List Rg → Option (List Rg)
  | [] => some m
  | x :: t => (addL m x).bind fun m' => addAll m' t
theorem addAll_append (m a b : List Rg) : addAll m (a ++ b) = (addAll m a).bind fun m' => addAll m' b := by
  induction a generalizing m with
  | nil => rfl
  | cons x t ih =>
    simp only [List.cons_append, addAll]
    cases addL m x with
    | none => rfl
    | some m' => exact ih m'
theorem addL_length {l : List Rg} {x : Rg} {l' : List Rg} (h : addL l x = some l') : l'.length ≤ l.length + 1 := by
  rcases List.eq_nil_or_concat l with rfl | ⟨t, y, rfl⟩
  · rw [addL_nil] at h; injection h with h; subst h; simp
  · rw [List.concat_eq_append] at *
    rw [addL_snoc] at h
    split at h
    · cases h
    · split at h
      · injection h with h; subst h; simp
      · injection h with h; subst h; simp
theorem addAll_length : ∀ (d : List Rg) (m m' : List Rg), addAll m d = some m' → m'.length ≤ m.length + d.length
  | [], m, m', h => by injection h with h; subst h; simp
  | x :: t, m, m', h => by
    simp only [addAll] at h
    cases h1 : addL m x with
    | none => rw [h1] at h; cases h
    | some m1 =>
      rw [h1] at h
      have := addAll_length t m1 m' h
      have := addL_length h1
      simp; omega

/-- May the range be? -/
def goodB (x : Rg) : Bool := !decide (x.lo < 0) && !decide (x.hi < x.lo)
def In32 (l : List Rg) : Prop := ∀ j, j < l.length → (l.getD j default).lo ≤ 2147483647 ∧ (l.getD j default).hi ≤ 2147483647 ∧ -2147483648 ≤ (l.getD j default).lo ∧ -2147483648 ≤ (l.getD j default).hi


/-- What Of comes to. -/
def OfPost (l : List Rg) (w : World) (e : Ending) (w' : World) : Prop :=
  Below w.heap.size w w' ∧ ((l.all goodB = false ∧ e = .returned (.tuple #[.pointer none, .int .i64 2])) ∨
    (l.all goodB = true ∧ ∃ d : List Rg, d.Perm l ∧ Sorted d ∧ ((addAll [] d = none ∧ e = .returned (.tuple #[.pointer none, .int .i64 9])) ∨
      ∃ m g v, addAll [] d = some m ∧ e = .returned (.tuple #[.pointer (some ⟨g, 0, none⟩), .int .i64 0]) ∧ w.heap.size ≤ g ∧ MapG w' w.heap.size g v m)))

theorem getD_mem {l : List Rg} {j : Nat} (h : j < l.length) : l.getD j default ∈ l := by
  rw [List.getD_eq_getElem?_getD, List.getElem?_eq_getElem h]; simp
theorem all_good {l : List Rg} (h : ∀ j, j < l.length → goodB (l.getD j default) = true) : l.all goodB = true := by
  rw [List.all_eq_true]
  intro x hx
  obtain ⟨j, hj, rfl⟩ := List.getElem_of_mem hx
  have := h j hj
  rwa [List.getD_eq_getElem?_getD, List.getElem?_eq_getElem hj] at this
theorem not_good {l : List Rg} {j : Nat} (hj : j < l.length) (h : goodB (l.getD j default) = false) : l.all goodB = false := by
  rw [List.all_eq_false]
  exact ⟨_, getD_mem hj, by rw [h]; exact Bool.false_ne_true⟩

theorem addAll_next {d m : List Rg} {k : Nat} (hk : k < d.length) (h : addAll [] (d.take k) = some m) : addAll [] (d.take (k + 1)) = addL m (d.getD k default) := by
  rw [List.take_add_one, List.getElem?_eq_getElem hk, addAll_append, h]
  simp [addAll, List.getD_eq_getElem?_getD, List.getElem?_eq_getElem hk]
theorem addAll_stop {d m : List Rg} {k : Nat} (hk : k < d.length) (h : addAll [] (d.take k) = some m) (hn : addL m (d.getD k default) = none) : addAll [] d = none := by
  rw [← List.take_append_drop (k + 1) d, addAll_append, addAll_next hk h, hn]; rfl
theorem MapG.alloc {w : World} {base g : Nat} {v : Value} {l : List Rg} (h : MapG w base g v l) (o : Obj) : MapG (w.alloc o) base g v l := ⟨h.1.alloc o, h.2.alloc o⟩
theorem MapG.less {w : World} {base base' g : Nat} {v : Value} {l : List Rg} (h : MapG w base g v l) (hb : base' ≤ base) : MapG w base' g v l := by
  refine ⟨h.1, h.2.1, ?_⟩
  rcases h.2.2 with h1 | ⟨g, c, cur, e1, e2, e3⟩
  · exact .inl h1
  · exact .inr ⟨g, c, cur, e1, Nat.le_trans hb e2, e3⟩
theorem MapG.new (w : World) : MapG (w.alloc (.cells #[.bool true, .slice none 0 0] 47)) w.heap.size w.heap.size (.slice none 0 0) [] :=
  ⟨Blk.new w 47 _, World.ownsRow_nil _ _ _ _⟩

set_option maxHeartbeats 4000000 in
theorem of_any (A : Option Addr) (c : Nat) (l : List Rg) (w : World) (hr : RdR w w.heap.size A l) (hl : l.length ≤ 1000000) (h32 : In32 l) :
    Calls Try.prog 8 #[.slice A l.length c] w fun e w' => OfPost l w e w' := by
  go_enter Try.func8, Try.ntmps8
  go_wp2
  go_loopw [12] (fun i wr => ∃ k : Nat, i = .int .i64 k ∧ k ≤ l.length ∧ Hid (∀ j, j < k → goodB (l.getD j default) = true) ∧ Below w.heap.size w wr) (fun i _ => l.length - (intOf i).toNat)
  case atStart => exact ⟨0, rfl, Nat.zero_le _, Lib.hid fun j h => by omega, Below.refl _ _⟩
  case round =>
    obtain ⟨k, rfl, hk, Hg, hb⟩ := hrel
    by_cases hlt : k < l.length
    · obtain ⟨b, off, rfl, hbl, hcs⟩ := hr (by omega)
      have hr2 := hcs k hlt
      have c0 := (hb.cell (p := ⟨b, off + k * 3, none⟩) hbl).trans (hr2 0 _ rfl)
      have c1 := (hb.cell (p := ⟨b, off + k * 3 + 1, none⟩) hbl).trans (hr2 1 _ rfl)
      have c2 := (hb.cell (p := ⟨b, off + k * 3 + 2, none⟩) hbl).trans (hr2 2 _ rfl)
      have hbad : goodB (l.getD k default) = false → Hid (l.all goodB = false) := fun h => Lib.hid (not_good hlt h)
      have hgood : goodB (l.getD k default) = true → Hid (∀ j, j < k + 1 → goodB (l.getD j default) = true) := fun h => Lib.hid fun j hj => by
        rcases Nat.lt_or_ge j k with h' | h'
        · exact Hg.out j h'
        · have : j = k := by omega
          subst this; exact h
      clear hr2 hcs hr h32
      generalize l.getD k default = x at *
      have hb1 : Below w.heap.size w (wr.alloc (.cells #[.int .i32 x.lo, .int .i32 x.hi, .int .i64 x.val] 24)) := hb.alloc hb.size _
      by_cases h1 : x.lo < 0
      · have Hb := hbad (by simp [goodB, h1])
        clear hbad hgood
        go_wp2
        go_ret2
        exact ⟨hb1, .inl ⟨Hb.out, rfl⟩⟩
      · by_cases h2 : x.hi < x.lo
        · have Hb := hbad (by simp [goodB, h2])
          clear hbad hgood
          go_wp2
          go_ret2
          exact ⟨hb1, .inl ⟨Hb.out, rfl⟩⟩
        · have Hb := hgood (by simp only [goodB, h1, h2]; rfl)
          clear hbad hgood
          go_wp2
          go_roundw
          case rel => exact ⟨k + 1, by go_num, by omega, Hb, hb1⟩
          case measure => simp [intOf]; omega
    · have hkl : k = l.length := by omega
      subst hkl
      have Hgood := Lib.hid (all_good Hg.out)
      have hr1 := (hr.below hb)
      have hcl := clone_any A c l wr (fun h => by obtain ⟨b, off, e1, e2, e3⟩ := hr1 h; exact ⟨b, off, e1, Nat.lt_of_lt_of_le e2 hb.size, e3⟩) (by omega)
      have Hcl := Lib.hid hcl
      have HR := Lib.hid hr
      clear hcl hr1 hr
      have h32' : Hid (In32 l) := Lib.hid h32
      clear h32
      go_wp2_with fail
      refine Hcl.out.mono ?_
      rintro e w1 ⟨v1, rfl, hrow1, hb1⟩
      have hso := sort_row v1 l wr.heap.size w1 hrow1 hb1.size hl
      have Hso := Lib.hid hso
      have Hrow1 := Lib.hid hrow1
      clear hso hrow1
      go_wp2_with fail
      refine Hso.out.mono ?_
      rintro e w2 ⟨rfl, d, hperm, hsorted, ⟨A2, c2, rfl, hrd, hbase⟩, hb2⟩
      have hdl : d.length = l.length := hperm.length_eq
      have Hd := Lib.hid hdl
      have hdle : d.length ≤ 1000000 := by omega
      have Hperm := Lib.hid hperm
      have Hsorted := Lib.hid hsorted
      have hB2 : Below w.heap.size w w2 := (hb.trans (hb1.mono hb.size)).trans (hb2.mono hb.size)
      have hmn := MapG.new w2
      have Hmn := Lib.hid hmn
      have hB3 : Below w.heap.size w (w2.alloc (.cells #[.bool true, .slice none 0 0] 47)) := hB2.alloc hB2.size _
      have hok : ∀ j, j < d.length → Hid (0 ≤ (d.getD j default).lo ∧ (d.getD j default).lo ≤ 2147483647) := fun j hj => Lib.hid (by
        have hm : d.getD j default ∈ l := hperm.mem_iff.1 (getD_mem hj)
        obtain ⟨i, hi, he⟩ := List.getElem_of_mem hm
        have h3 := h32'.out i hi
        have hg := (List.all_eq_true.1 Hgood.out) _ hm
        rw [List.getD_eq_getElem?_getD, List.getElem?_eq_getElem hi] at h3
        simp only [Option.getD_some, he] at h3
        generalize d.getD j default = y at *
        simp [goodB] at hg
        omega)
      clear hdl hperm hsorted hmn Hcl Hso Hg
      go_wp2_with fail
      go_loopw [35] (fun i wr => ∃ (k : Nat) (m : List Rg) (v : Value), i = .int .i64 k ∧ k ≤ d.length ∧ Hid (addAll [] (d.take k) = some m) ∧ Hid (MapG wr w2.heap.size w2.heap.size v m) ∧ Below w2.heap.size (w2.alloc (.cells #[.bool true, .slice none 0 0] 47)) wr) (fun i _ => d.length - (intOf i).toNat)
      case atStart => exact ⟨0, [], _, rfl, Nat.zero_le _, Lib.hid rfl, Hmn, Below.refl _ _⟩
      case round =>
        obtain ⟨k, m, v, rfl, hk, Ha, Hm, hb5⟩ := hrel
        have hsz5 : w2.heap.size ≤ wr.heap.size := by have := hb5.size; simp at this; omega
        have hB5 : Below w.heap.size w wr := hB3.trans (hb5.mono hB2.size)
        by_cases hlt2 : k < d.length
        · obtain ⟨b, off, rfl, hbl, hcs⟩ := hrd (by omega)
          have hr2 := hcs k hlt2
          have hb6 : Below w2.heap.size w2 (w2.alloc (.cells #[.bool true, .slice none 0 0] 47)) := (Below.refl _ _).alloc (Nat.le_refl _) _
          have c0 := ((hb6.trans hb5).cell (p := ⟨b, off + k * 3, none⟩) hbl).trans (hr2 0 _ rfl)
          have c1 := ((hb6.trans hb5).cell (p := ⟨b, off + k * 3 + 1, none⟩) hbl).trans (hr2 1 _ rfl)
          have c2 := ((hb6.trans hb5).cell (p := ⟨b, off + k * 3 + 2, none⟩) hbl).trans (hr2 2 _ rfl)
          have hml := addAll_length _ _ _ Ha.out
          have hml2 : m.length ≤ 1000000 := by simp at hml; omega
          have ho := (hok k hlt2).out
          have hstop := fun hn => addAll_stop hlt2 Ha.out hn
          have hnext := addAll_next hlt2 Ha.out
          have had := add_any w2.heap.size v m (d.getD k default) w2.heap.size _ (Hm.out.alloc (.cells #[.int .i32 (d.getD k default).lo, .int .i32 (d.getD k default).hi, .int .i64 (d.getD k default).val] 24)) (by simp; omega) (Nat.le_refl _) hml2 ho.1 ho.2
          clear hr2 hcs hrd hok hml
          generalize d.getD k default = x at *
          have hb7 : Below w2.heap.size (w2.alloc (.cells #[.bool true, .slice none 0 0] 47)) (wr.alloc (.cells #[.int .i32 x.lo, .int .i32 x.hi, .int .i64 x.val] 24)) := hb5.alloc hsz5 _
          have hB7 : Below w.heap.size w (wr.alloc (.cells #[.int .i32 x.lo, .int .i32 x.hi, .int .i64 x.val] 24)) := hB5.alloc hB5.size _
          cases hax : addL m x with
          | none =>
            have Hst := Lib.hid (hstop hax)
            rw [hax] at had
            have Had := Lib.hid had
            clear had hstop hnext hax ho
            go_wp2_with fail
            refine Had.out.mono ?_
            rintro e w3 ⟨rfl, h3, _⟩
            go_wp2_with fail
            go_ret2
            exact ⟨hB7.trans (h3.mono hB2.size), .inr ⟨Hgood.out, d, Hperm.out, Hsorted.out, .inl ⟨Hst.out, rfl⟩⟩⟩
          | some m' =>
            rw [hax] at hnext
            have Hn := Lib.hid hnext
            unfold Added at had
            rw [hax] at had
            have Had := Lib.hid had
            clear had hstop hnext hax ho
            go_wp2_with fail
            refine Had.out.mono ?_
            rintro e w3 ⟨rfl, h3, h4⟩
            obtain ⟨v', h5⟩ := h4 m' rfl
            have H5 := Lib.hid h5
            clear h4 h5
            go_wp2_with fail
            go_roundw
            case rel => exact ⟨k + 1, m', v', by go_num, by omega, Hn, H5, hb7.trans h3⟩
            case measure => simp [intOf]; omega
        · have hkl : k = d.length := by omega
          subst hkl
          have Hfin : Hid (addAll [] d = some m) := Lib.hid (by have := Ha.out; rwa [List.take_length] at this)
          go_wp2_with fail
          go_ret2
          exact ⟨hB5, .inr ⟨Hgood.out, d, Hperm.out, Hsorted.out, .inr ⟨m, _, v, Hfin.out, rfl, hB2.size, Hm.out.less hB2.size⟩⟩⟩
end Go.Proofs.Ytpghnoadeamplaa
