/- Attributes sorted, each once; a copy. -/
import Derived.Test.YtlhbnmaalhainaaComp
namespace Go.Proofs.Ytlhbnmaalhainaa
open Go.RowKit Go.Lib Go.Sort
set_option linter.unusedVariables false
set_option linter.unusedSimpArgs false

theorem rises_le : ∀ {a b : List At}, Rises a → (∀ y ∈ a, y ∈ b) → a.length ≤ b.length
  | [], b, _, _ => Nat.zero_le _
  | x :: a, b, ha, h => by
    obtain ⟨h1, h2⟩ := List.pairwise_cons.1 ha
    have hx : x ∈ b := h x (List.mem_cons_self ..)
    have hr := rises_le (b := b.erase x) h2 (fun y hy => by
      have hne : y ≠ x := fun e => by
        subst e
        have := h1 y hy
        rw [ltA_irrefl] at this
        cases this
      exact (List.mem_erase_of_ne hne).2 (h y (List.mem_cons_of_mem _ hy)))
    rw [List.length_erase_of_mem hx] at hr
    have hp : 0 < b.length := List.length_pos_of_mem hx
    rw [List.length_cons]
    omega
theorem sort_len (l : List At) : (sortA l).length ≤ l.length := rises_le (sort_rises l) fun y hy => mem_sort.1 hy
/-- A value that reads as attributes. -/
def RdV (w : World) (v : Value) (l : List At) : Prop := ∃ A c, v = .slice A l.length c ∧ ((A = none → c = 0) ∧ l.length ≤ c ∧ c ≤ maxLen) ∧ RdK kA w w.heap.size A l
theorem RdV.on {w w' : World} {v : Value} {l : List At} (h : RdV w v l) (hb : Below w.heap.size w w') : RdV w' v l := by
  obtain ⟨A, c, e, h0, h1⟩ := h
  exact ⟨A, c, e, h0, h1.on hb⟩
theorem RdV.nil (w : World) : RdV w (.slice none 0 0) [] := ⟨none, 0, rfl, ⟨fun _ => rfl, Nat.le_refl _, Nat.zero_le _⟩, fun h => by simp at h⟩
theorem RowK.rdv {w : World} {base : Nat} {v : Value} {l : List At} (h : RowK kA w base v l) : RdV w v l := by
  obtain ⟨A, c, e, h0, h1⟩ := h.rd0
  refine ⟨A, c, e, ⟨h0, ?_⟩, h1⟩
  rcases h.2 with ⟨e2, hn⟩ | ⟨g, cap, cur, e2, _, _, h5, h6, _⟩
  · rw [e] at e2
    injection e2 with e3 e4 e5
    omega
  · rw [e] at e2
    injection e2 with e3 e4 e5
    subst e5
    exact ⟨h5, h6⟩
theorem empty_row (w : World) : RowK kA (w.alloc (.cells #[] 29)) w.heap.size (.slice (some ⟨w.heap.size, 0, none⟩) 0 0) [] := by
  refine ⟨rfl, .inr ⟨w.heap.size, 0, #[], rfl, Nat.le_refl _, (show (w.heap.push (.cells #[] 29))[w.heap.size]? = _ from Array.getElem?_push_size), Nat.le_refl _, Nat.zero_le _, rfl, rfl⟩⟩
set_option maxRecDepth 100000 in
set_option maxHeartbeats 4000000 in
theorem clone_any (v : Value) (l : List At) (w : World) (hv : RdV w v l) (hl : l.length ≤ 1000000) :
    Calls Try.prog 63 #[v] w fun e w' => ∃ v', e = .returned v' ∧ RowK kA w' w.heap.size v' l ∧ Below w.heap.size w w' := by
  obtain ⟨A, c, rfl, ⟨h0, _, _⟩, hr⟩ := hv
  have q22 : ∀ (w : World) (a : Option Addr) (n c n' c' : Nat), (binOp .eql 22 (.slice a n c) (.slice none n' c')).run Try.prog w = .ok (.bool a.isNone) w := fun w a n c n' c' => Go.Lib.run_eql_slice_nil w 22 29 a n c n' c' Try.underlying22
  cases A with
  | none =>
    have hl0 := rd_none hr
    have hc0 := h0 rfl
    subst hl0 hc0
    clear hr h0
    go_enter Try.func63, Try.ntmps63
    go_wp2
    go_ret
    exact ⟨_, rfl, nil_row kA _ _, Below.refl _ _⟩
  | some ad =>
    have HR := Lib.hid hr
    have HN := Lib.hid (empty_row w)
    have HL := Lib.hid hl
    clear hr h0 hl
    have hrd := HR.out.below ((Below.refl w.heap.size w).alloc (Nat.le_refl _) (.cells #[] 29))
    have hln : ([] : List At).length + l.length ≤ 1000000000 := by have := HL.out; simp; omega
    have hbs : w.heap.size ≤ (w.alloc (.cells #[] 29)).heap.size := by simp
    have HX := Lib.hid (And.intro hrd (And.intro hln hbs))
    clear hrd hln hbs
    go_enter Try.func63, Try.ntmps63
    go_wp2_with (at_builtin; refine wpList_app kA rfl _ _ rfl l rfl HN.out rfl HX.out.1 (fun h => by cases h) HX.out.2.1 HX.out.2.2 ?_; intro v' w' hrow hgrow)
    go_ret
    exact ⟨v', rfl, hrow, ((Below.refl _ _).alloc (Nat.le_refl _) _).trans ((row_below HN.out hgrow (by simp)).mono (Nat.le_refl _))⟩

theorem h2_holds {w : World} {b off : Nat} {d : Array At} (h : HoldsK At.cells 2 w b off d) : H2 w b off d := fun j hj => ⟨h.cell hj (c := 0) (by decide), h.cell hj (c := 1) (by decide)⟩
/-- A row that the program owns, sorted. -/
theorem sort_row (g cap : Nat) (l : List At) (base : Nat) (w : World) (cur : Array Value) (hg : base ≤ g) (hh : w.heap[g]? = some (.cells cur 29 (0, 0))) (hcap : l.length ≤ cap) (hcs : cur.size = cap * 2) (htk : cur.toList.take (l.length * 2) = flatK kA l) (hb : base ≤ w.heap.size) (hl : l.length ≤ 1000000) :
    Calls Try.prog 64 #[.slice (some ⟨g, 0, none⟩) l.length cap, .func (.func 37) #[] #[]] w fun e w' => e = .returned (.tuple #[]) ∧ ∃ d : Array At, d.toList.Perm l ∧ d.size = l.length ∧ (∀ i j, i < j → j < d.size → ltA d[j]! d[i]! = false) ∧ H2 w' g 0 d ∧ Below base w w' := by
  have hH : HoldsK At.cells 2 w g 0 l.toArray := by
    intro j hj
    have hj' : j < l.length * 2 := by simpa using hj
    rw [get_flatK _ _ _ _ (by simpa using hj')]
    have hq : j / 2 < l.length := by omega
    have hB : Blk w g 29 cur := hh
    have hcj : j < cur.size := by omega
    have hc := hB.cell j
    have e1 : cur[j]? = (flatK kA l)[j]? := by
      rw [← Array.getElem?_toList, ← htk, List.getElem?_take_of_lt hj']
    have e2 := flat_at kA l (j / 2) (j % 2) hq (Nat.mod_lt _ (by decide))
    rw [show j / 2 * kA.size + j % 2 = j from by show j / 2 * 2 + j % 2 = j; omega] at e2
    refine ⟨?_, hB.frozen _⟩
    rw [Nat.zero_add, hc, e1, e2]
    rw [getD_toArray l _ hq]
    have hm : j % 2 = 0 ∨ j % 2 = 1 := by omega
    rcases hm with hm | hm <;> rw [hm] <;> rfl
  have hs := sort_any g 0 cap l.toArray w hH (Array.getElem?_eq_some_iff.1 hh).1 (by simp; omega)
  rw [List.size_toArray] at hs
  refine hs.mono ?_
  rintro e w' ⟨he, d', n, os, ⟨p1, _, p3⟩, hsd, rfl⟩
  have hsz2 : d'.size = l.length := by simpa using p1
  have hlt := (Array.getElem?_eq_some_iff.1 hh).1
  refine ⟨he, d', ?_, hsz2, ?_, h2_holds (holdsK_sortWorldK At.cells 2 w g 0 n l.toArray d' os hlt hH (by simpa using p1)), sortW_block hg hb⟩
  · rw [Array.extract_eq_self_of_le (by rw [hsz2]; exact Nat.le_refl _)] at p3
    rw [Array.extract_eq_self_of_le (by simp)] at p3
    simpa using p3
  · intro i j hij hj
    have := hsd i j (Nat.zero_le _) hij (by omega)
    rwa [ltOfA] at this
theorem compOut_rd {base : Nat} {w w' : World} {g : Nat} {l : List At} (h : CompOut base w g 0 l w') (hg : g < w'.heap.size) : RdK kA w' w'.heap.size (some ⟨g, 0, none⟩) l := fun hp => ⟨g, 0, rfl, hg, fun j hj i u hu => by
  have hi : i = 0 ∨ i = 1 := by
    have := (List.getElem?_eq_some_iff.1 hu).1
    have h2 : i < 2 := this
    omega
  rcases hi with rfl | rfl
  · have := (h.2 j hj).1
    rw [show (kA.cs (l.getD j default))[0]? = some (.string (sx (l.getD j default).t)) from rfl] at hu
    rw [← hu]; exact this
  · have := (h.2 j hj).2
    rw [show (kA.cs (l.getD j default))[1]? = some (.string (sx (l.getD j default).v)) from rfl] at hu
    rw [← hu]; exact this⟩
set_option maxHeartbeats 4000000 in
theorem sorted_any (v : Value) (l : List At) (w : World) (hv : RdV w v l) (hl : l.length ≤ 1000000) :
    Calls Try.prog 34 #[v] w fun e w' => ∃ v', e = .returned v' ∧ RdV w' v' (sortA l) ∧ Below w.heap.size w w' := by
  have HC := Lib.hid (clone_any v l w hv hl)
  have HL := Lib.hid hl
  clear hv hl
  go_enter Try.func34, Try.ntmps34
  go_wp2_with (go_at_call 63; (with_reducible refine HC.out.mono ?_); rintro e w1 ⟨v1, rfl, hrow, hb1⟩)
  obtain ⟨hlen, hrow⟩ := hrow
  rcases hrow with ⟨rfl, h0⟩ | ⟨g, cap, cur, rfl, hg, hh, hcap, hmax, hcs, htk⟩
  · have hl0 : l = [] := List.eq_nil_of_length_eq_zero h0
    subst hl0
    clear HL hlen h0
    go_wp2_with (first
      | (go_at_call 64; (with_reducible refine (sort_none 0 _ _).mono ?_); rintro e w2 ⟨rfl, rfl⟩)
      | (go_at_call 65; (with_reducible refine (compact_empty _ _ _).mono ?_); rintro e w3 ⟨rfl, rfl⟩))
    go_ret
    exact ⟨_, rfl, RdV.nil _, hb1⟩
  · have HS := Lib.hid (sort_row g cap l w.heap.size w1 cur hg hh hcap hcs htk hb1.size HL.out)
    have hgl := (Array.getElem?_eq_some_iff.1 hh).1
    have HF := Lib.hid (And.intro hg (And.intro hcap (And.intro hgl hmax)))
    obtain ⟨n, hln⟩ : ∃ n, n = l.length := ⟨_, rfl⟩
    rw [← hln] at HS HF hcap htk hlen ⊢
    have HN := Lib.hid hln
    clear hlen hg hh hcap hmax hcs htk hgl hln
    go_wp2_with (go_at_call 64; (with_reducible refine HS.out.mono ?_); rintro e w2 ⟨rfl, d, hp, hsz, hso, hH2, hb2⟩)
    have HC2 := Lib.hid (compact_any w.heap.size g 0 cap d w2 hH2 HF.out.1 (by rw [hsz]; have := HL.out; have := HN.out; omega) (by rw [hsz]; exact HF.out.2.1))
    rw [hsz] at HC2
    go_wp2_with (go_at_call 65; (with_reducible refine HC2.out.mono ?_); rintro e w3 ⟨rfl, hout⟩)
    go_ret
    rw [← hsz, compact_sort hp hso] at hout
    rw [← hsz, compact_sort hp hso]
    have hgl3 : g < w3.heap.size := Nat.lt_of_lt_of_le HF.out.2.2.1 (Nat.le_trans hb2.size hout.1.size)
    exact ⟨_, rfl, ⟨some ⟨g, 0, none⟩, cap, rfl, ⟨(fun h => by cases h), Nat.le_trans (sort_len l) (by rw [← HN.out]; exact HF.out.2.1), HF.out.2.2.2⟩, compOut_rd hout hgl3⟩, hb1.trans (hb2.trans hout.1)⟩
end Go.Proofs.Ytlhbnmaalhainaa
