/- Same of two tables; few; what is asked for. -/
import Derived.Test.YtidkpdoiblomjaaZ51
import Derived.Lib.QuietBelow
import Derived.Test.YtidkpdoiblomjaaZ48
import Derived.Test.YtidkpdoiblomjaaZ50
namespace Go.Proofs.Ytidkpdoiblomjaa.Tlv
open Go.RowKit Go.Maps Go.Lib Go.Sort
set_option maxRecDepth 100000
set_option linter.unusedVariables false
set_option linter.unusedSimpArgs false
theorem same_tab (g1 m1 g2 m2 base N : Nat) (T : Tb) (w : World) (h1 : Tab w base g1 m1 T N) (h2 : Tab w base g2 m2 T N) :
   Calls Try.prog 12 #[.pointer (some ⟨g1, 0, none⟩), .pointer (some ⟨g2, 0, none⟩)] w fun e w' => e = .returned (.bool true) ∧ Below w.heap.size w w' := by
 have c0 := h1.blk.cell 0
 have d0 := h2.blk.cell 0
 simp only [List.getElem?_toArray, List.getElem?_cons_zero, List.getElem?_cons_succ] at c0 d0
 have HN1 := Lib.hid (none_there g1 m1 w c0)
 have HN2 := Lib.hid (none_there g2 m2 w d0)
 have cA : ∀ d os, _ := fun d os => Calls.regrown_of (equalMaps m1 m2 base N T (grow (redrawn w d) os) (h1.rep.on (below_regrown w d os)) (h2.rep.on (below_regrown w d os)))
 have e0 := cell_regrown c0
 have e1 := cell_regrown d0
 clear h1 h2
 go_enter Try.func12, Try.ntmps12
 go_upto_region 3 with (first
   | (go_at_call 22; (with_reducible refine HN1.out.mono ?_); rintro e w2 ⟨rfl, rfl⟩; dsimp only)
   | (go_at_call 22; (with_reducible refine HN2.out.mono ?_); rintro e w2 ⟨rfl, rfl⟩; dsimp only))
 refine wp_region_quiet_below (by kernel_rfl) (by kernel_rfl) ?_
 repeat
   with_reducible refine wpQuiet_step (fun K hK => ?_)
   go_simp
   first
     | (with_reducible refine hK _ ?_; clear hK K)
     | (rw [if_neg (by first | decide | (intro h; cases h))]; with_reducible refine hK _ ?_; clear hK K)
     | (apply Exists.intro; refine ⟨fun _ => ?_, hK _ ?_⟩; (exact cA _ _); clear hK K)
 with_reducible refine wpQuiet_nil ?_
 rintro _ ⟨⟨dq, osq⟩, rfl⟩
 have HB2 := Lib.hid (below_regrown w dq osq)
 clear e0 e1 cA c0 d0 HN1 HN2
 generalize grow (redrawn w dq) osq = w2 at HB2 ⊢
 go_wp2
 go_ret
 exact ⟨rfl, HB2.out⟩
end Go.Proofs.Ytidkpdoiblomjaa.Tlv
namespace Go.Proofs.Ytidkpdoiblomjaa.Tlv
open Go.RowKit Go.Maps
set_option maxRecDepth 100000
set_option linter.unusedVariables false
set_option linter.unusedSimpArgs false
def GoodA (L : List Td) (rs : List Res) : Prop := L.length ≤ 25 ∧ ∀ i, i < L.length → ResGood (rs.getD i default)
theorem few_good {w : World} {v : Value} {L : List Td} {rs : List Res} {b : Bool} (ha : ActsAt w v L rs) (h : b = true → (L.length : Int) ≤ 25 ∧ ∀ i, i < L.length → FewR (rs.getD i default)) (hb : b = true) : GoodA L rs := by
 obtain ⟨h1, h2⟩ := h hb
 obtain ⟨A, c, _, _, _, _, h3⟩ := ha
 exact ⟨by omega, fun i hi => (h2 i hi).good (h3 i hi).lim⟩
theorem row_acts {w : World} {base : Nat} {v : Value} {L : List Td} {rs : List Res} (h : RowK kX w base v L) (hl : L.length = rs.length) (ha : ∀ i, i < L.length → ActOk w (L.getD i default) (rs.getD i default)) : ActsAt w v L rs := by
 obtain ⟨A, c, e, h0, h1⟩ := RowK.rd0 h
 refine ⟨A, c, e, ⟨h0, ?_⟩, h1, hl, ha⟩
 rcases h.2 with ⟨e2, hn⟩ | ⟨g, cap, cur, e2, _, _, h5, h6, _⟩
 · rw [e] at e2
   injection e2 with e3 e4 e5
   unfold maxLen
   omega
 · rw [e] at e2
   injection e2 with e3 e4 e5
   subst e5
   exact ⟨h5, h6⟩
theorem getD_app {α : Type} [Inhabited α] (l m : List α) (i : Nat) : (l ++ m).getD i default = if i < l.length then l.getD i default else m.getD (i - l.length) default := by
 by_cases h : i < l.length
 · rw [if_pos h, List.getD_eq_getElem?_getD, List.getElem?_append_left h, ← List.getD_eq_getElem?_getD]
 · rw [if_neg h, List.getD_eq_getElem?_getD, List.getElem?_append_right (by omega), ← List.getD_eq_getElem?_getD]
theorem acts_app {w : World} {base : Nat} {v v0 v1 : Value} {L M : List Td} {rs ss : List Res} (h : RowK kX w base v (L ++ M)) (h0 : ActsAt w v0 L rs) (h1 : ActsAt w v1 M ss) : ActsAt w v (L ++ M) (rs ++ ss) := by
 obtain ⟨_, _, _, _, _, e0, a0⟩ := h0
 obtain ⟨_, _, _, _, _, e1, a1⟩ := h1
 refine row_acts h (by simp [e0, e1]) fun i hi => ?_
 rw [getD_app, getD_app, ← e0]
 by_cases hl : i < L.length
 · rw [if_pos hl, if_pos hl]; exact a0 i hl
 · rw [if_neg hl, if_neg hl]; exact a1 _ (by rw [List.length_append] at hi; omega)
theorem good_app {L M : List Td} {rs ss : List Res} (e0 : L.length = rs.length) (h0 : GoodA L rs) (h1 : GoodA M ss) : ∀ i, i < (L ++ M).length → ResGood ((rs ++ ss).getD i default) := fun i hi => by
 rw [getD_app, ← e0]
 by_cases hl : i < L.length
 · rw [if_pos hl]; exact h0.2 i hl
 · rw [if_neg hl]; exact h1.2 _ (by rw [List.length_append] at hi; omega)
theorem actsP_app {L M : List Td} {rs ss : List Res} (e0 : L.length = rs.length) : actsP (L ++ M) (rs ++ ss) = actsP L rs ++ actsP M ss := by
 unfold actsP
 exact List.zipWith_append e0
theorem foldP_app (s : St) (p q : List (Int × Int × Res)) : foldP s (p ++ q) = foldP (foldP s p) q := by unfold foldP; rw [List.foldl_append]
def LawGoal (w : World) (e : Ending) (w' : World) : Prop := e = .returned (.bool true) ∧ Below w.heap.size w w'
theorem rise_facts (T : Tb) (N : Nat) (c n : Int) (r : Res) : (putC T N c n r = 0 ∧ (putT T N c n r c).isSome = true ∧ lateN (putT T N c n r) c = n ∧ ((T c).isSome = true → lateN T c < n)) ∨ (putC T N c n r ≠ 0 ∧ putT T N c n r = T) := by
 by_cases h : putC T N c n r = 0
 · refine .inl ⟨h, ?_, ?_, fun hs => ?_⟩
   · unfold putT; rw [if_pos h]; unfold upd; rw [if_pos rfl]; rfl
   · unfold putT; rw [if_pos h]; unfold lateN upd; rw [if_pos rfl]
   · unfold putC at h
     split at h
     · cases h
     · unfold lateN
       cases hT : T c with
       | none => rw [hT] at hs; cases hs
       | some x =>
         rw [hT] at h
         dsimp only at h ⊢
         by_cases hle : n ≤ x.1
         · rw [if_pos hle] at h; cases h
         · omega
 · exact .inr ⟨h, by unfold putT; rw [if_neg h]⟩
structure Two (w wr : World) (g m go mo : Nat) (s t : St) : Prop where
 a : Tab wr 0 g m s.1 s.2
 b : Tab wr 0 go mo t.1 t.2
 bel : Below w.heap.size w wr
theorem Two.on {w wr w' : World} {g m go mo : Nat} {s t : St} (h : Two w wr g m go mo s t) (hb : Below wr.heap.size wr w') : Two w w' g m go mo s t := ⟨h.a.on hb, h.b.on hb, h.bel.trans (hb.mono h.bel.size)⟩
theorem Tab.beside {w w' : World} {base g m N m2 : Nat} {T : Tb} (h : Tab w base g m T N) (hg : w.grownBy w' (some m2)) (hm : ∃ es clock, w.heap[m2]? = some (.map es clock)) (hne : m ≠ m2) : Tab w' base g m T N :=
 ⟨h.blk.mapT hg hm, h.rep.beside hg hm hne⟩
def CellsAt (w : World) (A : Option Addr) (L : List Td) (k : Nat) : Prop := ∀ W, Below w.heap.size w W → ∃ b off, A = some ⟨b, off, none⟩ ∧ b < w.heap.size ∧
   W.cell? ⟨b, off + k * 6, none⟩ = some (.int .u64 (L.getD k default).c) ∧ W.cell? ⟨b, off + k * 6 + 1, none⟩ = some (.int .u64 (L.getD k default).n) ∧ W.cell? ⟨b, off + k * 6 + 2, none⟩ = some (.int .i64 (L.getD k default).k) ∧
   W.cell? ⟨b, off + k * 6 + 3, none⟩ = some (.bool (L.getD k default).y) ∧ W.cell? ⟨b, off + k * 6 + 4, none⟩ = some (.slice (L.getD k default).A (L.getD k default).l (L.getD k default).a) ∧ W.cell? ⟨b, off + k * 6 + 5, none⟩ = some (.slice (L.getD k default).B (L.getD k default).l2 (L.getD k default).a2)
theorem acts_cells {w : World} {A : Option Addr} {L : List Td} {k : Nat} (h : RdK kX w w.heap.size A L) (hk : k < L.length) : CellsAt w A L k := fun W hb => td_cellsG kX rfl (fun _ => rfl) h hb hk
theorem latest_is (g m base N : Nat) (T : Tb) (c : Int) (w : World) (h : Tab w base g m T N) (hc : InU c) (is : Bool) (wa : Int) (h1 : (T c).isSome = is) (h2 : lateN T c = wa) : Calls Try.prog 10 #[.pointer (some ⟨g, 0, none⟩), .int .u64 c] w fun e w' => e = .returned (.tuple #[.int .u64 wa, .bool is]) ∧ Below w.heap.size w w' := by
 subst h1 h2
 exact latest_any g m base N T c w h hc
end Go.Proofs.Ytidkpdoiblomjaa.Tlv
