/- slices.AppendSeq and Collect, of weights; weigh.Of. -/
import Derived.Test.YtlemiejmjdhcgaaWalk
namespace Go.Proofs.Ytlemiejmjdhcgaa
open Go.RowKit Go.Shelf
set_option linter.unusedVariables false
set_option linter.unusedSimpArgs false
attribute [local go_sem] Oper.semAt_some

theorem row_stays {W W' : World} {base B : Nat} {v : Value} {l : List Wt} {row : Option Nat} (h : RowK kW W base v l) (hg : W.grownBy W' row) (hr : ∀ r, row = some r → B ≤ r ∧ ∃ o : Obj, W.heap[r]? = some o ∧ privO pvW o = true) : RowK kW W' base v l := by
  refine World.ownsRow.kept h hg ?_
  rcases h.2 with ⟨rfl, _⟩ | ⟨g, cap, cur, rfl, _, hh, _⟩
  · exact .inl rfl
  · refine .inr fun e => ?_
    obtain ⟨_, o, ho, hp⟩ := hr g e.symm
    rw [hh] at ho
    cases ho
    simp [privO, pvW, kW] at hp
theorem kp_row {W W' : World} {n₀ base : Nat} {v : Value} {l : List Wt} (h : RowK kW W base v l) (hg : W.grownBy W' v.ownBlock) (hn : n₀ ≤ base) (hs : n₀ ≤ W.heap.size) : KP n₀ tyW W W' := by
  refine ⟨(Below.refl _ _).grown hg hs (fun k hk => by have := (World.ownsRow.lt h k hk).1; omega), fun b t cs ht hb => hb.grown hg (fun e => ?_), ⟨hg.size, fun k o hk ho => (hg.block k (Array.getElem?_eq_some_iff.1 hk).1 (fun e => by rw [own_cells h e.symm hk] at ho; cases ho)).trans hk⟩⟩
  rcases h.2 with ⟨rfl, _⟩ | ⟨g, cap, cur, rfl, _, hh, _⟩
  · simp [Value.ownBlock] at e
  · have hgb : b = g := by simpa [Value.ownBlock] using e
    subst hgb
    unfold Blk at hb
    rw [hh] at hb
    cases hb
    cases ht

/-- What the row's own variable holds. -/
structure AI (W : World) (B8 base : Nat) (pre : List Wt) (Wp : World) : Prop where
  own : ∃ v, Blk Wp B8 27 #[v] ∧ RowK kW Wp base v pre
  bel : Below W.heap.size W Wp
  le : base ≤ Wp.heap.size

set_option maxRecDepth 100000 in
set_option maxHeartbeats 8000000 in
theorem append_T (l : List Wt) (N : Nat) (hN : N ≤ 1000000) (lb : Array Value) (Sp : List Wt → Prop) (W : World)
    (hseq : ∀ W1, Below W.heap.size W W1 → SeqT pvW W.heap.size tyW 4 17 lb (fun x : Wt => #[x.agg]) (fun _ _ => True) (fun ys => ys = l) Sp N W1) :
    Calls Try.prog 19 #[.slice none 0 0, .func (.func 17) #[] lb] W fun e w' => ∃ v, e = .returned v ∧ RowK kW w' W.heap.size v l ∧ Below W.heap.size W w' := by
  refine (callsIn_wide (n := 5)).1 ?_
  refine callsIn_of_wp_marks Try.func19 rfl trivial ?_ rfl
  refine wpIn_wide.2 ?_
  simp only [Try.ntmps19, List.size_toArray, List.length_cons, List.length_nil, Nat.reduceAdd, Nat.reduceSub, Array.replicate_succ, Array.replicate_zero, List.push_toArray, List.append_toArray, List.nil_append, List.cons_append]
  generalize hQ : bodyPostM _ _ _ _ _ = Q'
  have HQ := Lib.hid hQ
  clear hQ
  have hb0 : Below W.heap.size W (W.alloc (.cells #[.slice none 0 0] 27)) := (Below.refl _ _).alloc (Nat.le_refl _) _
  have b8 := Blk.new W 27 #[.slice none 0 0]
  have hz : (W.alloc (.cells #[.slice none 0 0] 27)).heap.size = W.heap.size + 1 := by simp
  go_wp2_with fail
  generalize W.alloc (.cells #[.slice none 0 0] 27) = Ws at *
  refine (wpIn_wide (n := 5)).1 ?_
  refine range_T (pv := pvW) (n₀ := W.heap.size) (ty := tyW) (by omega) (gf := 17) (lb := lb) rfl (enters_of Try.func17 (by kernel_rfl) rfl) (hseq Ws hb0) (Below.refl _ _) (by omega) (fun _ => rfl)
    (AI W W.heap.size Ws.heap.size) (fun _ _ _ => False)
    ?stI (fun _ _ _ _ _ hs _ _ => hs) ⟨⟨_, b8, nil_row _ _ _⟩, hb0, Nat.le_refl _⟩
    (fun x a' Wp => ∃ Bx, Ws.heap.size ≤ Bx ∧ Blk Wp Bx 31 #[.int .u16 x.a, .int .u16 x.b, .int .u16 x.c, .int .u16 x.d] ∧ a' = { tmps := #[.slice none 0 0, .func (.func 17) #[] lb, .pointer (some ⟨W.heap.size, 0, none⟩), undef, .slice none 0 0, .pointer (some ⟨Bx, 0, none⟩), .func (.func 17) #[] lb, x.agg, undef, undef, undef, undef, undef], defers := [] })
    ?stA ?assign ?body ?done ?stop
  case stI =>
    intro pre A B row hs hg hr
    obtain ⟨v, h1, h2⟩ := hs.own
    exact ⟨⟨v, blk_stays (pv := pvW) rfl h1 hg hr, row_stays h2 hg hr⟩, hs.bel.grown hg (by have := hs.bel.size; omega) (fun k e => by have := (hr k e).1; omega), Nat.le_trans hs.le hg.size⟩
  case stA =>
    intro x a' _ A B row hs hg hr
    obtain ⟨Bx, h1, h2, h3⟩ := hs
    exact ⟨Bx, h1, blk_stays (pv := pvW) rfl h2 hg hr, h3⟩
  case assign =>
    intro lb' pre x Wp K hI _ hK
    have hle := hI.le
    obtain ⟨v, h1, h2⟩ := hI.own
    have hI1 : AI W W.heap.size Ws.heap.size pre (Wp.alloc (.cells #[.int .u16 x.a, .int .u16 x.b, .int .u16 x.c, .int .u16 x.d] 31)) := ⟨⟨v, h1.alloc _, h2.alloc _⟩, hI.bel.alloc hI.bel.size _, by simp; omega⟩
    gi_wp2
    exact hK _ _ (KP.alloc (by omega) _) hI1 ⟨Wp.heap.size, hle, Blk.new Wp 31 _, rfl⟩
  case body =>
    rintro lb' pre x a' Wp hlb ⟨r, hr⟩ hI ⟨Bx, hBx, bX, rfl⟩ hlt
    have hle := hI.le
    obtain ⟨v, h1, h2⟩ := hI.own
    have c8 := h1.cell 0
    have x0 := bX.cell 0
    have x1 := bX.cell 1
    have x2 := bX.cell 2
    have x3 := bX.cell 3
    have hlen : pre.length + 1 ≤ 1000000000 := by omega
    have HI := Lib.hid hI
    have H1 := Lib.hid h1
    have H2 := Lib.hid h2
    clear hI bX h1 h2
    gi_wp2_with (gi_at_builtin; refine wpListIn_app kW rfl _ _ rfl [x] rfl (H2.out.alloc _) rfl (rd_block (K := kW) (l := [x]) (Blk.new _ _ _) rfl) (fun e => by cases e) hlen (le_alloc hle) ?_; intro v' w' hrow' hgr'; have H8c := (H1.out.alloc (.cells #[.int .u16 x.a, .int .u16 x.b, .int .u16 x.c, .int .u16 x.d] 31)).grown hgr' (fun e => by have := (World.ownsRow.lt H2.out _ e.symm).1; omega); have c8' := H8c.cell 0; have f8' := H8c.frozen 0; obtain ⟨A9, c9, n9, hn9, rfl, _, _⟩ := hrow'.rdn)
    have hI := HI.out
    have hA := H2.out.alloc (.cells #[.int .u16 x.a, .int .u16 x.b, .int .u16 x.c, .int .u16 x.d] 31)
    have hkp : KP W.heap.size tyW Wp w' := (KP.alloc (by omega) _).trans (kp_row hA hgr' (by omega) (by simp; omega))
    have hne : (Value.slice A9 n9 c9).ownBlock ≠ some W.heap.size := fun e => by have := (World.ownsRow.lt hrow' _ e).1; omega
    have hsz := hkp.oth.size
    exact And.intro (hkp.trans (KP.set (Nat.le_refl _) H8c rfl 0 _) : KP W.heap.size tyW Wp _) (⟨⟨_, by simpa using H8c.set_ 0 (.slice A9 n9 c9), World.ownsRow.kept hrow' (grownBy_setCell' w' W.heap.size (.slice A9 n9 c9)) (.inr hne)⟩, (hI.bel.trans hkp.bel).setCell (p := ⟨W.heap.size, 0, none⟩) (Nat.le_refl _) _, by simp; omega⟩ : AI W W.heap.size Ws.heap.size (pre ++ [x]) _)
  case done =>
    rintro D ys Wp hD rfl hI hK
    obtain ⟨v, h1, h2⟩ := hI.own
    have c8 := h1.cell 0
    have hbel := hI.bel
    have h3 := row_kept h2 (grownBy_putObj' Wp D (.deferred none)) (fun r e => by cases e; exact ⟨_, hK, rfl⟩)
    have H3 : Hid (RowK kW (Wp.putObj D (.deferred none)) W.heap.size v ys) := Lib.hid ⟨h3.1, h3.2.imp id fun ⟨g, c', cur, e1, e2, e3⟩ => ⟨g, c', cur, e1, by omega, e3⟩⟩
    have HBL : Hid (Below W.heap.size W (Wp.putObj D (.deferred none))) := Lib.hid (hbel.grown (grownBy_putObj' Wp D (.deferred none)) hbel.size (fun k e => by cases e; omega))
    have hle := hI.le
    obtain ⟨A8, c8', n8, hn8, rfl, _, _⟩ := h2.rdn
    clear hI h1 h2 h3 hbel
    go_wp2_with fail
    rw [← HQ.out]
    refine ⟨by simp, .inl ⟨_, _, rfl, run_takeDeferred hK, ?_⟩⟩
    exact ⟨.slice A8 n8 c8', results_tmp (t := 4) rfl _ _ _, _, rfl, H3.out, HBL.out⟩
  case stop =>
    rintro D c pre Wp _ _ h _
    exact h.elim
end Go.Proofs.Ytlemiejmjdhcgaa
