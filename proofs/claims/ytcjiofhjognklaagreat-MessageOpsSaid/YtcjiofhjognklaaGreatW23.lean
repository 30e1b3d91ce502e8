/- An operation's bytes. -/
import Derived.Test.YtcjiofhjognklaaGreatW22

namespace Go.Proofs.YtcjiofhjognklaaGreat.Tlv
open Go.RowKit
set_option maxRecDepth 100000
set_option linter.unusedVariables false
set_option linter.unusedSimpArgs false

theorem few_all {l : List At} (h1 : l.length ≤ 50) (h2 : ∀ x ∈ l, mayA x = true) : FewA l := by
  have key : ∀ l : List At, (∀ x ∈ l, mayA x = true) → sumA l ≤ 1032 * l.length := by
    intro l
    induction l with
    | nil => intro _; simp [sumA]
    | cons x t ih =>
      intro hx
      have h3 := mayA_len (hx x (List.mem_cons_self ..))
      have h4 := ih fun y hy => hx y (List.mem_cons_of_mem _ hy)
      simp only [sumA, List.map_cons, List.sum_cons, List.length_cons] at h4 ⊢
      omega
  have := key l h2
  exact ⟨by omega, by omega⟩
/-- What may be is small. -/
structure MayD (o : Opn) : Prop where
  k : isK o.k = true
  nm : o.name.length ≤ 1000
  ds : o.dst.length ≤ 1000
  la : o.attrs.length ≤ 50
  aa : ∀ x ∈ o.attrs, mayA x = true
  pl : o.parts.length ≤ 8
  ps : ∀ s ∈ o.parts, mayN s = true
  cl : o.cur.length ≤ 4000
  n0 : 0 ≤ o.n
  n1 : o.n ≤ 1000
theorem mayD {o : Opn} (h : mayO o = true) : MayD o := by
  unfold mayO at h
  simp only [Bool.and_eq_true] at h
  obtain ⟨hk, h1, h2, h3, h4, h5⟩ := h
  have ht : ∀ {b s}, mayText b s = true → s.length ≤ 1000 := fun {b s} h => by
    unfold mayText at h
    simp only [Bool.and_eq_true] at h
    exact mayN_len h.1
  have ha : o.attrs.length ≤ 50 ∧ ∀ x ∈ o.attrs, mayA x = true := by
    unfold mayAt at h3
    split at h3
    · obtain ⟨x1, x2, _⟩ := YtcjiofhjognklaaGreat.mayL_iff.1 h3
      exact ⟨x1, x2⟩
    · split at h3
      · simp only [Bool.and_eq_true, decide_eq_true_eq, List.all_eq_true] at h3
        exact h3
      · split at h3
        · simp only [Bool.and_eq_true, decide_eq_true_eq, List.all_eq_true] at h3
          exact ⟨by omega, h3.2⟩
        · have := of_decide_eq_true h3
          rw [this]
          exact ⟨by simp, fun x hx => by simp at hx⟩
  have hp : o.parts.length ≤ 8 ∧ ∀ s ∈ o.parts, mayN s = true := by
    unfold mayPt at h4
    split at h4
    · simp only [Bool.and_eq_true, decide_eq_true_eq, List.all_eq_true] at h4
      exact h4
    · have := of_decide_eq_true h4
      rw [this]
      exact ⟨by simp, fun x hx => by simp at hx⟩
  have hg : o.cur.length ≤ 4000 ∧ 0 ≤ o.n ∧ o.n ≤ 1000 := by
    unfold mayPg at h5
    split at h5
    · simp only [Bool.and_eq_true, decide_eq_true_eq] at h5
      exact h5
    · simp only [Bool.and_eq_true, decide_eq_true_eq] at h5
      rw [h5.1, h5.2]
      simp
  exact ⟨hk, ht h1, ht h2, ha.1, ha.2, hp.1, hp.2, hg.1, hg.2.1, hg.2.2⟩
theorem MayD.few {o : Opn} (h : MayD o) : FewA o.attrs := few_all h.la h.aa
theorem MayD.psl {o : Opn} (h : MayD o) : ∀ s ∈ o.parts, s.length ≤ 1000 := fun s hs => mayN_len (h.ps s hs)
abbrev numB (t n : Int) : List Int := valB t (be8 n)
abbrev txtB (t : Int) (s : List UInt8) : List Int := valB t (bytesOf (sx s))
/-- An operation's bytes. -/
def opB (o : Opn) : List Int :=
  if fA o.k = true then [] ++ numB 1 o.k ++ txtB 2 o.name ++ valB 4 (atsB o.attrs)
  else if fT o.k = true then [] ++ numB 1 o.k ++ txtB 2 o.name ++ txtB 3 o.dst
  else if fN o.k = true then [] ++ numB 1 o.k ++ txtB 2 o.name
  else if fP o.k = true then [] ++ numB 1 o.k ++ valB 5 (partsB o.parts) ++ valB 6 o.cur ++ numB 7 o.n
  else [] ++ numB 1 o.k ++ valB 6 o.cur ++ numB 7 o.n
theorem be8_length (n : Int) : (be8 n).length = 8 := rfl
theorem atsB_few {l : List At} (h : FewA l) : (atsB l).length ≤ 103000 := by
  rw [atsB_len]
  have h1 := h.many
  have h2 := h.sum
  omega
/-- The call's own blocks, below the writer's. -/
structure BW (w : World) (cs fs : Array Value) (b g : Nat) (W : World) : Prop where
  bel : Below w.heap.size w W
  op : Blk W w.heap.size 27 cs
  fd : Blk W b 83 fs
  lo : w.heap.size < g
  lb : b < g
theorem BW.step {w : World} {cs fs : Array Value} {b g : Nat} {W W' : World} (h : BW w cs fs b g W) (hb : WB g W W') : BW w cs fs b g W' :=
  ⟨h.bel.trans (hb.bel.mono (Nat.le_of_lt h.lo)), h.op.below hb.bel h.lo, h.fd.below hb.bel h.lb, h.lo, h.lb⟩
theorem BW.rest {w : World} {cs fs : Array Value} {b g : Nat} {W W' : World} (h : BW w cs fs b g W) (hb : Below W.heap.size W W') (hg : g ≤ W.heap.size) : BW w cs fs b g W' :=
  ⟨h.bel.trans (hb.mono (Nat.le_trans (Nat.le_of_lt h.lo) hg)), h.op.on hb, h.fd.on hb, h.lo, h.lb⟩
def OpOut (o : Opn) (w : World) (e : Ending) (w' : World) : Prop := ∃ A n c, e = .returned (.tuple #[.slice A n c, .int .i64 0]) ∧ n = (opB o).length ∧ Row w' w.heap.size (.slice A n c) (opB o) ∧ Below w.heap.size w w'
theorem end_ws (g m : Nat) (q : List Int) (W : World) (h : WS W g g (some q) m) (hl : q.length ≤ 1000000000000) :
    Hid (Calls Tryz.prog 51 #[ptr g] W fun e w' => ∃ v', e = .returned (.tuple #[v', .int .i64 0]) ∧ Row w' W.heap.size v' q ∧ Below W.heap.size W w') := Lib.hid (by
  obtain ⟨v, h1, h2⟩ := h
  exact end_ok g v m q g W h1 h2 hl)
theorem opBytes_no (o : Opn) (va vp vc : Value) (w : World) (ho : OpAt w o va vp vc) (hl : Lim o) (hm : mayO o = false) : Calls Tryz.prog 9 #[opVal o va vp vc] w fun e w' => e = .returned (.tuple #[.slice none 0 0, .int .i64 2]) ∧ Below w.heap.size w w' := by
  obtain ⟨Aa, ca, na, rfl, _, _⟩ := rdv_len ho.a
  obtain ⟨Ap, cp, np, rfl⟩ := ho.p.len
  obtain ⟨Ac, cc, nc, rfl, _⟩ := ho.c.len
  have hb : Below w.heap.size w (w.alloc (.cells (opCs o (.slice Aa na ca) (.slice Ap np cp) (.slice Ac nc cc)) 27)) := (Below.refl _ _).alloc (Nat.le_refl _) _
  have h := mayOp_any o _ _ _ _ (ho.on hb) hl
  rw [hm] at h
  have HM := Lib.hid h
  have HB := Lib.hid hb
  clear hb ho hl hm h
  go_enter Tryz.func9, Tryz.ntmps9
  go_wp2_with ((with_reducible refine HM.out.mono ?_); rintro e w1 ⟨rfl, hb1⟩; have HB1 := Lib.hid (HB.out.trans (hb1.mono HB.out.size)); clear hb1)
  go_ret2
  exact ⟨rfl, HB1.out⟩
end Go.Proofs.YtcjiofhjognklaaGreat.Tlv
