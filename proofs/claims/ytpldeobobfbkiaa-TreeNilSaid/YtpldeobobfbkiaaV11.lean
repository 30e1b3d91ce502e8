/- Five keys put, one after another: what lies in memory. -/
import Derived.Test.YtpldeobobfbkiaaV10
namespace Go.Proofs.Ytpldeobobfbkiaa.Tlv
open Go.RowKit
set_option maxRecDepth 100000
set_option linter.unusedVariables false
set_option linter.unusedSimpArgs false

/-- A tree of one leaf. -/
structure StA (n0 T N : Nat) (cnt : Int) (v : Value) (l : List It) (w : World) : Prop where
  t : Blk w T 24 #[.int .i64 2, .int .i64 cnt, .pointer (some ⟨N, 0, none⟩)]
  n : Blk w N 44 #[v, .slice none 0 0]
  r : RowK kI w n0 v l
  hT : n0 ≤ T
  hN : n0 ≤ N
def SA (T N : Nat) (v : Value) : Nat → Prop := fun k => k = T ∨ SL N v k
theorem StA.on {n0 T N : Nat} {cnt : Int} {v : Value} {l : List It} {w w' : World} (h : StA n0 T N cnt v l w) (hb : Below w.heap.size w w') : StA n0 T N cnt v l w' := ⟨h.t.on hb, h.n.on hb, h.r.on hb, h.hT, h.hN⟩
theorem StA.le {n0 T N : Nat} {cnt : Int} {v : Value} {l : List It} {w : World} (h : StA n0 T N cnt v l w) : n0 ≤ w.heap.size := Nat.le_trans h.hT (Nat.le_of_lt h.t.lt)
theorem StA.lo {n0 T N : Nat} {cnt : Int} {v : Value} {l : List It} {w : World} (h : StA n0 T N cnt v l w) : ∀ k, SA T N v k → n0 ≤ k := fun k hk => by
  rcases hk with e | e | e
  · subst e; exact h.hT
  · subst e; exact h.hN
  · exact (World.ownsRow.lt h.r k e).1
theorem StA.key {n0 T N : Nat} {cnt : Int} {v : Value} {l : List It} {w : World} (h : StA n0 T N cnt v l w) {k : Nat} {i : Int} (hk : Key w k i) : ¬ SA T N v k := fun hs => by
  rcases hs with e | e | e
  · exact hk.ne h.t (by decide) e
  · exact hk.ne h.n (by decide) e
  · exact own_key h.r hk (by decide) e
theorem StA.nT {n0 T N : Nat} {cnt : Int} {v : Value} {l : List It} {w : World} (h : StA n0 T N cnt v l w) : ¬ SL N v T := fun hs => by
  rcases hs with e | e
  · exact blk_ne h.t h.n (by decide) e
  · exact own_ne h.r h.t (by decide) e
def AOut (n0 T N : Nat) (cnt' val t : Int) (v : Value) (l : List It) (w : World) (e : Ending) (w' : World) : Prop :=
  e = .returned (.tuple #[.int .i64 0, .bool false]) ∧ ∃ v' b c, StA n0 T N cnt' v' (l ++ [⟨b, c, val⟩]) w' ∧ Key w' b t ∧ Fr (SA T N v) w w'
theorem stepA (n0 T N kb kc : Nat) (cnt cnt' val t : Int) (v : Value) (l : List It) (w : World) (h : StA n0 T N cnt v l w) (hl : ((l.length : Int) == 3) = false) (hl9 : l.length ≤ 900) (hc : IntKind.i64.wrap (cnt + 1) = cnt') (hk : Key w kb t)
    (HF : ∀ X b c, Below w.heap.size w X → Key X b t → ∀ W, Below X.heap.size X W → Calls Try.prog 18 #[.pointer (some ⟨N, 0, none⟩), keyV b c] W fun e w' => e = .returned (.tuple #[.int .i64 (l.length : Int), .bool false]) ∧ Below W.heap.size W w') :
    Calls Try.prog 4 #[.pointer (some ⟨T, 0, none⟩), keyV kb kc, .int .i64 val] w (AOut n0 T N cnt' val t v l w) := by
  obtain ⟨A, cN, rfl, _, _⟩ := h.r.rd0
  refine (Put_nf T N l.length cN kb kc A cnt cnt' val t _ w (fun X b c e w' => PutOut n0 N (.slice A l.length cN) (l ++ [⟨b, c, val⟩]) X e w' ∧ e = .returned (.tuple #[.int .i64 0, .bool false]) ∧ Blk w' T 24 #[.int .i64 2, .int .i64 cnt, .pointer (some ⟨N, 0, none⟩)]) (fun X b c e w' hq => hq.2) h.t h.n hl hc hk ?_).mono ?_
  · intro X b c hb hkX
    have hX := h.on hb
    refine (put_leaf n0 N b c l.length cN val _ A l X hX.n hX.r hX.le hl9 (HF X b c hb hkX)).mono ?_
    intro e w' hq
    obtain ⟨v', he, h1, h2, h3⟩ := hq
    exact ⟨⟨v', he, h1, h2, h3⟩, he, h3.b hX.t hX.nT⟩
  · intro e w' hq
    obtain ⟨he, X, b, c, wb, hb, hkX, ⟨⟨v', _, h1, h2, h3⟩, _, hTb⟩, hw⟩ := hq
    subst hw
    have hX := h.on hb
    have kT := hTb.set_ 1 (.int .i64 cnt')
    have hTN : T ≠ N := blk_ne h.t h.n (by decide)
    refine ⟨he, v', b, c, ⟨by simpa using kT, h1.far (p := ⟨T, 1, none⟩) (fun e => hTN e.symm) _, h2.set (own_ne h2 hTb (by decide)) _, h.hT, h.hN⟩, ?_, ?_⟩
    · exact ((h3.mono (fun k hk => Or.inr hk)).set (S := SA T N (.slice A l.length cN)) (.inl rfl) _).key hkX (hX.key hkX)
    · exact (Fr.of hb).trans ((h3.mono (fun k hk => Or.inr hk)).set (S := SA T N (.slice A l.length cN)) (.inl rfl) _)
/-- A tree of a root and two leaves. -/
structure St2 (n0 T P N R : Nat) (cnt : Int) (vP vC vN vR : Value) (x2 : It) (l : List It) (w : World) : Prop where
  t : Blk w T 24 #[.int .i64 2, .int .i64 cnt, .pointer (some ⟨P, 0, none⟩)]
  p : Blk w P 44 #[vP, vC]
  n : Blk w N 44 #[vN, .slice none 0 0]
  r : Blk w R 44 #[vR, .slice none 0 0]
  rP : RowK kI w n0 vP [x2]
  rC : RowK kP w n0 vC [N, R]
  rR : RowK kI w n0 vR l
  hT : n0 ≤ T
  hP : n0 ≤ P
  hN : n0 ≤ N
  hR : n0 ≤ R
  pr : P ≠ R
  nr : N ≠ R
theorem St2.on {n0 T P N R : Nat} {cnt : Int} {vP vC vN vR : Value} {x2 : It} {l : List It} {w w' : World} (h : St2 n0 T P N R cnt vP vC vN vR x2 l w) (hb : Below w.heap.size w w') : St2 n0 T P N R cnt vP vC vN vR x2 l w' :=
  ⟨h.t.on hb, h.p.on hb, h.n.on hb, h.r.on hb, h.rP.on hb, h.rC.on hb, h.rR.on hb, h.hT, h.hP, h.hN, h.hR, h.pr, h.nr⟩
theorem St2.le {n0 T P N R : Nat} {cnt : Int} {vP vC vN vR : Value} {x2 : It} {l : List It} {w : World} (h : St2 n0 T P N R cnt vP vC vN vR x2 l w) : n0 ≤ w.heap.size := Nat.le_trans h.hT (Nat.le_of_lt h.t.lt)
def Out4 (n0 T N : Nat) (cN : Nat) (vN : Value) (cnt' : Int) (x2 x3 : It) (w : World) (e : Ending) (w' : World) : Prop :=
  e = .returned (.tuple #[.int .i64 0, .bool false]) ∧ ∃ P R vP vC vR vN' b c, St2 n0 T P N R cnt' vP vC vN' vR x2 [x3, ⟨b, c, 4⟩] w' ∧ (∃ g c', vN' = .slice (some ⟨g, 0, none⟩) 1 c') ∧ Key w' b 4 ∧ Below n0 w w' ∧ (∀ k i, Key w k i → Key w' k i)
theorem step4 (n0 T N kb kc : Nat) (cnt cnt' : Int) (v : Value) (x1 x2 x3 : It) (w : World) (h : StA n0 T N cnt v [x1, x2, x3] w) (hc : IntKind.i64.wrap (cnt + 1) = cnt') (hk : Key w kb 4) (hv : x2.v ≠ x3.v)
    (k2 : Key w x2.b 2) (k3 : Key w x3.b 3) :
    Calls Try.prog 4 #[.pointer (some ⟨T, 0, none⟩), keyV kb kc, .int .i64 4] w (Out4 n0 T N 0 v cnt' x2 x3 w) := by
  obtain ⟨gN, cN, rfl⟩ := row_form h.r (by simp)
  simp only [List.length_cons, List.length_nil, Nat.reduceAdd] at h ⊢
  have hTN : T ≠ N := blk_ne h.t h.n (by decide)
  obtain ⟨cg, kgN, _, hgN⟩ := row_blk h.r
  have hTg : T ≠ gN := blk_ne h.t kgN (by decide)
  have hin : ∀ w1 P gC, NewRoot T N P gC cnt w w1 → ∀ X, Below w1.heap.size w1 X → SpIn n0 T P N gC gN 1 cN (.int .i64 cnt) (.pointer (some ⟨P, 0, none⟩)) x1 x2 x3 X := fun w1 P gC nr X hb =>
    ⟨nr.t.on hb, nr.p.on hb, (nr.c.low h.le).on hb, (nr.fr.b h.n (fun e => hTN e.symm)).on hb, (nr.fr.row h.r (fun k hk e => own_ne h.r h.t (by decide) (e ▸ hk))).on hb, fun e => by have := nr.hi; have := h.n.lt; omega⟩
  have hkey : ∀ w1 P gC, NewRoot T N P gC cnt w w1 → ∀ X, Below w1.heap.size w1 X → ∀ k i, Key w k i → Key X k i := fun w1 P gC nr X hb k i hk => (nr.fr.key hk (fun e => hk.ne h.t (by decide) e)).on hb
  refine (Put_f T N cN kb kc (some ⟨gN, 0, none⟩) cnt cnt' 4 4 _ w (fun w1 P gC X b c e w' => PutSp n0 T P N gN gC cN (.int .i64 cnt) (.pointer (some ⟨P, 0, none⟩)) x2 x3 ⟨b, c, 4⟩ X e w') ?_ h.t h.n hc hk ?_).mono ?_
  · intro w1 P gC X b c e w' hq
    obtain ⟨vP, vC, vR, R, he, sp, _⟩ := hq
    exact ⟨he, sp.t⟩
  · intro w1 P gC nr X b c hb hkX
    exact put_split n0 T P N gC gN 1 cN b c 4 2 3 4 _ _ x1 x2 x3 X (hin w1 P gC nr X hb) (Nat.le_trans h.le (Nat.le_trans nr.fr.bel.size hb.size)) hv (hkey w1 P gC nr X hb _ _ k2) (hkey w1 P gC nr X hb _ _ k3) hkX (by decide +kernel) (by decide +kernel)
  · intro e w' hq
    obtain ⟨he, w1, P, gC, X, b, c, wb, nr, hb, hkX, ⟨vP, vC, vR, R, _, sp, rP, rC, kR, rR, hR⟩, hw⟩ := hq
    subst hw
    have hi := hin w1 P gC nr X hb
    have kT := sp.t.set_ 1 (.int .i64 cnt')
    have hTP : T ≠ P := blk_ne sp.t sp.p (by decide)
    have hTR : T ≠ R := blk_ne sp.t kR (by decide)
    have hPX := hi.p.lt
    have hNX := hi.n.lt
    have hwP : n0 ≤ P := Nat.le_trans h.le nr.hi
    have hn0X : n0 ≤ X.heap.size := Nat.le_trans hwP (Nat.le_of_lt hPX)
    have fS : Fr (fun k => k = T ∨ SS P N gN gC k) X (wb.setCell ⟨T, 1, none⟩ (.int .i64 cnt')) := Fr.set (S := fun k => k = T ∨ SS P N gN gC k) (sp.fr.mono (fun k hk => Or.inr hk)) (.inl rfl) _
    have keyX : ∀ k i, Key X k i → Key (wb.setCell ⟨T, 1, none⟩ (.int .i64 cnt')) k i := fun k i hk => fS.key hk (fun hs => hs.elim (fun e => hk.ne hi.t (by decide) e) (hi.key hk))
    obtain ⟨cc, kgC, _, hgC⟩ := row_blk nr.c
    refine ⟨he, P, R, vP, vC, vR, _, b, c, ⟨by simpa using kT, sp.p.far (p := ⟨T, 1, none⟩) (fun e => hTP e.symm) _, sp.n.far (p := ⟨T, 1, none⟩) (fun e => hTN e.symm) _, kR.far (p := ⟨T, 1, none⟩) (fun e => hTR e.symm) _,
      rP.set (own_ne rP sp.t (by decide)) _, rC.set (own_ne rC sp.t (by decide)) _, rR.set (own_ne rR sp.t (by decide)) _, h.hT, hwP, h.hN, by omega, by omega, by omega⟩, ⟨gN, cN, rfl⟩, keyX _ _ hkX, ?_, fun k i hk => keyX k i (hkey w1 P gC nr X hb k i hk)⟩
    have b1 : Below n0 w w1 := nr.fr.below (fun k hk => hk ▸ h.hT) h.le
    have b2 : Below n0 X (wb.setCell ⟨T, 1, none⟩ (.int .i64 cnt')) := fS.below (fun k hk => by
      rcases hk with e | e | e | e | e
      · subst e; exact h.hT
      · subst e; exact hwP
      · subst e; exact h.hN
      · subst e; exact hgN
      · subst e; exact Nat.le_trans h.le hgC) hn0X
    exact (b1.trans (hb.mono (Nat.le_trans h.le nr.fr.bel.size))).trans b2
def Out5 (n0 T P N R : Nat) (cnt' : Int) (vP vC vN : Value) (x2 x3 x4 : It) (w : World) (e : Ending) (w' : World) : Prop :=
  e = .returned (.tuple #[.int .i64 0, .bool false]) ∧ ∃ vR b c, St2 n0 T P N R cnt' vP vC vN vR x2 [x3, x4, ⟨b, c, 5⟩] w' ∧ Key w' b 5 ∧ Below n0 w w' ∧ (∀ k i, Key w k i → Key w' k i)
theorem step5 (n0 T P N R kb kc : Nat) (cnt cnt' : Int) (vP vC vN vR : Value) (x2 x3 x4 : It) (w : World) (h : St2 n0 T P N R cnt vP vC vN vR x2 [x3, x4] w) (hc : IntKind.i64.wrap (cnt + 1) = cnt') (hk : Key w kb 5) (hv : x2.v ≠ x3.v)
    (k2 : Key w x2.b 2) (k4 : Key w x4.b 4) :
    Calls Try.prog 4 #[.pointer (some ⟨T, 0, none⟩), keyV kb kc, .int .i64 5] w (Out5 n0 T P N R cnt' vP vC vN x2 x3 x4 w) := by
  obtain ⟨gP, cP, rfl⟩ := row_form h.rP (by simp)
  obtain ⟨gC, cC, rfl⟩ := row_form h.rC (by simp)
  obtain ⟨gR, cR, rfl⟩ := row_form h.rR (by simp)
  simp only [List.length_cons, List.length_nil, Nat.reduceAdd] at h ⊢
  obtain ⟨gc, off, e, hgC, hCc⟩ := h.rC.cap.2.2.2 (by simp)
  injection e with e
  injection e with e1 e2 _
  subst e1 e2
  have hc1 : w.cell? ⟨gC, 1, none⟩ = some (.pointer (some ⟨R, 0, none⟩)) := by simpa [kP] using hCc 1 (by simp) 0 _ rfl
  obtain ⟨cr, kgR, _, hgR⟩ := row_blk h.rR
  have hSL : ∀ k, SL R (.slice (some ⟨gR, 0, none⟩) 2 cR) k → k = R ∨ k = gR := fun k h => h.elim .inl fun h => .inr (by simpa [Value.ownBlock] using h.symm)
  have hTn : ¬ SL R (.slice (some ⟨gR, 0, none⟩) 2 cR) T := fun hs => by
    rcases hSL _ hs with e | e
    · exact blk_ne h.t h.r (by decide) e
    · exact blk_ne h.t kgR (by decide) e
  have hPn : ¬ SL R (.slice (some ⟨gR, 0, none⟩) 2 cR) P := fun hs => by
    rcases hSL _ hs with e | e
    · exact h.pr e
    · exact blk_ne h.p kgR (by decide) e
  have hNn : ¬ SL R (.slice (some ⟨gR, 0, none⟩) 2 cR) N := fun hs => by
    rcases hSL _ hs with e | e
    · exact h.nr e
    · exact blk_ne h.n kgR (by decide) e
  have hKn : ∀ k i, Key w k i → ¬ SL R (.slice (some ⟨gR, 0, none⟩) 2 cR) k := fun k i hk hs => by
    rcases hSL _ hs with e | e
    · exact hk.ne h.r (by decide) e
    · exact hk.ne kgR (by decide) e
  refine (Put_nf T P 1 cP kb kc (some ⟨gP, 0, none⟩) cnt cnt' 5 5 _ w (fun X b c e w' => PutOut n0 R (.slice (some ⟨gR, 0, none⟩) 2 cR) ([x3, x4] ++ [⟨b, c, 5⟩]) X e w' ∧ e = .returned (.tuple #[.int .i64 0, .bool false]) ∧ Blk w' T 24 #[.int .i64 2, .int .i64 cnt, .pointer (some ⟨P, 0, none⟩)]) (fun X b c e w' hq => hq.2) h.t h.p rfl hc hk ?_).mono ?_
  · intro X b c hb hkX
    have hX := h.on hb
    refine (put_inner n0 T P R gC cP cC b c 2 cR 5 _ _ (some ⟨gR, 0, none⟩) (some ⟨gP, 0, none⟩) [x3, x4] X hX.t hX.p ((hb.cell (p := ⟨gC, 1, none⟩) hgC).trans hc1) hX.r hX.rR hX.le (by simp) rfl
      (find1 P b c n0 _ _ x2 2 5 X hX.p hX.rP (k2.on hb) hkX (by decide +kernel)) (find2 R b c n0 _ _ x3 x4 4 5 X hX.r hX.rR (k4.on hb) hkX (by decide +kernel))).mono ?_
    intro e w' hq
    obtain ⟨v', he, h1, h2, h3⟩ := hq
    exact ⟨⟨v', he, h1, h2, h3⟩, he, h3.b hX.t hTn⟩
  · intro e w' hq
    obtain ⟨he, X, b, c, wb, hb, hkX, ⟨⟨v', _, h1, h2, h3⟩, _, hTb⟩, hw⟩ := hq
    subst hw
    have hX := h.on hb
    have kT := hTb.set_ 1 (.int .i64 cnt')
    have hTP : T ≠ P := blk_ne h.t h.p (by decide)
    have hTN : T ≠ N := blk_ne h.t h.n (by decide)
    have hTR : T ≠ R := blk_ne h.t h.r (by decide)
    have hkXn : ¬ SL R (.slice (some ⟨gR, 0, none⟩) 2 cR) b := fun hs => by
      rcases hSL _ hs with e | e
      · exact hkX.ne hX.r (by decide) e
      · exact hkX.ne (kgR.on hb) (by decide) e
    have rPb := h3.row hX.rP (fun k hk hs => by
      rcases hSL _ hs with e | e <;> subst e
      · exact own_ne hX.rP hX.r (by decide) hk
      · exact rows_ne hX.rP hX.rR hv hk (by simp [Value.ownBlock]))
    have rCb := h3.row hX.rC (fun k hk hs => by
      rcases hSL _ hs with e | e <;> subst e
      · exact own_ne hX.rC hX.r (by decide) hk
      · exact own_ne hX.rC (kgR.on hb) (by decide) hk)
    have fS : Fr (fun k => k = T ∨ SL R (.slice (some ⟨gR, 0, none⟩) 2 cR) k) X (wb.setCell ⟨T, 1, none⟩ (.int .i64 cnt')) := Fr.set (S := fun k => k = T ∨ SL R (.slice (some ⟨gR, 0, none⟩) 2 cR) k) (h3.mono (fun k hk => Or.inr hk)) (.inl rfl) _
    refine ⟨he, v', b, c, ⟨by simpa using kT, (h3.b hX.p hPn).far (p := ⟨T, 1, none⟩) (fun e => hTP e.symm) _, (h3.b hX.n hNn).far (p := ⟨T, 1, none⟩) (fun e => hTN e.symm) _, h1.far (p := ⟨T, 1, none⟩) (fun e => hTR e.symm) _,
      rPb.set (own_ne rPb hTb (by decide)) _, rCb.set (own_ne rCb hTb (by decide)) _, h2.set (own_ne h2 hTb (by decide)) _, h.hT, h.hP, h.hN, h.hR, h.pr, h.nr⟩, ?_, ?_, ?_⟩
    · exact fS.key hkX (fun hs => hs.elim (fun e => hkX.ne hX.t (by decide) e) hkXn)
    · refine (hb.mono h.le).trans (fS.below (fun k hk => ?_) hX.le)
      rcases hk with e | e
      · subst e; exact h.hT
      · rcases hSL _ e with e | e <;> subst e
        · exact h.hR
        · exact hgR
    · exact fun k i hk => fS.key (hk.on hb) (fun hs => hs.elim (fun e => hk.ne h.t (by decide) e) (hKn k i hk))
end Go.Proofs.Ytpldeobobfbkiaa.Tlv
