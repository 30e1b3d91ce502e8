/- A full child that is no leaf is split. -/
import Derived.Test.YtgjcomnljonffaaB11
namespace Go.Proofs.Ytgjcomnljonffaa.Tlv
open Go.RowKit
set_option maxRecDepth 100000
set_option linter.unusedVariables false
set_option linter.unusedSimpArgs false
set_option maxHeartbeats 8000000 in
theorem split_inner (T P C s j n1 c1 n2 c2 n3 c3 n4 c4 : Nat) (A1 A2 A3 A4 : Option Addr) (y z : Value) (li l r : List It) (m : It) (lp lc : List Nat) (w : World)
    (hS : Sp T P C s y z (.slice A1 n1 c1) (.slice A2 n2 c2) (.slice A3 n3 c3) (.slice A4 n4 c4) li (l ++ m :: r) lp lc w) (hl : l.length = s) (hr : r.length = s) (ht : 1 ≤ s ∧ s ≤ 63) (hj : j < n2) (hjC : lp.getD j 0 = C) (hjl : j ≤ li.length) (hlen : n2 = li.length + 1) (hn1 : n1 ≤ 200)
    (hPC : P ≠ C) (hne1 : ∀ k, (Value.slice A1 n1 c1).ownBlock = some k → (Value.slice A3 n3 c3).ownBlock ≠ some k) (hne2 : ∀ k, (Value.slice A2 n2 c2).ownBlock = some k → (Value.slice A4 n4 c4).ownBlock ≠ some k) (hk4 : n4 = s + s + 2 ∧ lc.length = n4) :
    Calls Try.prog 37 #[.pointer (some ⟨T, 0, none⟩), .pointer (some ⟨P, 0, none⟩), .int .i64 j] w (SplitOut T P C s j y z (.slice A1 n1 c1) (.slice A2 n2 c2) (.slice A4 n4 c4) A3 c3 li l r m lp lc w) := by
  obtain ⟨g4, rfl⟩ : ∃ g4, A4 = some ⟨g4, 0, none⟩ := by
    obtain ⟨g4, e, _⟩ := hS.cp.cellP (j := 0) (by omega)
    exact ⟨g4, e⟩
  obtain ⟨g2, rfl, cC⟩ := hS.rp.cellP hj
  rw [hjC] at cC
  have hn3 : n3 = s + s + 1 := by have := hS.ci.cases.1; rw [this]; simp; omega
  obtain ⟨g3, rfl, m0, m1⟩ := hS.ci.cellI (j := s) (by omega)
  have em : (l ++ m :: r).getD s default = m := by rw [← hl]; simp [List.getD_eq_getElem?_getD]
  rw [em] at m0 m1
  obtain ⟨mA, mc, mk, mv⟩ := m
  have p0 := hS.p.cell 0
  have p1 := hS.p.cell 1
  have k0 := hS.c.cell 0
  have t0 := hS.t.cell 0
  obtain ⟨nk, hnk⟩ : ∃ nk, nk = mk.length := ⟨_, rfl⟩
  dsimp only at m0 m1
  rw [← hnk] at m0
  simp only [List.getElem?_toArray, List.getElem?_cons_zero, List.getElem?_cons_succ] at p0 p1 k0 t0
  have hg3lt : g3 < w.heap.size := by
    obtain ⟨cs, q⟩ := hS.ci.own_blk (k := g3) rfl
    exact q.lt
  have t0a : ∀ o, (w.alloc o).cell? ⟨T, 0, none⟩ = some (.int .i64 (s + 1 : Nat)) := fun o => (hS.t.alloc o).cell 0
  have k0a : ∀ o, (w.alloc o).cell? ⟨C, 0, none⟩ = some (.slice (some ⟨g3, 0, none⟩) n3 c3) := fun o => (hS.c.alloc o).cell 0
  have m0a : ∀ o, (w.alloc o).cell? ⟨g3, s * 2, none⟩ = some (.slice mA nk mc) := fun o => (((Below.refl w.heap.size w).alloc (Nat.le_refl _) o).cell (p := ⟨g3, s * 2, none⟩) hg3lt).trans m0
  have m1a : ∀ o, (w.alloc o).cell? ⟨g3, s * 2 + 1, none⟩ = some (.int .i64 mv) := fun o => (((Below.refl w.heap.size w).alloc (Nat.le_refl _) o).cell (p := ⟨g3, s * 2 + 1, none⟩) hg3lt).trans m1
  have HS := Lib.hid hS
  have hc3 : n3 ≤ c3 ∧ c3 ≤ maxLen := by
    rcases hS.ci.cases.2 with h0 | ⟨g, cur, _, _, _, h1, h2, _⟩
    · cases h0.1
    · exact ⟨h1, h2⟩
  have hji : (j : Int) < (n2 : Int) := by omega
  have hj2 : j < n2 := hj
  have hs3 : s < n3 := by omega
  have hs4 : s + 1 ≤ n3 := by omega
  have hs5 : (s : Int) < (n3 : Int) := by omega
  have hs6 : (s : Int) + 1 ≤ (n3 : Int) := by omega
  have hs6' : (s : Int) ≤ (n3 : Int) := by omega
  have hs8 : (0 : Int) ≤ (s : Int) + 1 := by omega
  have hs9 : ((s : Int) + 1).toNat = s + 1 := by omega
  have hw : IntKind.i64.wrap (s : Int) = (s : Int) := by rw [IntKind.wrap_i64]; omega
  have hw1 : IntKind.i64.wrap ((s : Int) + 1) = (s : Int) + 1 := by rw [IntKind.wrap_i64]; omega
  have hs7 : s ≤ 63 := ht.2
  have hcs : ¬ c3 = s + 1 := by omega
  have hcs2 : ¬ c3 = s := by omega
  have hcs3 : s ≤ c3 := by omega
  have hcs4 : (s : Int) ≤ (c3 : Int) := by omega
  have H1 := Lib.hid (And.intro hn3 (And.intro hlen (And.intro hjl (And.intro hl (And.intro hr (And.intro em (And.intro hnk hjC)))))))
  have HN := Lib.hid (And.intro hPC (And.intro hne1 (And.intro hne2 (And.intro hk4 (And.intro hc3 (And.intro ht hg3lt))))))
  have hcl := Lib.hid ((hS.ci.take (k := s) (by omega)))
  rw [show List.take s (l ++ It.mk mA mc mk mv :: r) = l by rw [← hl, List.take_left]] at hcl
  clear hn3 hlen hjl hl hr em hnk hjC hS hPC hne1 hne2 hk4 hc3 ht hg3lt
  go_enter Try.func37, Try.ntmps37
  go_upto_region 1 with fail
  go_cut [7] (fun s7 wx => s7 = .pointer (some ⟨w.heap.size, 0, none⟩) ∧ Below w.heap.size w wx ∧ Blk wx w.heap.size 69 #[.slice mA nk mc, .int .i64 mv])
  case first =>
    go_region_law fail
    all_goals
      go_wp2_with fail
      go_meet
      case rel => exact ⟨rfl, below_drew ((Below.refl _ _).alloc (Nat.le_refl _) _), (Blk.new w 69 #[.slice mA nk mc, .int .i64 mv]).drew⟩
  case rest =>
  obtain ⟨wa, hwa⟩ : ∃ wa : World, wa = wc := ⟨_, rfl⟩
  subst hwa
  obtain ⟨rfl, hb1, km⟩ := hcut
  clear t0a k0a m0a m1a t0 k0 m0 m1 cC p0 p1
  obtain ⟨M, hM⟩ : ∃ M, M = w.heap.size := ⟨_, rfl⟩
  have HM := Lib.hid hM
  rw [← hM] at km ⊢
  have hSa := HS.out.on hb1
  have t0 := hSa.t.cell 0
  have k0 := hSa.c.cell 0
  simp only [List.getElem?_toArray, List.getElem?_cons_zero, List.getElem?_cons_succ] at t0 k0
  have hrd := hSa.ci.from_ (s + 1)
  rw [show List.drop (s + 1) (l ++ It.mk mA mc mk mv :: r) = r by rw [show l ++ It.mk mA mc mk mv :: r = (l ++ [It.mk mA mc mk mv]) ++ r by simp, ← H1.out.2.2.2.1, show l.length + 1 = (l ++ [It.mk mA mc mk mv]).length by simp, List.drop_left]] at hrd
  have HC := Lib.hid (clone_I (some ⟨g3, (s + 1) * kI.size, none⟩) (n3 - (s + 1)) (c3 - (s + 1)) r wa.drew hrd (by have := H1.out.1; have := H1.out.2.2.2.2.1; omega) (fun h => by cases h) (by have := H1.out.1; omega))
  simp only [show kI.size = 2 from rfl] at HC
  have HA := Lib.hid (And.intro hb1 (And.intro km hSa))
  clear hb1 km hSa hrd hM
  go_upto_region 2 with fail
  go_still_tail 9, (by kernel_rfl)
  change wpList _ _ _ _ _ wa.drew
  go_upto_region 3 with (go_at_call 44; (with_reducible refine HC.out.mono ?_); clear HC t0 k0; rintro e w2 ⟨v2, rfl, hr2, hb2⟩; dsimp only; obtain ⟨A5, c5, n5, hn5, rfl, _, _⟩ := hr2.rdn; have H2 := Lib.hid (And.intro hr2 hb2); clear hr2 hb2)
  have hsd : M ≤ w2.heap.size := by rw [HM.out]; exact Nat.le_trans HA.out.1.size H2.out.2.size
  have hbd : Below w.heap.size w (w2.alloc (.cells #[.slice A5 n5 c5, .slice none 0 0] 59)) := (HA.out.1.trans ((below_drew (Below.refl wa.heap.size wa)).trans H2.out.2 |>.mono HA.out.1.size)).alloc (by have := H2.out.2.size; have := HA.out.1.size; simp at *; omega) _
  have kR : Blk (w2.alloc (.cells #[.slice A5 n5 c5, .slice none 0 0] 59)) w2.heap.size 59 #[.slice A5 n5 c5, .slice none 0 0] := Blk.new w2 59 _
  have rR : RowK kI (w2.alloc (.cells #[.slice A5 n5 c5, .slice none 0 0] 59)) w.heap.size (.slice A5 n5 c5) r := (H2.out.1.alloc _).low HA.out.1.size
  have kM : Blk (w2.alloc (.cells #[.slice A5 n5 c5, .slice none 0 0] 59)) M 69 #[.slice mA nk mc, .int .i64 mv] := (HA.out.2.1.on ((below_drew (Below.refl wa.heap.size wa)).trans H2.out.2)).alloc _
  obtain ⟨R, hR⟩ : ∃ R, R = w2.heap.size := ⟨_, rfl⟩
  rw [← hR] at kR hsd ⊢
  generalize hwd : w2.alloc (.cells #[.slice A5 n5 c5, .slice none 0 0] 59) = wd at hbd kR rR kM ⊢
  have hSd := HS.out.on hbd
  have HD := Lib.hid (And.intro hbd (And.intro hSd (And.intro kR (And.intro rR (And.intro kM hsd)))))
  clear hbd kR rR kM hwd hR hsd H2 HA hn5
  -- the items behind the middle one are cleared
  obtain ⟨w3, hclr, hl3, hg3⟩ : ∃ w3, (Builtin.clear_ #[56] 0 #[.slice (some ⟨g3, s * 2, none⟩) (n3 - s) (c3 - s)]).run Try.prog wd.drew = .ok (.tuple #[]) w3 ∧ RowK kI w3 0 (.slice (some ⟨g3, 0, none⟩) s c3) l ∧ wd.grownBy w3 (some g3) := by
    obtain ⟨_, q0 | ⟨g', cur', e, q1, q2, q3, q4, q5, q6⟩⟩ := hSd.ci.cases
    · cases q0.1
    · cases e
      have hfit2 : s * kI.size + (n3 - s) * kI.size ≤ cur'.length := by
        rw [q5, ← Nat.add_mul]
        exact Nat.mul_le_mul_right _ (by omega)
      obtain ⟨w2', zs, r1, r2, r3, r4⟩ := run_clearK zok_I wd.drew 0 (some ⟨g3, s * 2, none⟩) (n3 - s) (c3 - s) g3 (s * kI.size) cur' q2 (fun _ => by simp [kI]) hfit2
      have hcl' : RowK kI wd 0 (.slice (some ⟨g3, 0, none⟩) s c3) l := hcl.out.on HD.out.1
      exact ⟨w2', r1, hcl'.splice q2 r3 (Nat.le_refl _) (by rw [r2]; exact hfit2), ⟨r4.1, r4.2, r4.3, r4.4, r4.5⟩⟩
  have t0 := hSd.t.cell 0
  have k0 := hSd.c.cell 0
  simp only [List.getElem?_toArray, List.getElem?_cons_zero, List.getElem?_cons_succ] at t0 k0
  have HL3 := Lib.hid (And.intro hl3 hg3)
  clear hSd hl3 hg3
  go_still_tail 10, (by kernel_rfl)
  change wpList _ _ _ _ _ wd.drew
  go_upto_region 4 with fail
  clear hclr t0 k0
  have hTg : some T ≠ some g3 := fun e => by
    injection e with e
    obtain ⟨cs, q⟩ := HD.out.2.1.ci.own_blk (k := g3) rfl
    exact absurd (blk_ty HD.out.2.1.t (by rw [e]; exact q)) (by decide)
  have hCg : some C ≠ some g3 := fun e => by
    injection e with e
    obtain ⟨cs, q⟩ := HD.out.2.1.ci.own_blk (k := g3) rfl
    exact absurd (blk_ty HD.out.2.1.c (by rw [e]; exact q)) (by decide)
  have hPg : some P ≠ some g3 := fun e => by
    injection e with e
    obtain ⟨cs, q⟩ := HD.out.2.1.ci.own_blk (k := g3) rfl
    exact absurd (blk_ty HD.out.2.1.p (by rw [e]; exact q)) (by decide)
  have hRg : some R ≠ some g3 := fun e => by
    injection e with e
    obtain ⟨cs, q⟩ := HD.out.2.1.ci.own_blk (k := g3) rfl
    exact absurd (blk_ty HD.out.2.2.1 (by rw [e]; exact q)) (by decide)
  have hRC : C ≠ R := fun e => by
    have h1 := HS.out.c.lt; have h2 := HD.out.2.2.2.2.2; have h3 := HM.out
    omega
  have hRP : P ≠ R := fun e => by
    have h1 := HS.out.p.lt; have h2 := HD.out.2.2.2.2.2; have h3 := HM.out
    omega
  have kC3 := HD.out.2.1.c.grown HL3.out.2 hCg
  have kT3 := HD.out.2.1.t.grown HL3.out.2 hTg
  have t0 := kT3.cell 0
  have k0 := kC3.cell 0
  have k0f := kC3.frozen 0
  simp only [List.getElem?_toArray, List.getElem?_cons_zero, List.getElem?_cons_succ] at t0 k0
  have HX := Lib.hid (And.intro kC3 (And.intro kT3 (And.intro hPg (And.intro hRg (And.intro hRC hRP)))))
  clear kC3 kT3 hTg hCg hPg hRg hRC hRP
  go_still_tail 13, (by kernel_rfl)
  change wpList _ _ _ _ _ w3.drew
  go_upto_region 5 with fail
  -- what stands behind the child's cut
  have kCf : Blk ((w3.setCell ⟨C, 0, none⟩ (.slice (some ⟨g3, 0, none⟩) s c3)).drew) C 59 #[.slice (some ⟨g3, 0, none⟩) s c3, .slice (some ⟨g4, 0, none⟩) n4 c4] := by simpa using (HX.out.1.set_ 0 (.slice (some ⟨g3, 0, none⟩) s c3)).drew
  have Ff : Fr (fun k => k = C ∨ k = g3) wd ((w3.setCell ⟨C, 0, none⟩ (.slice (some ⟨g3, 0, none⟩) s c3)).drew) := (Fr.set ((Fr.refl wd).grown HL3.out.2 (fun k hk _ => .inr (by injection hk with hk; exact hk.symm))) (.inl rfl) _).drew
  have rCf : RowK kI ((w3.setCell ⟨C, 0, none⟩ (.slice (some ⟨g3, 0, none⟩) s c3)).drew) 0 (.slice (some ⟨g3, 0, none⟩) s c3) l := RowK.drew <| HL3.out.1.kept' fun k hk => Below.heap_setCell _ _ _ _ (fun e => by
    obtain ⟨cs, q⟩ := HL3.out.1.own_blk hk
    rw [e] at q
    exact absurd (blk_ty HX.out.1 q) (by decide))
  generalize (w3.setCell ⟨C, 0, none⟩ (.slice (some ⟨g3, 0, none⟩) s c3)).drew = wf0 at kCf Ff rCf ⊢
  have hne' : ∀ k t cs, Blk wd k t cs → t ≠ 59 → t ≠ 69 → ¬ (k = C ∨ k = g3) := fun k t cs q h1 h2 h3 => by
    rcases h3 with rfl | rfl
    · exact h1 (blk_ty q HD.out.2.1.c)
    · obtain ⟨cs', q'⟩ := HD.out.2.1.ci.own_blk (k := k) rfl
      exact h2 (blk_ty q q')
  have kPf : Blk wf0 P 59 #[.slice A1 n1 c1, .slice (some ⟨g2, 0, none⟩) n2 c2] := Ff.b HD.out.2.1.p (fun h => h.elim HN.out.1 (fun h => HX.out.2.2.1 (by rw [h])))
  have kTf : Blk wf0 T 61 #[.int .i64 (s + 1 : Nat), y, z] := Ff.b HD.out.2.1.t (hne' T 61 _ HD.out.2.1.t (by decide) (by decide))
  have kRf : Blk wf0 R 59 #[.slice A5 n5 c5, .slice none 0 0] := Ff.b HD.out.2.2.1 (fun h => h.elim (fun h => HX.out.2.2.2.2.1 h.symm) (fun h => HX.out.2.2.2.1 (by rw [h])))
  have kMf : Blk wf0 M 69 #[.slice mA nk mc, .int .i64 mv] := Ff.b HD.out.2.2.2.2.1 (fun h => by
    have := HM.out
    have h1 := HS.out.c.lt
    have h2 := HN.out.2.2.2.2.2.2
    rcases h with h | h <;> omega)
  have rPf : RowK kI wf0 0 (.slice A1 n1 c1) li := HD.out.2.1.ri.frr Ff fun k hk h => by
    rcases h with rfl | rfl
    · obtain ⟨cs, q⟩ := HD.out.2.1.ri.own_blk hk
      exact absurd (blk_ty q HD.out.2.1.c) (by decide)
    · exact HN.out.2.1 k hk rfl
  have pPf : RowK kP wf0 0 (.slice (some ⟨g2, 0, none⟩) n2 c2) lp := HD.out.2.1.rp.frr Ff fun k hk h => by
    obtain ⟨cs, q⟩ := HD.out.2.1.rp.own_blk hk
    exact hne' k _ _ q (by decide) (by decide) h
  have pCf : RowK kP wf0 0 (.slice (some ⟨g4, 0, none⟩) n4 c4) lc := HD.out.2.1.cp.frr Ff fun k hk h => by
    obtain ⟨cs, q⟩ := HD.out.2.1.cp.own_blk hk
    exact hne' k _ _ q (by decide) (by decide) h
  have rRf : RowK kI wf0 w.heap.size (.slice A5 n5 c5) r := HD.out.2.2.2.1.frr Ff fun k hk h => by
    have h1 := HD.out.2.2.2.1
    have h2 : w.heap.size ≤ k := (World.ownsRow.lt h1 k hk).1
    have h3 := HS.out.c.lt
    have h4 := HN.out.2.2.2.2.2.2
    rcases h with h | h <;> omega
  have HF0 := Lib.hid (And.intro Ff (And.intro kCf (And.intro rCf (And.intro kPf (And.intro kTf (And.intro kRf (And.intro kMf (And.intro rPf (And.intro pPf (And.intro pCf rRf))))))))))
  have HSZ := Lib.hid (Nat.le_trans HD.out.1.size Ff.bel.size)
  clear Ff kCf rCf kPf kTf kRf kMf rPf pPf pCf rRf hne' t0 k0 k0f HL3
  have hlf := leaf_any C n4 c4 _ (some ⟨g4, 0, none⟩) wf0 HF0.out.2.1
  rw [show decide (n4 = 0) = false by have := HN.out.2.2.2.1.1; simp; omega] at hlf
  have HLF := Lib.hid hlf
  clear hlf
  go_upto_region 6 with (go_at_call 30; (with_reducible refine HLF.out.mono ?_); rintro e w2 ⟨rfl, rfl⟩; dsimp only)
  have hc4 : n4 ≤ c4 ∧ c4 ≤ maxLen := by
    rcases HF0.out.2.2.2.2.2.2.2.2.2.1.cases.2 with h0 | ⟨g, cur, _, _, _, h1, h2, _⟩
    · cases h0.1
    · exact ⟨h1, h2⟩
  have h4a : n4 = s + s + 2 := HN.out.2.2.2.1.1
  have hd1 : s + 1 ≤ n4 := by omega
  have hd2 : (s : Int) + 1 ≤ (n4 : Int) := by omega
  have hd3 : ¬ c4 = s + 1 := by omega
  have hd4 : s + 1 ≤ c4 := by omega
  have hd5 : (s : Int) + 1 ≤ (c4 : Int) := by omega
  have HC4 := Lib.hid (And.intro hc4 h4a)
  clear hc4 h4a
  have t0 := HF0.out.2.2.2.2.1.cell 0
  have k1 := HF0.out.2.1.cell 1
  simp only [List.getElem?_toArray, List.getElem?_cons_zero, List.getElem?_cons_succ] at t0 k1
  have hrd := HF0.out.2.2.2.2.2.2.2.2.2.1.from_ (s + 1)
  have hdl : (lc.drop (s + 1)).length = n4 - (s + 1) := by have := HN.out.2.2.2.1.2; simp; omega
  have hcc := clone_P (some ⟨g4, (s + 1) * kP.size, none⟩) (n4 - (s + 1)) (c4 - (s + 1)) (lc.drop (s + 1)) wf0.drew hrd hdl.symm (fun h => by cases h) (by have := HC4.out.2; omega)
  simp only [show kP.size = 1 from rfl, Nat.mul_one] at hcc
  have HC := Lib.hid hcc
  have HRR := Lib.hid (HF0.out.2.2.2.2.2.1.drew)
  clear hcc hrd hdl
  go_cut [8] (fun s8 wx => s8 = .pointer (some ⟨R, 0, none⟩) ∧ ∃ A c n, Fr (fun k => k = R) wf0 wx ∧ Blk wx R 59 #[.slice A5 n5 c5, .slice A n c] ∧ RowK kP wx w.heap.size (.slice A n c) (lc.drop (s + 1)))
  case first =>
    go_region_law (first
      | (go_simp; (with_reducible refine HC.out.mono ?_); rintro e w4 ⟨v', rfl, hr4, hb4⟩; dsimp only; clear HC t0 k1; obtain ⟨A6, c6, n6, hn6, rfl, _, _⟩ := hr4.rdn; have kR4 := Lib.hid (HRR.out.on hb4); have p1 := kR4.out.cell 1; have p1f := kR4.out.frozen 1; simp only [List.getElem?_toArray, List.getElem?_cons_zero, List.getElem?_cons_succ] at p1; have H4 := Lib.hid (And.intro hr4 hb4); clear hr4 hb4 hn6))
    all_goals
      go_wp2_with fail
      go_meet
      case rel =>
      have k := kR4.out.set_ 1 (.slice A6 n6 c6)
      refine ⟨rfl, A6, c6, n6, ?_, by simpa using k, ?_⟩
      · exact Fr.set (S := fun k => k = R) ((Fr.refl wf0).drew.trans (Fr.of H4.out.2)) rfl _
      · refine RowK.low (base := wf0.drew.heap.size) ?_ HSZ.out
        exact H4.out.1.kept' fun k hk => Below.heap_setCell _ _ _ _ (fun e => by
          obtain ⟨cs, q⟩ := H4.out.1.own_blk hk
          rw [e] at q
          exact absurd (blk_ty kR4.out q) (by decide))
  case rest =>
  obtain ⟨wg0, hwg⟩ : ∃ wg0 : World, wg0 = wc := ⟨_, rfl⟩
  subst hwg
  obtain ⟨rfl, A8, c8, n8, F6, kR6, r6⟩ := hcut
  clear HC HRR t0 k1
  have hRx : ∀ k t cs, Blk wf0 k t cs → t ≠ 59 → ¬ k = R := fun k t cs q h1 h2 => by
    rw [h2] at q
    exact h1 (blk_ty q HF0.out.2.2.2.2.2.1)
  have hrx : ∀ {α : Type} {K : Kind α} {base : Nat} {v : Value} {l : List α}, RowK K wf0 base v l → K.e ≠ 59 → RowK K wg0 base v l := fun hr h59 => hr.frr F6 fun k hk => by
    obtain ⟨cs, q⟩ := hr.own_blk hk
    exact hRx k _ _ q h59
  have kC6 := F6.b HF0.out.2.1 (fun h => HX.out.2.2.2.2.1 h)
  have kP6 := F6.b HF0.out.2.2.2.1 (fun h => HX.out.2.2.2.2.2 h)
  have kT6 := F6.b HF0.out.2.2.2.2.1 (hRx _ _ _ HF0.out.2.2.2.2.1 (by decide))
  have kM6 := F6.b HF0.out.2.2.2.2.2.2.1 (hRx _ _ _ HF0.out.2.2.2.2.2.2.1 (by decide))
  have c6r := hrx HF0.out.2.2.1 (by decide)
  have rP6 := hrx HF0.out.2.2.2.2.2.2.2.1 (by decide)
  have pP6 := hrx HF0.out.2.2.2.2.2.2.2.2.1 (by decide)
  have pC6 := hrx HF0.out.2.2.2.2.2.2.2.2.2.1 (by decide)
  have rR6 := hrx HF0.out.2.2.2.2.2.2.2.2.2.2 (by decide)
  -- the children behind are cleared
  obtain ⟨w5, hclr, hl5, hg5⟩ : ∃ w5, (Builtin.clear_ #[57] 0 #[.slice (some ⟨g4, s + 1, none⟩) (n4 - (s + 1)) (c4 - (s + 1))]).run Try.prog wg0.drew = .ok (.tuple #[]) w5 ∧ RowK kP w5 0 (.slice (some ⟨g4, 0, none⟩) (s + 1) c4) (lc.take (s + 1)) ∧ wg0.grownBy w5 (some g4) := by
    obtain ⟨_, q0 | ⟨g', cur', e, q1, q2, q3, q4, q5, q6⟩⟩ := pC6.cases
    · cases q0.1
    · cases e
      have hfit2 : (s + 1) * kP.size + (n4 - (s + 1)) * kP.size ≤ cur'.length := by
        rw [q5, ← Nat.add_mul]
        exact Nat.mul_le_mul_right _ (by omega)
      obtain ⟨w2', zs, r1, r2, r3, r4⟩ := run_clearK zok_P wg0.drew 0 (some ⟨g4, s + 1, none⟩) (n4 - (s + 1)) (c4 - (s + 1)) g4 ((s + 1) * kP.size) cur' q2 (fun _ => by simp [kP]) hfit2
      exact ⟨w2', r1, (pC6.take (k := s + 1) hd1).splice q2 r3 (Nat.le_refl _) (by rw [r2]; exact hfit2), ⟨r4.1, r4.2, r4.3, r4.4, r4.5⟩⟩
  have t0 := kT6.cell 0
  have k1 := kC6.cell 1
  simp only [List.getElem?_toArray, List.getElem?_cons_zero, List.getElem?_cons_succ] at t0 k1
  have H6 := Lib.hid (And.intro F6 (And.intro kC6 (And.intro c6r (And.intro kP6 (And.intro kT6 (And.intro kR6 (And.intro kM6 (And.intro rP6 (And.intro pP6 (And.intro pC6 (And.intro rR6 r6)))))))))))
  have HL5 := Lib.hid (And.intro hl5 hg5)
  clear F6 kC6 c6r kP6 kT6 kR6 kM6 rP6 pP6 pC6 rR6 r6 hl5 hg5 hRx hrx
  go_upto_region 7 with fail
  go_still_tail 8, (by kernel_rfl)
  change wpList _ _ _ _ _ wg0.drew
  go_upto_region 8 with fail
  clear hclr t0 k1
  have hng : ∀ k t cs, Blk wg0 k t cs → t ≠ 55 → some k ≠ some g4 := fun k t cs q h1 e => by
    injection e with e
    obtain ⟨cs', q'⟩ := H6.out.2.2.2.2.2.2.2.2.2.1.own_blk (k := g4) rfl
    rw [e] at q
    exact h1 (blk_ty q q')
  have kC5 := H6.out.2.1.grown HL5.out.2 (hng _ _ _ H6.out.2.1 (by decide))
  have kT5 := H6.out.2.2.2.2.1.grown HL5.out.2 (hng _ _ _ H6.out.2.2.2.2.1 (by decide))
  have t0 := kT5.cell 0
  have k1 := kC5.cell 1
  have k1f := kC5.frozen 1
  simp only [List.getElem?_toArray, List.getElem?_cons_zero, List.getElem?_cons_succ] at t0 k1
  have HY := Lib.hid (And.intro kC5 hng)
  clear kC5 kT5 hng
  go_still_tail 10, (by kernel_rfl)
  change wpList _ _ _ _ _ w5.drew
  go_upto_region 9 with fail
  have kCf : Blk (w5.setCell ⟨C, 1, none⟩ (.slice (some ⟨g4, 0, none⟩) (s + 1) c4)).drew C 59 #[.slice (some ⟨g3, 0, none⟩) s c3, .slice (some ⟨g4, 0, none⟩) (s + 1) c4] := by simpa using (HY.out.1.set_ 1 (.slice (some ⟨g4, 0, none⟩) (s + 1) c4)).drew
  have Fq : Fr (fun k => k = C ∨ k = g4) wg0 (w5.setCell ⟨C, 1, none⟩ (.slice (some ⟨g4, 0, none⟩) (s + 1) c4)).drew := (Fr.set ((Fr.refl wg0).grown HL5.out.2 (fun k hk _ => .inr (by injection hk with hk; exact hk.symm))) (.inl rfl) _).drew
  have pCf : RowK kP (w5.setCell ⟨C, 1, none⟩ (.slice (some ⟨g4, 0, none⟩) (s + 1) c4)).drew 0 (.slice (some ⟨g4, 0, none⟩) (s + 1) c4) (lc.take (s + 1)) := RowK.drew <| HL5.out.1.kept' fun k hk => Below.heap_setCell _ _ _ _ (fun e => by
    obtain ⟨cs, q⟩ := HL5.out.1.own_blk hk
    rw [e] at q
    exact absurd (blk_ty HY.out.1 q) (by decide))
  generalize (w5.setCell ⟨C, 1, none⟩ (.slice (some ⟨g4, 0, none⟩) (s + 1) c4)).drew = wf at kCf Fq pCf ⊢
  have hbq : ∀ k t cs, Blk wg0 k t cs → k ≠ C → t ≠ 55 → Blk wf k t cs := fun k t cs q h1 h2 => Fq.b q (fun h => h.elim h1 (fun h => HY.out.2 k t cs q h2 (by rw [h])))
  have hrq : ∀ {α : Type} {K : Kind α} {base : Nat} {v : Value} {l : List α}, RowK K wg0 base v l → K.e ≠ 59 → (∀ k, v.ownBlock = some k → k ≠ g4) → RowK K wf base v l := fun hr h59 h4 => hr.frr Fq fun k hk h => by
    rcases h with h | h
    · obtain ⟨cs, q⟩ := hr.own_blk hk
      rw [h] at q
      exact h59 (blk_ty q H6.out.2.1)
    · exact h4 k hk h
  have hI4 : ∀ {base : Nat} {v : Value} {l : List It}, RowK kI wg0 base v l → ∀ k, v.ownBlock = some k → k ≠ g4 := fun hr k hk e => by
    obtain ⟨cs, q⟩ := hr.own_blk hk
    exact HY.out.2 k _ _ q (by decide) (by rw [e])
  have hg4lt : g4 < w.heap.size := by obtain ⟨cs, q⟩ := HS.out.cp.own_blk (k := g4) rfl; exact q.lt
  have kPf := hbq _ _ _ H6.out.2.2.2.1 HN.out.1 (by decide)
  have kTf := hbq _ _ _ H6.out.2.2.2.2.1 (fun e => absurd (blk_ty (e ▸ H6.out.2.2.2.2.1) H6.out.2.1) (by decide)) (by decide)
  have kRf := hbq _ _ _ H6.out.2.2.2.2.2.1 (fun e => HX.out.2.2.2.2.1 e.symm) (by decide)
  have kMf := hbq _ _ _ H6.out.2.2.2.2.2.2.1 (fun e => by have := HM.out; have := HS.out.c.lt; omega) (by decide)
  have rCf := hrq H6.out.2.2.1 (by decide) (hI4 H6.out.2.2.1)
  have rPf := hrq H6.out.2.2.2.2.2.2.2.1 (by decide) (hI4 H6.out.2.2.2.2.2.2.2.1)
  have pPf := hrq H6.out.2.2.2.2.2.2.2.2.1 (by decide) (fun k hk e => HN.out.2.2.1 k hk (by rw [e]; rfl))
  have rRf := hrq H6.out.2.2.2.2.2.2.2.2.2.2.1 (by decide) (hI4 H6.out.2.2.2.2.2.2.2.2.2.2.1)
  have qRf := hrq H6.out.2.2.2.2.2.2.2.2.2.2.2 (by decide) (fun k hk e => by
    have h1 : w.heap.size ≤ k := (World.ownsRow.lt H6.out.2.2.2.2.2.2.2.2.2.2.2 k hk).1
    omega)
  have Ff : Fr (fun k => k = C ∨ k = g3 ∨ k = g4 ∨ k = R) wd wf := ((HF0.out.1.mono (fun k _ h => h.elim .inl (fun h => .inr (.inl h)))).trans (H6.out.1.mono (fun k _ h => .inr (.inr (.inr h))))).trans (Fq.mono (fun k _ h => h.elim .inl (fun h => .inr (.inr (.inl h)))))
  have HF := Lib.hid (And.intro Ff (And.intro kCf (And.intro rCf (And.intro kPf (And.intro kTf (And.intro kRf (And.intro kMf (And.intro rPf (And.intro pPf (And.intro pCf (And.intro rRf qRf)))))))))))
  have HSZ2 := Lib.hid (Nat.le_trans HD.out.1.size Ff.bel.size)
  have HG4 := Lib.hid hg4lt
  clear Ff kCf rCf kPf kTf kRf kMf rPf pPf pCf rRf qRf Fq hbq hrq hI4 hg4lt t0 k1 k1f HL5 HSZ
  have HSZ := HSZ2
  -- the middle item comes up
  have p0 := HF.out.2.2.2.1.cell 0
  have q0 := (HF.out.2.2.2.1.alloc (.cells #[.slice mA nk mc, .int .i64 mv] 69)).cell 0
  have q1 := (HF.out.2.2.2.1.alloc (.cells #[.slice mA nk mc, .int .i64 mv] 69)).drew.cell 0
  have m0 := HF.out.2.2.2.2.2.2.1.cell 0
  have m1 := HF.out.2.2.2.2.2.2.1.cell 1
  simp only [List.getElem?_toArray, List.getElem?_cons_zero, List.getElem?_cons_succ] at p0 q0 q1 m0 m1
  have hsplit : li.take j ++ li.drop j = li := List.take_append_drop _ _
  have hjt : (li.take j).length = j := by have := H1.out.2.2.1; simp; omega
  have hrow : RowK kI (wf.alloc (.cells #[.slice mA nk mc, .int .i64 mv] 69)).drew 0 (.slice A1 n1 c1) (li.take j ++ li.drop j) := by rw [hsplit]; exact (HF.out.2.2.2.2.2.2.2.1.alloc _).drew
  have hC0 := ins_I 0 n1 c1 A1 (li.take j) (li.drop j) ⟨mA, mc, mk, mv⟩ wf.heap.size (wf.alloc (.cells #[.slice mA nk mc, .int .i64 mv] 69)).drew hrow (by rw [H1.out.2.2.2.2.2.2.1]; exact (Blk.new wf 69 _).drew) (fun e => by
    obtain ⟨cs, q⟩ := HF.out.2.2.2.2.2.2.2.1.own_blk e
    exact absurd q.lt (by omega)) (by omega) (Nat.zero_le _)
  rw [hjt] at hC0
  have HC := Lib.hid hC0
  have HPP := Lib.hid ((HF.out.2.2.2.1.alloc (.cells #[.slice mA nk mc, .int .i64 mv] 69)).drew)
  have HPO := Lib.hid (own_ne ((HF.out.2.2.2.2.2.2.2.1.alloc (.cells #[.slice mA nk mc, .int .i64 mv] 69)).drew) HPP.out (by decide))
  clear hC0 hrow hsplit hjt
  go_cut [8] (fun s8 wx => s8 = .pointer (some ⟨R, 0, none⟩) ∧ ∃ A c n, Fr (fun k => k = P ∨ (Value.slice A1 n1 c1).ownBlock = some k) wf wx ∧ Blk wx P 59 #[.slice A n c, .slice (some ⟨g2, 0, none⟩) n2 c2] ∧ RowK kI wx 0 (.slice A n c) (li.take j ++ ⟨mA, mc, mk, mv⟩ :: li.drop j) ∧ ((Value.slice A n c).ownBlock = (Value.slice A1 n1 c1).ownBlock ∨ ∃ k, (Value.slice A n c).ownBlock = some k ∧ wf.heap.size ≤ k))
  case first =>
    go_region_law (first
      | (go_simp; (with_reducible refine HC.out.mono ?_); rintro e w4 ⟨v', rfl, hr4, hg4, ho4⟩; dsimp only; clear HC p0 q0 q1 m0 m1; obtain ⟨A6, c6, n6, hn6, rfl, _, _⟩ := hr4.rdn; have kP4 := Lib.hid (HPP.out.grown hg4 (fun e => HPO.out e.symm)); have p0 := kP4.out.cell 0; have p0f := kP4.out.frozen 0; simp only [List.getElem?_toArray, List.getElem?_cons_zero, List.getElem?_cons_succ] at p0; have H4 := Lib.hid (And.intro hr4 (And.intro hg4 ho4)); clear hr4 hg4 ho4 hn6))
    all_goals
      go_wp2_with fail
      go_meet
      case rel =>
      have k := kP4.out.set_ 0 (.slice A6 n6 c6)
      refine ⟨rfl, A6, c6, n6, ?_, by simpa using k, ?_, ?_⟩
      · refine Fr.set (Fr.grown (w' := (wf.alloc (.cells #[.slice mA nk mc, .int .i64 mv] 69)).drew) ((Fr.refl wf).alloc _).drew H4.out.2.1 (fun k hk _ => .inr hk)) (.inl rfl) _
      · exact H4.out.1.kept' fun k hk => Below.heap_setCell _ _ _ _ (fun e => by
          obtain ⟨cs, q⟩ := H4.out.1.own_blk hk
          rw [e] at q
          exact absurd (blk_ty kP4.out q) (by decide))
      · rcases H4.out.2.2 with h | ⟨k, h1, h2⟩
        · exact .inl h
        · exact .inr ⟨k, h1, by simp at h2; omega⟩
  case rest =>
  obtain ⟨wg, hwg⟩ : ∃ wg : World, wg = wc := ⟨_, rfl⟩
  subst hwg
  obtain ⟨rfl, A6, c6, n6, F9, kP9, r9, o9⟩ := hcut
  clear HC HPP p0 q0 q1 m0 m1 HPO
  have hty : ∀ k t cs, Blk wf k t cs → t ≠ 59 → t ≠ 69 → ¬ (k = P ∨ (Value.slice A1 n1 c1).ownBlock = some k) := fun k t cs q h1 h2 h3 => by
    rcases h3 with rfl | h3
    · exact h1 (blk_ty q HF.out.2.2.2.1)
    · obtain ⟨cs', q'⟩ := HF.out.2.2.2.2.2.2.2.1.own_blk h3
      exact h2 (blk_ty q q')
  have pPg : RowK kP wg 0 (.slice (some ⟨g2, 0, none⟩) n2 c2) lp := HF.out.2.2.2.2.2.2.2.2.1.frr F9 fun k hk h => by
    obtain ⟨cs, q⟩ := HF.out.2.2.2.2.2.2.2.2.1.own_blk hk
    exact hty k _ _ q (by decide) (by decide) h
  have H9 := Lib.hid (And.intro F9 (And.intro kP9 (And.intro r9 (And.intro o9 pPg))))
  have HTY := Lib.hid hty
  clear F9 kP9 r9 o9 pPg hty
  have p1 := H9.out.2.1.cell 1
  simp only [List.getElem?_toArray, List.getElem?_cons_zero, List.getElem?_cons_succ] at p1
  have hlp : lp.length = n2 := HF.out.2.2.2.2.2.2.2.2.1.cases.1.symm
  have hsplit : lp.take (j + 1) ++ lp.drop (j + 1) = lp := List.take_append_drop _ _
  have hjt : (lp.take (j + 1)).length = j + 1 := by simp; omega
  have hrow : RowK kP (wg.alloc (.cells #[.pointer (some ⟨R, 0, none⟩)] 55)) 0 (.slice (some ⟨g2, 0, none⟩) n2 c2) (lp.take (j + 1) ++ lp.drop (j + 1)) := by rw [hsplit]; exact H9.out.2.2.2.2.alloc _
  have hn2 : n2 ≤ 1000 := by have h1 := H1.out.2.1; have h2 := HS.out.ri.cases.1; omega
  have hC0 := ins_P 0 n2 c2 (some ⟨g2, 0, none⟩) (lp.take (j + 1)) (lp.drop (j + 1)) R wg.heap.size (wg.alloc (.cells #[.pointer (some ⟨R, 0, none⟩)] 55)) hrow (Blk.new wg 55 _) (fun e => by
    obtain ⟨cs, q⟩ := H9.out.2.2.2.2.own_blk e
    exact absurd q.lt (by omega)) hn2 (Nat.zero_le _)
  rw [hjt, show ((j + 1 : Nat) : Int) = (j : Int) + 1 by omega] at hC0
  have HC := Lib.hid hC0
  have HPP := Lib.hid (H9.out.2.1.alloc (.cells #[.pointer (some ⟨R, 0, none⟩)] 55))
  have HPO := Lib.hid (own_ne (H9.out.2.2.2.2.alloc (.cells #[.pointer (some ⟨R, 0, none⟩)] 55)) HPP.out (by decide))
  have hji1 : IntKind.i64.wrap ((j : Int) + 1) = (j : Int) + 1 := by rw [IntKind.wrap_i64]; omega
  clear hC0 hrow hsplit hjt hlp
  go_wp2_with (go_at_call 51; (with_reducible refine HC.out.mono ?_); rintro e w4 ⟨v', rfl, hr4, hg4, ho4⟩; dsimp only; clear HC p1; obtain ⟨A7, c7, n7, hn7, rfl, _, _⟩ := hr4.rdn; have kP4 := Lib.hid (HPP.out.grown hg4 (fun e => HPO.out e.symm)); have p1 := kP4.out.cell 1; have p1f := kP4.out.frozen 1; simp only [List.getElem?_toArray, List.getElem?_cons_zero, List.getElem?_cons_succ] at p1; have H4 := Lib.hid (And.intro hr4 (And.intro hg4 ho4)); clear hr4 hg4 ho4 hn7)
  refine bodyPost_end (v := .tuple #[]) (by simp [results, Try.f37, go_sem]) rfl ?_
  have kPe := kP4.out.set_ 1 (.slice A7 n7 c7)
  have Fe : Fr (fun k => k = P ∨ k = g2) wg (w4.setCell ⟨P, 1, none⟩ (.slice A7 n7 c7)) := Fr.set (Fr.grown (w' := wg.alloc (.cells #[.pointer (some ⟨R, 0, none⟩)] 55)) ((Fr.refl wg).alloc _) H4.out.2.1 (fun k hk _ => .inr (by injection hk with hk; exact hk.symm))) (.inl rfl) _
  have re : RowK kP (w4.setCell ⟨P, 1, none⟩ (.slice A7 n7 c7)) 0 (.slice A7 n7 c7) (lp.take (j + 1) ++ R :: lp.drop (j + 1)) := H4.out.1.kept' fun k hk => Below.heap_setCell _ _ _ _ (fun e => by
    obtain ⟨cs, q⟩ := H4.out.1.own_blk hk
    rw [e] at q
    exact absurd (blk_ty kP4.out q) (by decide))
  have o7 := H4.out.2.2
  generalize w4.setCell ⟨P, 1, none⟩ (.slice A7 n7 c7) = we at kPe Fe re ⊢
  have hg2lt : g2 < w.heap.size := by obtain ⟨cs, q⟩ := HS.out.rp.own_blk (k := g2) rfl; exact q.lt
  have hPlt := HS.out.p.lt
  have hA1lt : ∀ k, (Value.slice A1 n1 c1).ownBlock = some k → k < w.heap.size ∧ ∃ cs, Blk wf k 69 cs := fun k hk => by
    obtain ⟨cs, q⟩ := HS.out.ri.own_blk hk
    obtain ⟨cs', q'⟩ := HF.out.2.2.2.2.2.2.2.1.own_blk hk
    exact ⟨q.lt, _, q'⟩
  have hg2f : ∃ cs, Blk wf g2 55 cs := HF.out.2.2.2.2.2.2.2.2.1.own_blk rfl
  have hst : ∀ k, k < wf.heap.size → k ≠ P → (Value.slice A1 n1 c1).ownBlock ≠ some k → k ≠ g2 → we.heap[k]? = wf.heap[k]? := fun k hk h1 h2 h3 =>
    (Fe.blk k (Nat.lt_of_lt_of_le hk H9.out.1.bel.size) (fun h => h.elim h1 h3)).trans (H9.out.1.blk k hk (fun h => h.elim h1 h2))
  have hty2 : ∀ k t cs, Blk wf k t cs → k ≠ P → t ≠ 69 → t ≠ 55 → Blk we k t cs := fun k t cs q h1 h2 h3 => (hst k q.lt h1 (fun e => by obtain ⟨_, cs', q'⟩ := hA1lt k e; exact h2 (blk_ty q q')) (fun e => by obtain ⟨cs', q'⟩ := hg2f; rw [← e] at q'; exact h3 (blk_ty q q'))).trans q
  have hrow2 : ∀ {α : Type} {K : Kind α} {base : Nat} {v : Value} {l : List α}, RowK K wf base v l → K.e ≠ 59 → (∀ k, v.ownBlock = some k → (Value.slice A1 n1 c1).ownBlock ≠ some k ∧ k ≠ g2) → RowK K we base v l := fun hr h59 h => hr.kept' fun k hk => by
    obtain ⟨cs, q⟩ := hr.own_blk hk
    exact hst k q.lt (fun e => by rw [e] at q; exact h59 (blk_ty q HF.out.2.2.2.1)) (h k hk).1 (h k hk).2
  refine ⟨R, .slice A6 n6 c6, .slice A7 n7 c7, .slice A5 n5 c5, .slice A8 n8 c8, .slice (some ⟨g4, 0, none⟩) (s + 1) c4, rfl, by simpa using kPe, ?_, re, ?_, ?_, ?_, ?_, ?_, ?_, ?_, ?_, ?_, rfl, ?_, ?_, ?_⟩
  · exact H9.out.2.2.1.kept' fun k hk => Fe.blk k (by obtain ⟨cs, q⟩ := H9.out.2.2.1.own_blk hk; exact q.lt) (fun h => by
      obtain ⟨cs, q⟩ := H9.out.2.2.1.own_blk hk
      rcases h with h | h
      · rw [h] at q; exact absurd (blk_ty H9.out.2.1 q) (by decide)
      · rw [h] at q
        obtain ⟨cs', q'⟩ := H9.out.2.2.2.2.own_blk (k := g2) rfl
        exact absurd (blk_ty q q') (by decide))
  · exact hty2 _ _ _ HF.out.2.1 (fun e => HN.out.1 e.symm) (by decide) (by decide)
  · exact hrow2 HF.out.2.2.1 (by decide) fun k hk => ⟨fun e => HN.out.2.1 k e hk, fun e => by
      obtain ⟨cs, q⟩ := HF.out.2.2.1.own_blk hk
      obtain ⟨cs', q'⟩ := hg2f
      rw [e] at q
      exact absurd (blk_ty q q') (by decide)⟩
  · exact hrow2 HF.out.2.2.2.2.2.2.2.2.2.1 (by decide) fun k hk => ⟨fun e => by
      obtain ⟨_, cs', q'⟩ := hA1lt k e
      obtain ⟨cs, q⟩ := HF.out.2.2.2.2.2.2.2.2.2.1.own_blk hk
      exact absurd (blk_ty q q') (by decide), fun e => HN.out.2.2.1 g2 rfl (by rw [← e]; exact hk)⟩
  · exact hty2 _ _ _ HF.out.2.2.2.2.2.1 (fun e => HX.out.2.2.2.2.2 e.symm) (by decide) (by decide)
  · exact hrow2 HF.out.2.2.2.2.2.2.2.2.2.2.1 (by decide) fun k hk => by
      have h1 : w.heap.size ≤ k := (World.ownsRow.lt HF.out.2.2.2.2.2.2.2.2.2.2.1 k hk).1
      exact ⟨fun e => by have := (hA1lt k e).1; omega, by omega⟩
  · exact hrow2 HF.out.2.2.2.2.2.2.2.2.2.2.2 (by decide) fun k hk => by
      have h1 : w.heap.size ≤ k := (World.ownsRow.lt HF.out.2.2.2.2.2.2.2.2.2.2.2 k hk).1
      exact ⟨fun e => by have := (hA1lt k e).1; omega, by omega⟩
  · have h1 := HD.out.2.2.2.2.2; have h2 := HM.out; omega
  · rcases H9.out.2.2.2.1 with h | ⟨k, h1, h2⟩
    · exact .inl h
    · exact .inr ⟨k, h1, Nat.le_trans HSZ.out h2⟩
  · rcases o7 with h | ⟨k, h1, h2⟩
    · exact .inl h
    · exact .inr ⟨k, h1, by have h3 := HSZ.out; have h4 := H9.out.1.bel.size; simp at h2; omega⟩
  · refine (((Fr.of HD.out.1).trans' HF.out.1 ?_).trans (H9.out.1.mono ?_)).trans (Fe.mono ?_)
    · exact fun k hk h => by
        rcases h with h | h | h | h
        · exact .inr (.inl h)
        · exact .inr (.inr (.inr (.inr (.inl (by rw [h]; rfl)))))
        · exact .inr (.inr (.inr (.inr (.inr (by rw [h]; rfl)))))
        · have h1 := HD.out.2.2.2.2.2; have h2 := HM.out; omega
    · exact fun k _ h => h.elim .inl (fun h => .inr (.inr (.inl h)))
    · exact fun k _ h => h.elim .inl (fun h => .inr (.inr (.inr (.inl (by rw [h]; rfl)))))
  · intro k h1 h2
    have q1 : w.heap.size ≤ k := (World.ownsRow.lt HF.out.2.2.2.2.2.2.2.2.2.2.1 k h2).1
    obtain ⟨cs, q2⟩ := RowK.own_blk HF.out.2.2.2.2.2.2.2.2.2.2.1 h2
    have q3 := q2.lt
    rcases H9.out.2.2.2.1 with h | ⟨k', h, h'⟩
    · rw [h] at h1
      have := (hA1lt k h1).1
      omega
    · rw [h] at h1
      injection h1 with h1
      omega
  · intro k h1 h2
    have q1 : w.heap.size ≤ k := (World.ownsRow.lt HF.out.2.2.2.2.2.2.2.2.2.2.2 k h2).1
    obtain ⟨cs, q2⟩ := RowK.own_blk HF.out.2.2.2.2.2.2.2.2.2.2.2 h2
    have q3 := q2.lt
    rcases o7 with h | ⟨k', h, h'⟩
    · rw [h] at h1
      have h1' : g2 = k := by simpa [Value.ownBlock] using h1
      omega
    · rw [h] at h1
      injection h1 with h1
      have h4 := H9.out.1.bel.size
      simp at h'
      omega
end Go.Proofs.Ytgjcomnljonffaa.Tlv
