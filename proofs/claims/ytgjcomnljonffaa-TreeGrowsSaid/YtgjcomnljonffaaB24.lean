/- fromRight: the first item of a child goes up, the item between goes down to the one ahead. -/
import Derived.Test.YtgjcomnljonffaaB23
namespace Go.Proofs.Ytgjcomnljonffaa.Tlv
open Go.RowKit
set_option maxRecDepth 100000
set_option linter.unusedVariables false
set_option linter.unusedSimpArgs false
set_option maxHeartbeats 8000000 in
theorem fromRight_leaf (i : Nat) (P L R : Nb) (a b r : List It) (m z : It) (p q : List Nat) (w : World) (hns : NS w [P, L, R]) (hit : P.its = a ++ m :: b) (ha : a.length = i) (hks : P.ks = p ++ L.n :: R.n :: q) (hp : p.length = i) (hj : i ≤ 200)
    (hRi : R.its = z :: r) (l1 : L.its.length ≤ 200) (l2 : R.its.length ≤ 200) (l3 : L.ks.length ≤ 200) (l4 : R.ks.length ≤ 200) (l5 : P.its.length ≤ 200) (l6 : P.ks.length ≤ 200) (hLk : L.ks = [] ∧ R.ks = []) :
    Calls Try.prog 54 #[.pointer (some ⟨P.n, 0, none⟩), .int .i64 i] w (RotOut P L R (a ++ z :: b) (L.its ++ [m]) r [] [] w) := by
  have aP := hns.at' P (by simp)
  have aL := hns.at' L (by simp)
  have aR := hns.at' R (by simp)
  obtain ⟨A1, c1, B1, e1, f1, g1⟩ := aP.form
  obtain ⟨A2, c2, B2, e2, f2, g2⟩ := aL.form
  obtain ⟨A3, c3, B3, e3, f3, g3⟩ := aR.form
  have hrP := aP.ri
  have hkP := aP.rk
  rw [f1] at hrP
  rw [g1] at hkP
  obtain ⟨gP, rfl, m0, m1⟩ := hrP.cellI (j := i) (by rw [hit]; simp; omega)
  rw [show P.its.getD i default = m by rw [hit, ← ha]; simp [List.getD_eq_getElem?_getD]] at m0 m1
  obtain ⟨gK, rfl, x0⟩ := hkP.cellP (j := i) (by rw [hks]; simp; omega)
  obtain ⟨gK', eK, x1⟩ := hkP.cellP (j := i + 1) (by rw [hks]; simp; omega)
  obtain rfl : gK = gK' := by injection eK with eK; injection eK
  rw [show P.ks.getD i 0 = L.n by rw [hks, ← hp]; simp [List.getD_eq_getElem?_getD]] at x0
  rw [show P.ks.getD (i + 1) 0 = R.n by rw [hks, ← hp]; simp [List.getD_eq_getElem?_getD]] at x1
  have hrR := aR.ri
  rw [f3] at hrR
  obtain ⟨gR, rfl, _, _⟩ := hrR.cellI (j := 0) (by rw [hRi]; simp)
  have bP := aP.blk
  have bL := aL.blk
  have bR := aR.blk
  rw [f1, g1] at bP
  rw [f2, g2] at bL
  rw [f3, g3] at bR
  have p0 := bP.cell 0
  have p1 := bP.cell 1
  have q0 := bL.cell 0
  have r0 := bR.cell 0
  simp only [List.getElem?_toArray, List.getElem?_cons_zero, List.getElem?_cons_succ] at p0 p1 q0 r0
  have hj1 : (i : Int) < (P.ks.length : Int) := by rw [hks]; simp; omega
  have hj2 : (i : Int) + 1 < (P.ks.length : Int) := by rw [hks]; simp; omega
  have hj3 : i < P.ks.length := by omega
  have hj4 : i + 1 < P.ks.length := by omega
  have hj5 : i < P.its.length := by rw [hit]; simp; omega
  have hj6 : (i : Int) < (P.its.length : Int) := by omega
  have hj7 : IntKind.i64.wrap ((i : Int) + 1) = (i : Int) + 1 := by rw [IntKind.wrap_i64]; omega
  have hj8 : (0 : Int) ≤ (i : Int) + 1 := by omega
  have hj9 : ((i : Int) + 1).toNat = i + 1 := by omega
  obtain ⟨n, hn⟩ : ∃ n, n = r.length := ⟨_, rfl⟩
  have hLn : R.its.length = n + 1 := by rw [hRi, hn]; simp
  have hn2 : n ≤ 200 := by omega
  rw [hLn] at f3 bR r0
  obtain ⟨nm, hnm⟩ : ∃ nm, nm = m.k.length := ⟨_, rfl⟩
  rw [← hnm] at m0
  have HLK := Lib.hid hLk
  have H0 := Lib.hid (And.intro hns (And.intro hit (And.intro ha (And.intro hks (And.intro hp (And.intro hRi (And.intro hn (And.intro l3 (And.intro l4 (And.intro f1 (And.intro g1 (And.intro f2 (And.intro g2 (And.intro f3 (And.intro g3 (And.intro hnm hLn))))))))))))))))
  have HLL := Lib.hid (And.intro l1 (And.intro l2 (And.intro l5 l6)))
  clear hns hit ha hks hp f1 g1 f2 g2 f3 g3 hnm aP aL aR hrP hkP eK hRi hLk hLn hn hrR l1 l3 l4 l5 l6 hj3 hj4 hj5
  have hj3 : i < P.ks.length := by omega
  have hj4 : i + 1 < P.ks.length := by omega
  have hj5 : i < P.its.length := by omega
  go_enter Try.func54, Try.ntmps54
  go_upto_region 0 with fail
  go_still_tail 16, (by kernel_rfl)
  change wpList _ _ _ _ _ w.drew
  go_upto_region 1 with fail
  clear p0 p1 q0 r0 m0 m1 x0 x1
  -- the item between goes down
  obtain ⟨wa, hwa⟩ : ∃ wa, wa = w.drew := ⟨_, rfl⟩
  rw [← hwa]
  have hba : Below w.heap.size w wa := by rw [hwa]; exact below_drew (Below.refl _ _)
  have hna := H0.out.1.on hba
  clear hwa
  have aL := hna.at' L (by simp)
  have aP := hna.at' P (by simp)
  have bP := aP.blk
  have bL := aL.blk
  rw [H0.out.2.2.2.2.2.2.2.2.2.1, H0.out.2.2.2.2.2.2.2.2.2.2.1] at bP
  rw [H0.out.2.2.2.2.2.2.2.2.2.2.2.1, H0.out.2.2.2.2.2.2.2.2.2.2.2.2.1] at bL
  have hrP := aP.ri
  rw [H0.out.2.2.2.2.2.2.2.2.2.1] at hrP
  obtain ⟨gP', eP, m0, m1⟩ := hrP.cellI (j := i) hj5
  obtain rfl : gP = gP' := by injection eP with eP; injection eP
  rw [show P.its.getD i default = m by rw [H0.out.2.1, ← H0.out.2.2.1]; simp [List.getD_eq_getElem?_getD]] at m0 m1
  rw [← H0.out.2.2.2.2.2.2.2.2.2.2.2.2.2.2.2.1] at m0
  have hrL := aL.ri
  rw [H0.out.2.2.2.2.2.2.2.2.2.2.2.1] at hrL
  obtain ⟨v1, w2, u1, u2, u3, u4⟩ := run_app5 (K := kI) 56 (w := (wa.alloc (.cells #[.slice m.A nm m.c, .int .i64 m.v] 69)).drew) (c := 1) [m] (hrL.alloc _).drew (rd_block (l := [m]) (g := wa.heap.size) (w := (wa.alloc (.cells #[.slice m.A nm m.c, .int .i64 m.v] 69)).drew) (Blk.new wa 69 _).drew (by rw [H0.out.2.2.2.2.2.2.2.2.2.2.2.2.2.2.2.1]; simp [flatK, kI])) (fun h => by cases h) (by have := HLL.out.1; simp; omega) (Nat.zero_le _)
  obtain ⟨Av, nv, cv, rfl⟩ : ∃ A n c, v1 = .slice A n c := by obtain ⟨A, c, e, _⟩ := u2.rd0; exact ⟨A, _, c, e⟩
  have hbw : Below wa.heap.size wa (wa.alloc (.cells #[.slice m.A nm m.c, .int .i64 m.v] 69)).drew := below_drew ((Below.refl _ _).alloc (Nat.le_refl _) _)
  have F1 : Fr (fun k => L.vi.ownBlock = some k) wa w2 := grown_fr hbw (by rw [H0.out.2.2.2.2.2.2.2.2.2.2.2.1]; exact u3)
  have hO : (Value.slice Av nv cv).ownBlock = L.vi.ownBlock ∨ ∃ k, (Value.slice Av nv cv).ownBlock = some k ∧ wa.heap.size ≤ k := by
    rcases u4 with h' | h'
    · rw [h', H0.out.2.2.2.2.2.2.2.2.2.2.2.1]; exact .inl rfl
    · exact .inr ⟨_, h', by simp⟩
  have hst := (stp_its aL (hna.one (x := L) (by simp)) F1 u2 hO).all (a := [P]) (b := [R]) hna
  have hL59 : ¬ L.vi.ownBlock = some L.n := fun h => by
    obtain ⟨cs', q'⟩ := aL.ri.own_blk h
    exact absurd (blk_ty bL q') (by decide)
  have p0 := bP.cell 0
  have q0 := bL.cell 0
  have q1 := (bL.alloc (.cells #[.slice m.A nm m.c, .int .i64 m.v] 69)).cell 0
  have q3 := (F1.b bL hL59).cell 0
  have q3f := (F1.b bL hL59).frozen 0
  simp only [List.getElem?_toArray, List.getElem?_cons_zero, List.getElem?_cons_succ] at p0 q0 q1 q3
  have HR1 := Lib.hid u1
  have HST := Lib.hid hst
  have HNA := Lib.hid (And.intro hna (And.intro hba aL))
  clear aL aP bP bL hrP eP hrL u1 u2 u3 u4 hbw F1 hO hst hL59 hna hba
  go_cut [4, 5] (fun s4 s5 wx => s4 = .pointer (some ⟨L.n, 0, none⟩) ∧ s5 = .pointer (some ⟨R.n, 0, none⟩) ∧ ∃ v, Stps wa [P, L, R] wx [P, { L with vi := v, its := L.its ++ [m] }, R])
  case first =>
    go_region_law (first
      | (refine step_ap rfl (.tmp 25) (.tmp 33) 56 56 rfl _ _ rfl rfl HR1.out ?_))
    all_goals
      go_wp2_with fail
      go_meet
      case rel =>
      exact ⟨rfl, rfl, _, by simpa using HST.out⟩
  case rest =>
  obtain ⟨wb, hwb⟩ : ∃ wb : World, wb = wc := ⟨_, rfl⟩
  subst hwb
  obtain ⟨rfl, rfl, vL, hs1⟩ := hcut
  clear HR1 HST p0 q0 q1 q3 q3f m0 m1
  -- the first one goes up
  have aP := hs1.ns.at' P (by simp)
  have aR := hs1.ns.at' R (by simp)
  have bP := aP.blk
  have bR := aR.blk
  rw [H0.out.2.2.2.2.2.2.2.2.2.1, H0.out.2.2.2.2.2.2.2.2.2.2.1] at bP
  rw [H0.out.2.2.2.2.2.2.2.2.2.2.2.2.2.1, H0.out.2.2.2.2.2.2.2.2.2.2.2.2.2.2.1] at bR
  have hrR := aR.ri
  rw [H0.out.2.2.2.2.2.2.2.2.2.2.2.2.2.1] at hrR
  obtain ⟨gR', eR, m0, m1⟩ := hrR.cellI (j := 0) (by omega)
  obtain rfl : gR = gR' := by injection eR with eR; injection eR
  rw [show R.its.getD 0 default = z by rw [H0.out.2.2.2.2.2.1]; rfl] at m0 m1
  have hrP := aP.ri
  rw [H0.out.2.2.2.2.2.2.2.2.2.1] at hrP
  obtain ⟨csP, qP⟩ := hrP.own_blk (k := gP) rfl
  have pf0 := qP.frozen (i * 2)
  have pf1 := qP.frozen (i * 2 + 1)
  obtain ⟨gP', eP, x0, x1⟩ := hrP.cellI (j := i) hj5
  obtain rfl : gP = gP' := by injection eP with eP; injection eP
  have p0 := bP.cell 0
  have q0 := bR.cell 0
  simp only [List.getElem?_toArray, List.getElem?_cons_zero, List.getElem?_cons_succ] at p0 q0
  obtain ⟨nz, hnz⟩ : ∃ nz, nz = z.k.length := ⟨_, rfl⟩
  rw [← hnz] at m0
  simp only [Nat.zero_mul, Nat.zero_add] at m0 m1
  have hst := (stp_item (y := z) aP (hs1.ns.one (x := P) (by simp)) (i1 := a) (i2 := b) (z := m) H0.out.2.1 H0.out.2.2.2.2.2.2.2.2.2.1).all (a := []) (b := [{ L with vi := vL, its := L.its ++ [m] }, R]) hs1.ns
  rw [H0.out.2.2.1, ← hnz] at hst
  have HST := Lib.hid (And.intro hs1 hst)
  have hnn : (0 : Int) < (n : Int) + 1 := by omega
  have hnn2 : 0 < n + 1 := by omega
  clear aP aR bP bR hrR eR hrP qP eP hs1 hst hnz
  go_upto_region 2 with fail
  go_still_tail 11, (by kernel_rfl)
  change wpList _ _ _ _ _ wb.drew
  go_upto_region 3 with fail
  have hs2 := (HST.out.1.trans HST.out.2).trans (Stps.below HST.out.2.ns (below_drew (Below.refl _ _)))
  clear HST p0 q0 m0 m1 x0 x1 pf0 pf1
  generalize ((wb.setCell ⟨gP, i * 2, none⟩ (.slice z.A nz z.c)).setCell ⟨gP, i * 2 + 1, none⟩ (.int .i64 z.v)).drew = wd at hs2 ⊢
  -- and leaves its row
  have aR := hs2.ns.at' R (by simp)
  have bR := aR.blk
  rw [H0.out.2.2.2.2.2.2.2.2.2.2.2.2.2.1, H0.out.2.2.2.2.2.2.2.2.2.2.2.2.2.2.1] at bR
  have hrR := aR.ri
  rw [H0.out.2.2.2.2.2.2.2.2.2.2.2.2.2.1, H0.out.2.2.2.2.2.1] at hrR
  have hdl : Calls Try.prog 38 #[.slice (some ⟨gR, 0, none⟩) (n + 1) c3, .int .i64 0, .int .i64 1] wd (DelOut kI 0 (.slice (some ⟨gR, 0, none⟩) (n + 1) c3) ([] ++ r) wd) := del_I 0 (n + 1) c3 (some ⟨gR, 0, none⟩) [] r z wd hrR (by omega)
  have HDL := Lib.hid hdl
  have q0 := bR.cell 0
  simp only [List.getElem?_toArray, List.getElem?_cons_zero, List.getElem?_cons_succ] at q0
  have HP := Lib.hid (And.intro hs2 (And.intro aR bR))
  have HPO := Lib.hid (own_ne aR.ri aR.blk (by decide))
  clear hs2 aR bR hrR hdl
  go_upto_region 4 with (go_at_call 38; (with_reducible refine HDL.out.mono ?_); rintro e w4 ⟨v', rfl, hr4, hg4, ho4⟩; dsimp only; clear HDL q0; obtain ⟨A6, c6, n6, hn6, rfl, _, _⟩ := hr4.rdn; have kP4 := Lib.hid (HP.out.2.2.grown hg4 (fun e => HPO.out (by rw [H0.out.2.2.2.2.2.2.2.2.2.2.2.2.2.1]; exact e.symm))); have q0 := kP4.out.cell 0; have q0f := kP4.out.frozen 0; simp only [List.getElem?_toArray, List.getElem?_cons_zero, List.getElem?_cons_succ] at q0; have H4 := Lib.hid (And.intro hr4 (And.intro hg4 ho4)); clear hr4 hg4 ho4 hn6)
  have hst3 := (stp_its HP.out.2.1 (HP.out.1.ns.one (x := R) (by simp)) (grown_fr (w1 := wd) (Below.refl _ _) (by rw [H0.out.2.2.2.2.2.2.2.2.2.2.2.2.2.1]; exact H4.out.2.1)) H4.out.1 (.inl (by rw [H4.out.2.2, H0.out.2.2.2.2.2.2.2.2.2.2.2.2.2.1]))).all (a := [{ P with its := a ++ z :: b }, { L with vi := vL, its := L.its ++ [m] }]) (b := []) HP.out.1.ns
  have hs3 := HP.out.1.trans hst3
  simp only [List.nil_append] at hs3
  clear q0 q0f hst3
  generalize w4.setCell ⟨R.n, 0, none⟩ (.slice A6 n6 c6) = we at hs3 ⊢
  have aR := hs3.ns.at' { R with vi := .slice A6 n6 c6, its := r } (by simp)
  have bR := aR.blk
  dsimp only at bR
  rw [H0.out.2.2.2.2.2.2.2.2.2.2.2.2.2.2.1] at bR
  have hlf := leaf_any R.n R.ks.length e3 _ B3 we bR
  rw [show decide (R.ks.length = 0) = true by rw [HLK.out.2]; rfl] at hlf
  have HLF := Lib.hid hlf
  have HS3 := Lib.hid hs3
  clear hlf aR bR hs3 HP H4 kP4 HPO
  go_wp2_with (go_at_call 30; (with_reducible refine HLF.out.mono ?_); rintro e w5 ⟨rfl, rfl⟩; dsimp only)
  refine bodyPost_end (v := .tuple #[]) (by simp [results, Try.f54, go_sem]) rfl ⟨rfl, ?_⟩
  have hs4 := (Stps.below H0.out.1 HNA.out.2.1).trans HS3.out
  have e1 : ({ L with vi := vL, its := L.its ++ [m] } : Nb) = ⟨L.n, vL, L.vk, L.its ++ [m], []⟩ := by rw [← HLK.out.1]
  have e2 : ({ R with vi := .slice A6 n6 c6, its := r } : Nb) = ⟨R.n, .slice A6 n6 c6, R.vk, r, []⟩ := by rw [← HLK.out.2]
  refine ⟨P.vi, vL, L.vk, .slice A6 n6 c6, R.vk, ?_⟩
  rw [← e1, ← e2]
  simpa using hs4
set_option maxHeartbeats 8000000 in
theorem fromRight_inner (i : Nat) (P L R : Nb) (a b r : List It) (m z : It) (kk : List Nat) (x : Nat) (p q : List Nat) (w : World) (hns : NS w [P, L, R]) (hit : P.its = a ++ m :: b) (ha : a.length = i) (hks : P.ks = p ++ L.n :: R.n :: q) (hp : p.length = i) (hj : i ≤ 200)
    (hRi : R.its = z :: r) (l1 : L.its.length ≤ 200) (l2 : R.its.length ≤ 200) (l3 : L.ks.length ≤ 200) (l4 : R.ks.length ≤ 200) (l5 : P.its.length ≤ 200) (l6 : P.ks.length ≤ 200) (hLk : R.ks = x :: kk) :
    Calls Try.prog 54 #[.pointer (some ⟨P.n, 0, none⟩), .int .i64 i] w (RotOut P L R (a ++ z :: b) (L.its ++ [m]) r (L.ks ++ [x]) kk w) := by
  have aP := hns.at' P (by simp)
  have aL := hns.at' L (by simp)
  have aR := hns.at' R (by simp)
  obtain ⟨A1, c1, B1, e1, f1, g1⟩ := aP.form
  obtain ⟨A2, c2, B2, e2, f2, g2⟩ := aL.form
  obtain ⟨A3, c3, B3, e3, f3, g3⟩ := aR.form
  have hrP := aP.ri
  have hkP := aP.rk
  rw [f1] at hrP
  rw [g1] at hkP
  obtain ⟨gP, rfl, m0, m1⟩ := hrP.cellI (j := i) (by rw [hit]; simp; omega)
  rw [show P.its.getD i default = m by rw [hit, ← ha]; simp [List.getD_eq_getElem?_getD]] at m0 m1
  obtain ⟨gK, rfl, x0⟩ := hkP.cellP (j := i) (by rw [hks]; simp; omega)
  obtain ⟨gK', eK, x1⟩ := hkP.cellP (j := i + 1) (by rw [hks]; simp; omega)
  obtain rfl : gK = gK' := by injection eK with eK; injection eK
  rw [show P.ks.getD i 0 = L.n by rw [hks, ← hp]; simp [List.getD_eq_getElem?_getD]] at x0
  rw [show P.ks.getD (i + 1) 0 = R.n by rw [hks, ← hp]; simp [List.getD_eq_getElem?_getD]] at x1
  have hrR := aR.ri
  rw [f3] at hrR
  obtain ⟨gR, rfl, _, _⟩ := hrR.cellI (j := 0) (by rw [hRi]; simp)
  have bP := aP.blk
  have bL := aL.blk
  have bR := aR.blk
  rw [f1, g1] at bP
  rw [f2, g2] at bL
  rw [f3, g3] at bR
  have p0 := bP.cell 0
  have p1 := bP.cell 1
  have q0 := bL.cell 0
  have r0 := bR.cell 0
  simp only [List.getElem?_toArray, List.getElem?_cons_zero, List.getElem?_cons_succ] at p0 p1 q0 r0
  have hj1 : (i : Int) < (P.ks.length : Int) := by rw [hks]; simp; omega
  have hj2 : (i : Int) + 1 < (P.ks.length : Int) := by rw [hks]; simp; omega
  have hj3 : i < P.ks.length := by omega
  have hj4 : i + 1 < P.ks.length := by omega
  have hj5 : i < P.its.length := by rw [hit]; simp; omega
  have hj6 : (i : Int) < (P.its.length : Int) := by omega
  have hj7 : IntKind.i64.wrap ((i : Int) + 1) = (i : Int) + 1 := by rw [IntKind.wrap_i64]; omega
  have hj8 : (0 : Int) ≤ (i : Int) + 1 := by omega
  have hj9 : ((i : Int) + 1).toNat = i + 1 := by omega
  obtain ⟨n, hn⟩ : ∃ n, n = r.length := ⟨_, rfl⟩
  have hLn : R.its.length = n + 1 := by rw [hRi, hn]; simp
  have hn2 : n ≤ 200 := by omega
  rw [hLn] at f3 bR r0
  obtain ⟨nm, hnm⟩ : ∃ nm, nm = m.k.length := ⟨_, rfl⟩
  rw [← hnm] at m0
  have HLK := Lib.hid hLk
  have H0 := Lib.hid (And.intro hns (And.intro hit (And.intro ha (And.intro hks (And.intro hp (And.intro hRi (And.intro hn (And.intro l3 (And.intro l4 (And.intro f1 (And.intro g1 (And.intro f2 (And.intro g2 (And.intro f3 (And.intro g3 (And.intro hnm hLn))))))))))))))))
  have HLL := Lib.hid (And.intro l1 (And.intro l2 (And.intro l5 l6)))
  clear hns hit ha hks hp f1 g1 f2 g2 f3 g3 hnm aP aL aR hrP hkP eK hRi hLk hLn hn hrR l1 l3 l4 l5 l6 hj3 hj4 hj5
  have hj3 : i < P.ks.length := by omega
  have hj4 : i + 1 < P.ks.length := by omega
  have hj5 : i < P.its.length := by omega
  go_enter Try.func54, Try.ntmps54
  go_upto_region 0 with fail
  go_still_tail 16, (by kernel_rfl)
  change wpList _ _ _ _ _ w.drew
  go_upto_region 1 with fail
  clear p0 p1 q0 r0 m0 m1 x0 x1
  -- the item between goes down
  obtain ⟨wa, hwa⟩ : ∃ wa, wa = w.drew := ⟨_, rfl⟩
  rw [← hwa]
  have hba : Below w.heap.size w wa := by rw [hwa]; exact below_drew (Below.refl _ _)
  have hna := H0.out.1.on hba
  clear hwa
  have aL := hna.at' L (by simp)
  have aP := hna.at' P (by simp)
  have bP := aP.blk
  have bL := aL.blk
  rw [H0.out.2.2.2.2.2.2.2.2.2.1, H0.out.2.2.2.2.2.2.2.2.2.2.1] at bP
  rw [H0.out.2.2.2.2.2.2.2.2.2.2.2.1, H0.out.2.2.2.2.2.2.2.2.2.2.2.2.1] at bL
  have hrP := aP.ri
  rw [H0.out.2.2.2.2.2.2.2.2.2.1] at hrP
  obtain ⟨gP', eP, m0, m1⟩ := hrP.cellI (j := i) hj5
  obtain rfl : gP = gP' := by injection eP with eP; injection eP
  rw [show P.its.getD i default = m by rw [H0.out.2.1, ← H0.out.2.2.1]; simp [List.getD_eq_getElem?_getD]] at m0 m1
  rw [← H0.out.2.2.2.2.2.2.2.2.2.2.2.2.2.2.2.1] at m0
  have hrL := aL.ri
  rw [H0.out.2.2.2.2.2.2.2.2.2.2.2.1] at hrL
  obtain ⟨v1, w2, u1, u2, u3, u4⟩ := run_app5 (K := kI) 56 (w := (wa.alloc (.cells #[.slice m.A nm m.c, .int .i64 m.v] 69)).drew) (c := 1) [m] (hrL.alloc _).drew (rd_block (l := [m]) (g := wa.heap.size) (w := (wa.alloc (.cells #[.slice m.A nm m.c, .int .i64 m.v] 69)).drew) (Blk.new wa 69 _).drew (by rw [H0.out.2.2.2.2.2.2.2.2.2.2.2.2.2.2.2.1]; simp [flatK, kI])) (fun h => by cases h) (by have := HLL.out.1; simp; omega) (Nat.zero_le _)
  obtain ⟨Av, nv, cv, rfl⟩ : ∃ A n c, v1 = .slice A n c := by obtain ⟨A, c, e, _⟩ := u2.rd0; exact ⟨A, _, c, e⟩
  have hbw : Below wa.heap.size wa (wa.alloc (.cells #[.slice m.A nm m.c, .int .i64 m.v] 69)).drew := below_drew ((Below.refl _ _).alloc (Nat.le_refl _) _)
  have F1 : Fr (fun k => L.vi.ownBlock = some k) wa w2 := grown_fr hbw (by rw [H0.out.2.2.2.2.2.2.2.2.2.2.2.1]; exact u3)
  have hO : (Value.slice Av nv cv).ownBlock = L.vi.ownBlock ∨ ∃ k, (Value.slice Av nv cv).ownBlock = some k ∧ wa.heap.size ≤ k := by
    rcases u4 with h' | h'
    · rw [h', H0.out.2.2.2.2.2.2.2.2.2.2.2.1]; exact .inl rfl
    · exact .inr ⟨_, h', by simp⟩
  have hst := (stp_its aL (hna.one (x := L) (by simp)) F1 u2 hO).all (a := [P]) (b := [R]) hna
  have hL59 : ¬ L.vi.ownBlock = some L.n := fun h => by
    obtain ⟨cs', q'⟩ := aL.ri.own_blk h
    exact absurd (blk_ty bL q') (by decide)
  have p0 := bP.cell 0
  have q0 := bL.cell 0
  have q1 := (bL.alloc (.cells #[.slice m.A nm m.c, .int .i64 m.v] 69)).cell 0
  have q3 := (F1.b bL hL59).cell 0
  have q3f := (F1.b bL hL59).frozen 0
  simp only [List.getElem?_toArray, List.getElem?_cons_zero, List.getElem?_cons_succ] at p0 q0 q1 q3
  have HR1 := Lib.hid u1
  have HST := Lib.hid hst
  have HNA := Lib.hid (And.intro hna (And.intro hba aL))
  clear aL aP bP bL hrP eP hrL u1 u2 u3 u4 hbw F1 hO hst hL59 hna hba
  go_cut [4, 5] (fun s4 s5 wx => s4 = .pointer (some ⟨L.n, 0, none⟩) ∧ s5 = .pointer (some ⟨R.n, 0, none⟩) ∧ ∃ v, Stps wa [P, L, R] wx [P, { L with vi := v, its := L.its ++ [m] }, R])
  case first =>
    go_region_law (first
      | (refine step_ap rfl (.tmp 25) (.tmp 33) 56 56 rfl _ _ rfl rfl HR1.out ?_))
    all_goals
      go_wp2_with fail
      go_meet
      case rel =>
      exact ⟨rfl, rfl, _, by simpa using HST.out⟩
  case rest =>
  obtain ⟨wb, hwb⟩ : ∃ wb : World, wb = wc := ⟨_, rfl⟩
  subst hwb
  obtain ⟨rfl, rfl, vL, hs1⟩ := hcut
  clear HR1 HST p0 q0 q1 q3 q3f m0 m1
  -- the first one goes up
  have aP := hs1.ns.at' P (by simp)
  have aR := hs1.ns.at' R (by simp)
  have bP := aP.blk
  have bR := aR.blk
  rw [H0.out.2.2.2.2.2.2.2.2.2.1, H0.out.2.2.2.2.2.2.2.2.2.2.1] at bP
  rw [H0.out.2.2.2.2.2.2.2.2.2.2.2.2.2.1, H0.out.2.2.2.2.2.2.2.2.2.2.2.2.2.2.1] at bR
  have hrR := aR.ri
  rw [H0.out.2.2.2.2.2.2.2.2.2.2.2.2.2.1] at hrR
  obtain ⟨gR', eR, m0, m1⟩ := hrR.cellI (j := 0) (by omega)
  obtain rfl : gR = gR' := by injection eR with eR; injection eR
  rw [show R.its.getD 0 default = z by rw [H0.out.2.2.2.2.2.1]; rfl] at m0 m1
  have hrP := aP.ri
  rw [H0.out.2.2.2.2.2.2.2.2.2.1] at hrP
  obtain ⟨csP, qP⟩ := hrP.own_blk (k := gP) rfl
  have pf0 := qP.frozen (i * 2)
  have pf1 := qP.frozen (i * 2 + 1)
  obtain ⟨gP', eP, x0, x1⟩ := hrP.cellI (j := i) hj5
  obtain rfl : gP = gP' := by injection eP with eP; injection eP
  have p0 := bP.cell 0
  have q0 := bR.cell 0
  simp only [List.getElem?_toArray, List.getElem?_cons_zero, List.getElem?_cons_succ] at p0 q0
  obtain ⟨nz, hnz⟩ : ∃ nz, nz = z.k.length := ⟨_, rfl⟩
  rw [← hnz] at m0
  simp only [Nat.zero_mul, Nat.zero_add] at m0 m1
  have hst := (stp_item (y := z) aP (hs1.ns.one (x := P) (by simp)) (i1 := a) (i2 := b) (z := m) H0.out.2.1 H0.out.2.2.2.2.2.2.2.2.2.1).all (a := []) (b := [{ L with vi := vL, its := L.its ++ [m] }, R]) hs1.ns
  rw [H0.out.2.2.1, ← hnz] at hst
  have HST := Lib.hid (And.intro hs1 hst)
  have hnn : (0 : Int) < (n : Int) + 1 := by omega
  have hnn2 : 0 < n + 1 := by omega
  clear aP aR bP bR hrR eR hrP qP eP hs1 hst hnz
  go_upto_region 2 with fail
  go_still_tail 11, (by kernel_rfl)
  change wpList _ _ _ _ _ wb.drew
  go_upto_region 3 with fail
  have hs2 := (HST.out.1.trans HST.out.2).trans (Stps.below HST.out.2.ns (below_drew (Below.refl _ _)))
  clear HST p0 q0 m0 m1 x0 x1 pf0 pf1
  generalize ((wb.setCell ⟨gP, i * 2, none⟩ (.slice z.A nz z.c)).setCell ⟨gP, i * 2 + 1, none⟩ (.int .i64 z.v)).drew = wd at hs2 ⊢
  -- and leaves its row
  have aR := hs2.ns.at' R (by simp)
  have bR := aR.blk
  rw [H0.out.2.2.2.2.2.2.2.2.2.2.2.2.2.1, H0.out.2.2.2.2.2.2.2.2.2.2.2.2.2.2.1] at bR
  have hrR := aR.ri
  rw [H0.out.2.2.2.2.2.2.2.2.2.2.2.2.2.1, H0.out.2.2.2.2.2.1] at hrR
  have hdl : Calls Try.prog 38 #[.slice (some ⟨gR, 0, none⟩) (n + 1) c3, .int .i64 0, .int .i64 1] wd (DelOut kI 0 (.slice (some ⟨gR, 0, none⟩) (n + 1) c3) ([] ++ r) wd) := del_I 0 (n + 1) c3 (some ⟨gR, 0, none⟩) [] r z wd hrR (by omega)
  have HDL := Lib.hid hdl
  have q0 := bR.cell 0
  simp only [List.getElem?_toArray, List.getElem?_cons_zero, List.getElem?_cons_succ] at q0
  have HP := Lib.hid (And.intro hs2 (And.intro aR bR))
  have HPO := Lib.hid (own_ne aR.ri aR.blk (by decide))
  clear hs2 aR bR hrR hdl
  go_upto_region 4 with (go_at_call 38; (with_reducible refine HDL.out.mono ?_); rintro e w4 ⟨v', rfl, hr4, hg4, ho4⟩; dsimp only; clear HDL q0; obtain ⟨A6, c6, n6, hn6, rfl, _, _⟩ := hr4.rdn; have kP4 := Lib.hid (HP.out.2.2.grown hg4 (fun e => HPO.out (by rw [H0.out.2.2.2.2.2.2.2.2.2.2.2.2.2.1]; exact e.symm))); have q0 := kP4.out.cell 0; have q0f := kP4.out.frozen 0; simp only [List.getElem?_toArray, List.getElem?_cons_zero, List.getElem?_cons_succ] at q0; have H4 := Lib.hid (And.intro hr4 (And.intro hg4 ho4)); clear hr4 hg4 ho4 hn6)
  have hst3 := (stp_its HP.out.2.1 (HP.out.1.ns.one (x := R) (by simp)) (grown_fr (w1 := wd) (Below.refl _ _) (by rw [H0.out.2.2.2.2.2.2.2.2.2.2.2.2.2.1]; exact H4.out.2.1)) H4.out.1 (.inl (by rw [H4.out.2.2, H0.out.2.2.2.2.2.2.2.2.2.2.2.2.2.1]))).all (a := [{ P with its := a ++ z :: b }, { L with vi := vL, its := L.its ++ [m] }]) (b := []) HP.out.1.ns
  have hs3 := HP.out.1.trans hst3
  simp only [List.nil_append] at hs3
  clear q0 q0f hst3
  generalize w4.setCell ⟨R.n, 0, none⟩ (.slice A6 n6 c6) = we at hs3 ⊢
  have aR := hs3.ns.at' { R with vi := .slice A6 n6 c6, its := r } (by simp)
  have bR := aR.blk
  dsimp only at bR
  rw [H0.out.2.2.2.2.2.2.2.2.2.2.2.2.2.2.1] at bR
  have hlf := leaf_any R.n R.ks.length e3 _ B3 we bR
  rw [show decide (R.ks.length = 0) = false from decide_eq_false (by rw [HLK.out]; simp)] at hlf
  have HLF := Lib.hid hlf
  have aL := hs3.ns.at' { L with vi := vL, its := L.its ++ [m] } (by simp)
  obtain ⟨AL, cL, _, _, hvL, _⟩ := aL.form
  have bL := aL.blk
  dsimp only at bL hvL
  rw [hvL, H0.out.2.2.2.2.2.2.2.2.2.2.2.2.1] at bL
  have hkR := aR.rk
  dsimp only at hkR
  rw [H0.out.2.2.2.2.2.2.2.2.2.2.2.2.2.2.1] at hkR
  have hkl1 : R.ks.length = kk.length + 1 := by rw [HLK.out]; simp
  have hkl2 : kk.length ≤ 200 := by have := H0.out.2.2.2.2.2.2.2.2.1; omega
  obtain ⟨nk, hnk⟩ : ∃ nk, nk = kk.length := ⟨_, rfl⟩
  rw [← hnk] at hkl1 hkl2
  rw [hkl1] at hkR bR
  obtain ⟨gB, rfl, x0⟩ := hkR.cellP (j := 0) (by omega)
  rw [show R.ks.getD 0 0 = x by rw [HLK.out]; rfl] at x0
  have hkL := aL.rk
  dsimp only at hkL
  rw [H0.out.2.2.2.2.2.2.2.2.2.2.2.2.1] at hkL
  obtain ⟨v1, w2, u1, u2, u3, u4⟩ := run_app5 (K := kP) 57 (w := (we.alloc (.cells #[.pointer (some ⟨x, 0, none⟩)] 55)).drew) (c := 1) [x] (hkL.alloc _).drew (rd_block (l := [x]) (g := we.heap.size) (w := (we.alloc (.cells #[.pointer (some ⟨x, 0, none⟩)] 55)).drew) (Blk.new we 55 _).drew (by simp [flatK, kP])) (fun h => by cases h) (by have := H0.out.2.2.2.2.2.2.2.1; simp; omega) (Nat.zero_le _)
  obtain ⟨Av, nv, cv, rfl⟩ : ∃ A n c, v1 = .slice A n c := by obtain ⟨A, c, e, _⟩ := u2.rd0; exact ⟨A, _, c, e⟩
  have hbw : Below we.heap.size we (we.alloc (.cells #[.pointer (some ⟨x, 0, none⟩)] 55)).drew := below_drew ((Below.refl _ _).alloc (Nat.le_refl _) _)
  have F1 : Fr (fun k => L.vk.ownBlock = some k) we w2 := grown_fr hbw (by rw [H0.out.2.2.2.2.2.2.2.2.2.2.2.2.1]; exact u3)
  have hO : (Value.slice Av nv cv).ownBlock = L.vk.ownBlock ∨ ∃ k, (Value.slice Av nv cv).ownBlock = some k ∧ we.heap.size ≤ k := by
    rcases u4 with h' | h'
    · rw [h', H0.out.2.2.2.2.2.2.2.2.2.2.2.2.1]; exact .inl rfl
    · exact .inr ⟨_, h', by simp⟩
  have hst := (stp_ks aL (hs3.ns.one (x := { L with vi := vL, its := L.its ++ [m] }) (by simp)) F1 u2 hO).all (a := [{ P with its := a ++ z :: b }]) (b := [{ R with vi := .slice A6 n6 c6, its := r }]) hs3.ns
  have hL59 : ¬ L.vk.ownBlock = some L.n := fun h => by
    obtain ⟨cs', q'⟩ := aL.rk.own_blk h
    exact absurd (blk_ty bL q') (by decide)
  have r0 := bR.cell 1
  have q0 := bL.cell 1
  have q1 := (bL.alloc (.cells #[.pointer (some ⟨x, 0, none⟩)] 55)).cell 1
  have q3 := (F1.b bL hL59).cell 1
  have q3f := (F1.b bL hL59).frozen 1
  simp only [List.getElem?_toArray, List.getElem?_cons_zero, List.getElem?_cons_succ] at r0 q0 q1 q3
  have hy1 : (0 : Int) < (nk : Int) + 1 := by omega
  have hy2 : 0 < nk + 1 := by omega
  have HR1 := Lib.hid u1
  have HST := Lib.hid (hs3.trans hst)
  have HK1 := Lib.hid (And.intro hkl1 hnk)
  clear hlf aL bL hs3 HP H4 kP4 HPO aR bR hkR hkL hvL u1 u2 u3 u4 hbw F1 hO hst hL59 hkl1 hnk
  go_upto_region 5 with (go_at_call 30; (with_reducible refine HLF.out.mono ?_); rintro e w5 ⟨rfl, rfl⟩; dsimp only)
  go_cut [4, 5] (fun s4 s5 wx => s4 = .pointer (some ⟨L.n, 0, none⟩) ∧ s5 = .pointer (some ⟨R.n, 0, none⟩) ∧ ∃ u, Stps wa [P, L, R] wx [{ P with its := a ++ z :: b }, { L with vi := vL, its := L.its ++ [m], vk := u, ks := L.ks ++ [x] }, { R with vi := .slice A6 n6 c6, its := r }])
  case first =>
    go_region_law (first
      | (refine step_ap rfl (.tmp 64) (.tmp 71) 57 57 rfl _ _ rfl rfl HR1.out ?_))
    all_goals
      go_wp2_with fail
      go_meet
      case rel =>
      exact ⟨rfl, rfl, _, by simpa using HST.out⟩
  case rest =>
  obtain ⟨wf, hwf⟩ : ∃ wf : World, wf = wc := ⟨_, rfl⟩
  subst hwf
  obtain ⟨rfl, rfl, uL, hs4⟩ := hcut
  clear HR1 HST r0 q0 q1 q3 q3f x0
  have aR := hs4.ns.at' { R with vi := .slice A6 n6 c6, its := r } (by simp)
  have bR := aR.blk
  have hkR := aR.rk
  dsimp only at bR hkR
  rw [H0.out.2.2.2.2.2.2.2.2.2.2.2.2.2.2.1, HK1.out.1] at bR
  rw [H0.out.2.2.2.2.2.2.2.2.2.2.2.2.2.2.1, HK1.out.1, HLK.out] at hkR
  have hdl : Calls Try.prog 52 #[.slice (some ⟨gB, 0, none⟩) (nk + 1) e3, .int .i64 0, .int .i64 1] wf (DelOut kP 0 (.slice (some ⟨gB, 0, none⟩) (nk + 1) e3) ([] ++ kk) wf) := del_P 0 (nk + 1) e3 (some ⟨gB, 0, none⟩) [] kk x wf hkR (by omega)
  have HDL := Lib.hid hdl
  have q1 := bR.cell 1
  simp only [List.getElem?_toArray, List.getElem?_cons_zero, List.getElem?_cons_succ] at q1
  have HP3 := Lib.hid (And.intro hs4 (And.intro aR bR))
  have HPO3 := Lib.hid (own_ne aR.rk aR.blk (by decide))
  clear hs4 aR bR hkR hdl
  go_wp2_with (go_at_call 52; (with_reducible refine HDL.out.mono ?_); rintro e w5 ⟨v', rfl, hr4, hg4, ho4⟩; dsimp only; clear HDL q1; obtain ⟨A7, c7, n7, hn7, rfl, _, _⟩ := hr4.rdn; have kP4 := Lib.hid (HP3.out.2.2.grown hg4 (fun e => HPO3.out (by dsimp only; rw [H0.out.2.2.2.2.2.2.2.2.2.2.2.2.2.2.1, HK1.out.1]; exact e.symm))); have q1 := kP4.out.cell 1; have q1f := kP4.out.frozen 1; simp only [List.getElem?_toArray, List.getElem?_cons_zero, List.getElem?_cons_succ] at q1; have H4 := Lib.hid (And.intro hr4 (And.intro hg4 ho4)); clear hr4 hg4 ho4 hn7)
  refine bodyPost_end (v := .tuple #[]) (by simp [results, Try.f54, go_sem]) rfl ⟨rfl, ?_⟩
  have hst4 := (stp_ks HP3.out.2.1 (HP3.out.1.ns.one (x := { R with vi := .slice A6 n6 c6, its := r }) (by simp)) (grown_fr (w1 := wf) (Below.refl _ _) (by dsimp only; rw [H0.out.2.2.2.2.2.2.2.2.2.2.2.2.2.2.1, HK1.out.1]; exact H4.out.2.1)) H4.out.1 (.inl (by dsimp only; rw [H4.out.2.2, H0.out.2.2.2.2.2.2.2.2.2.2.2.2.2.2.1, HK1.out.1]))).all (a := [{ P with its := a ++ z :: b }, { L with vi := vL, its := L.its ++ [m], vk := uL, ks := L.ks ++ [x] }]) (b := []) HP3.out.1.ns
  have hs5 := (Stps.below H0.out.1 HNA.out.2.1).trans (HP3.out.1.trans hst4)
  simp only [List.nil_append] at hs5
  exact ⟨P.vi, _, _, _, _, by simpa using hs5⟩
end Go.Proofs.Ytgjcomnljonffaa.Tlv
