/- fromLeft: the last item of a child goes up, the item between goes down to the next. -/
import Derived.Test.YtgjcomnljonffaaB22
namespace Go.Proofs.Ytgjcomnljonffaa.Tlv
open Go.RowKit
set_option maxRecDepth 100000
set_option linter.unusedVariables false
set_option linter.unusedSimpArgs false
theorem ins_ho {v v' : Value} {n m : Nat} (h : v'.ownBlock = v.ownBlock ∨ ∃ k, v'.ownBlock = some k ∧ n ≤ k) (hn : m ≤ n) : v'.ownBlock = v.ownBlock ∨ ∃ k, v'.ownBlock = some k ∧ m ≤ k := by
  rcases h with h | ⟨k, h, h2⟩
  · exact .inl h
  · exact .inr ⟨k, h, by omega⟩
def RotOut (P L R : Nb) (iP iL iR : List It) (kL kR : List Nat) (w : World) (e : Ending) (w' : World) : Prop :=
  e = .returned (.tuple #[]) ∧ ∃ vP v1 u1 v2 u2, Stps w [P, L, R] w' [{ P with vi := vP, its := iP }, ⟨L.n, v1, u1, iL, kL⟩, ⟨R.n, v2, u2, iR, kR⟩]
set_option maxHeartbeats 8000000 in
theorem fromLeft_leaf (i : Nat) (P L R : Nb) (a b l : List It) (m z : It) (p q : List Nat) (w : World) (hns : NS w [P, L, R]) (hit : P.its = a ++ m :: b) (ha : a.length = i) (hks : P.ks = p ++ L.n :: R.n :: q) (hp : p.length = i) (hj : i ≤ 200)
    (hLi : L.its = l ++ [z]) (l1 : L.its.length ≤ 200) (l2 : R.its.length ≤ 200) (l3 : L.ks.length ≤ 200) (l4 : R.ks.length ≤ 200) (l5 : P.its.length ≤ 200) (l6 : P.ks.length ≤ 200) (hLk : L.ks = [] ∧ R.ks = []) :
    Calls Try.prog 53 #[.pointer (some ⟨P.n, 0, none⟩), .int .i64 ((i : Int) + 1)] w (RotOut P L R (a ++ z :: b) l (m :: R.its) [] [] w) := by
  have aP := hns.at' P (by simp)
  have aL := hns.at' L (by simp)
  have aR := hns.at' R (by simp)
  obtain ⟨A1, c1, B1, e1, f1, g1⟩ := aP.form
  obtain ⟨A2, c2, B2, e2, f2, g2⟩ := aL.form
  obtain ⟨A3, c3, B3, e3, f3, g3⟩ := aR.form
  have hrP := aP.ri
  have hkP := aP.rk
  rw [f1] at hrP
  rw [g1] at hkP
  obtain ⟨gP, rfl, m0, m1⟩ := hrP.cellI (j := i) (by rw [hit]; simp; omega)
  rw [show P.its.getD i default = m by rw [hit, ← ha]; simp [List.getD_eq_getElem?_getD]] at m0 m1
  obtain ⟨gK, rfl, x0⟩ := hkP.cellP (j := i) (by rw [hks]; simp; omega)
  obtain ⟨gK', eK, x1⟩ := hkP.cellP (j := i + 1) (by rw [hks]; simp; omega)
  obtain rfl : gK = gK' := by injection eK with eK; injection eK
  rw [show P.ks.getD i 0 = L.n by rw [hks, ← hp]; simp [List.getD_eq_getElem?_getD]] at x0
  rw [show P.ks.getD (i + 1) 0 = R.n by rw [hks, ← hp]; simp [List.getD_eq_getElem?_getD]] at x1
  have hrL := aL.ri
  rw [f2] at hrL
  obtain ⟨gL, rfl, _, _⟩ := hrL.cellI (j := l.length) (by rw [hLi]; simp)
  have bP := aP.blk
  have bL := aL.blk
  have bR := aR.blk
  rw [f1, g1] at bP
  rw [f2, g2] at bL
  rw [f3, g3] at bR
  have p0 := bP.cell 0
  have p1 := bP.cell 1
  have q0 := bL.cell 0
  have r0 := bR.cell 0
  simp only [List.getElem?_toArray, List.getElem?_cons_zero, List.getElem?_cons_succ] at p0 p1 q0 r0
  have hj1 : (i : Int) < (P.ks.length : Int) := by rw [hks]; simp; omega
  have hj2 : (i : Int) + 1 < (P.ks.length : Int) := by rw [hks]; simp; omega
  have hj3 : i < P.ks.length := by omega
  have hj4 : i + 1 < P.ks.length := by omega
  have hj5 : i < P.its.length := by rw [hit]; simp; omega
  have hj6 : (i : Int) < (P.its.length : Int) := by omega
  have hj7 : IntKind.i64.wrap (i : Int) = (i : Int) := by rw [IntKind.wrap_i64]; omega
  have hj8 : (0 : Int) ≤ (i : Int) + 1 := by omega
  have hj9 : ((i : Int) + 1).toNat = i + 1 := by omega
  obtain ⟨n, hn⟩ : ∃ n, n = l.length := ⟨_, rfl⟩
  have hLn : L.its.length = n + 1 := by rw [hLi, hn]; simp
  have hn1 : IntKind.i64.wrap (n : Int) = (n : Int) := by rw [IntKind.wrap_i64]; omega
  have hn2 : n ≤ 200 := by omega
  have hn3 : IntKind.i64.wrap ((n : Int) + 1) = (n : Int) + 1 := by rw [IntKind.wrap_i64]; omega
  have hn4 : IntKind.i64.wrap ((n : Int) + 2) = (n : Int) + 2 := by rw [IntKind.wrap_i64]; omega
  rw [hLn] at f2 bL q0
  obtain ⟨nm, hnm⟩ : ∃ nm, nm = m.k.length := ⟨_, rfl⟩
  rw [← hnm] at m0
  have HLK := Lib.hid hLk
  have H0 := Lib.hid (And.intro hns (And.intro hit (And.intro ha (And.intro hks (And.intro hp (And.intro hLi (And.intro hn (And.intro l3 (And.intro l4 (And.intro f1 (And.intro g1 (And.intro f2 (And.intro g2 (And.intro f3 (And.intro g3 (And.intro hnm hLn))))))))))))))))
  have HLL := Lib.hid (And.intro l1 (And.intro l2 (And.intro l5 l6)))
  clear hns hit ha hks hp f1 g1 f2 g2 f3 g3 hnm aP aL aR hrP hkP eK hLi hLk hLn hn hrL l1 l3 l4 l5 l6 hj3 hj4 hj5
  have hj3 : i < P.ks.length := by omega
  have hj4 : i + 1 < P.ks.length := by omega
  have hj5 : i < P.its.length := by omega
  go_enter Try.func53, Try.ntmps53
  go_upto_region 0 with fail
  go_still_tail 16, (by kernel_rfl)
  change wpList _ _ _ _ _ w.drew
  go_upto_region 1 with fail
  go_upto_region 2 with fail
  clear p0 p1 q0 r0 m0 m1 x0 x1
  -- the item between goes down
  obtain ⟨wa, hwa⟩ : ∃ wa, wa = w.drew := ⟨_, rfl⟩
  rw [← hwa]
  have hba : Below w.heap.size w wa := by rw [hwa]; exact below_drew (Below.refl _ _)
  have hna := H0.out.1.on hba
  clear hwa
  have aR := hna.at' R (by simp)
  have aP := hna.at' P (by simp)
  have bP := aP.blk
  have bR := aR.blk
  rw [H0.out.2.2.2.2.2.2.2.2.2.1, H0.out.2.2.2.2.2.2.2.2.2.2.1] at bP
  rw [H0.out.2.2.2.2.2.2.2.2.2.2.2.2.2.1, H0.out.2.2.2.2.2.2.2.2.2.2.2.2.2.2.1] at bR
  have hrP := aP.ri
  rw [H0.out.2.2.2.2.2.2.2.2.2.1] at hrP
  obtain ⟨gP', eP, m0, m1⟩ := hrP.cellI (j := i) hj5
  obtain rfl : gP = gP' := by injection eP with eP; injection eP
  rw [show P.its.getD i default = m by rw [H0.out.2.1, ← H0.out.2.2.1]; simp [List.getD_eq_getElem?_getD]] at m0 m1
  rw [← H0.out.2.2.2.2.2.2.2.2.2.2.2.2.2.2.2.1] at m0
  have hrR := aR.ri
  rw [H0.out.2.2.2.2.2.2.2.2.2.2.2.2.2.1] at hrR
  have hC0 : Calls Try.prog 36 #[.slice A3 R.its.length c3, .int .i64 0, .slice (some ⟨wa.heap.size, 0, none⟩) 1 1] (wa.alloc (.cells #[.slice m.A nm m.c, .int .i64 m.v] 69)).drew (InsOut kI 0 (.slice A3 R.its.length c3) ([] ++ m :: R.its) (wa.alloc (.cells #[.slice m.A nm m.c, .int .i64 m.v] 69)).drew) :=
    ins_I 0 R.its.length c3 A3 [] R.its m wa.heap.size (wa.alloc (.cells #[.slice m.A nm m.c, .int .i64 m.v] 69)).drew (hrR.alloc _).drew (by rw [H0.out.2.2.2.2.2.2.2.2.2.2.2.2.2.2.2.1]; exact (Blk.new wa 69 _).drew) (fun e => by
      obtain ⟨cs, q⟩ := hrR.own_blk e
      exact absurd q.lt (by omega)) (by omega) (Nat.zero_le _)
  have p0 := bP.cell 0
  have r0 := bR.cell 0
  have r1 := (bR.alloc (.cells #[.slice m.A nm m.c, .int .i64 m.v] 69)).cell 0
  simp only [List.getElem?_toArray, List.getElem?_cons_zero, List.getElem?_cons_succ] at p0 r0 r1
  have HC := Lib.hid hC0
  have HPP := Lib.hid ((bR.alloc (.cells #[.slice m.A nm m.c, .int .i64 m.v] 69)).drew)
  have HPO := Lib.hid (own_ne ((hrR.alloc (.cells #[.slice m.A nm m.c, .int .i64 m.v] 69)).drew) HPP.out (by decide))
  have HNA := Lib.hid (And.intro hna (And.intro hba aR))
  clear hC0 aR aP bP bR hrP eP hrR hna hba
  go_cut [4, 5, 6] (fun s4 s5 s6 wx => s4 = .pointer (some ⟨L.n, 0, none⟩) ∧ s5 = .pointer (some ⟨R.n, 0, none⟩) ∧ s6 = .int .i64 n ∧ ∃ v, Stps wa [P, L, R] wx [P, L, { R with vi := v, its := m :: R.its }])
  case first =>
    go_region_law (first
      | (go_simp; (with_reducible refine HC.out.mono ?_); rintro e w4 ⟨v', rfl, hr4, hg4, ho4⟩; dsimp only; clear HC p0 r0 r1 m0 m1; obtain ⟨A6, c6, n6, hn6, rfl, _, _⟩ := hr4.rdn; have kP4 := Lib.hid (HPP.out.grown hg4 (fun e => HPO.out e.symm)); have p0 := kP4.out.cell 0; have p0f := kP4.out.frozen 0; simp only [List.getElem?_toArray, List.getElem?_cons_zero, List.getElem?_cons_succ] at p0; have H4 := Lib.hid (And.intro hr4 (And.intro hg4 ho4)); clear hr4 hg4 ho4 hn6))
    all_goals
      go_wp2_with fail
      go_meet
      case rel =>
      have hst := (stp_its HNA.out.2.2 (HNA.out.1.one (x := R) (by simp)) (grown_fr (w1 := (wa.alloc (.cells #[.slice m.A nm m.c, .int .i64 m.v] 69)).drew) (below_drew ((Below.refl _ _).alloc (Nat.le_refl _) _)) (by rw [H0.out.2.2.2.2.2.2.2.2.2.2.2.2.2.1]; exact H4.out.2.1)) H4.out.1 (by rw [H0.out.2.2.2.2.2.2.2.2.2.2.2.2.2.1]; exact ins_ho H4.out.2.2 (by simp))).all (a := [P, L]) (b := []) HNA.out.1
      exact ⟨rfl, rfl, rfl, _, by simpa using hst⟩
  case rest =>
  obtain ⟨wb, hwb⟩ : ∃ wb : World, wb = wc := ⟨_, rfl⟩
  subst hwb
  obtain ⟨rfl, rfl, rfl, vR, hs1⟩ := hcut
  clear HC HPP HPO p0 r0 r1 m0 m1
  -- the last one goes up
  have aP := hs1.ns.at' P (by simp)
  have aL := hs1.ns.at' L (by simp)
  have bP := aP.blk
  have bL := aL.blk
  rw [H0.out.2.2.2.2.2.2.2.2.2.1, H0.out.2.2.2.2.2.2.2.2.2.2.1] at bP
  rw [H0.out.2.2.2.2.2.2.2.2.2.2.2.1, H0.out.2.2.2.2.2.2.2.2.2.2.2.2.1] at bL
  have hrL := aL.ri
  rw [H0.out.2.2.2.2.2.2.2.2.2.2.2.1] at hrL
  obtain ⟨gL', eL, m0, m1⟩ := hrL.cellI (j := n) (by omega)
  obtain rfl : gL = gL' := by injection eL with eL; injection eL
  rw [show L.its.getD n default = z by rw [H0.out.2.2.2.2.2.1, H0.out.2.2.2.2.2.2.1]; simp [List.getD_eq_getElem?_getD]] at m0 m1
  have hrP := aP.ri
  rw [H0.out.2.2.2.2.2.2.2.2.2.1] at hrP
  obtain ⟨csP, qP⟩ := hrP.own_blk (k := gP) rfl
  have pf0 := qP.frozen (i * 2)
  have pf1 := qP.frozen (i * 2 + 1)
  obtain ⟨gP', eP, x0, x1⟩ := hrP.cellI (j := i) hj5
  obtain rfl : gP = gP' := by injection eP with eP; injection eP
  have p0 := bP.cell 0
  have q0 := bL.cell 0
  simp only [List.getElem?_toArray, List.getElem?_cons_zero, List.getElem?_cons_succ] at p0 q0
  obtain ⟨nz, hnz⟩ : ∃ nz, nz = z.k.length := ⟨_, rfl⟩
  rw [← hnz] at m0
  have hst := (stp_item (y := z) aP (hs1.ns.one (x := P) (by simp)) (i1 := a) (i2 := b) (z := m) H0.out.2.1 H0.out.2.2.2.2.2.2.2.2.2.1).all (a := []) (b := [L, { R with vi := vR, its := m :: R.its }]) hs1.ns
  rw [H0.out.2.2.1, ← hnz] at hst
  have HST := Lib.hid (And.intro hs1 hst)
  have hnn : (n : Int) < (n : Int) + 1 := by omega
  have hnn2 : n < n + 1 := by omega
  clear aP aL bP bL hrL eL hrP qP eP hs1 hst hnz
  go_upto_region 3 with fail
  go_still_tail 13, (by kernel_rfl)
  change wpList _ _ _ _ _ wb.drew
  go_upto_region 4 with fail
  have hs2 := (HST.out.1.trans HST.out.2).trans (Stps.below HST.out.2.ns (below_drew (Below.refl _ _)))
  clear HST p0 q0 m0 m1 x0 x1 pf0 pf1
  generalize ((wb.setCell ⟨gP, i * 2, none⟩ (.slice z.A nz z.c)).setCell ⟨gP, i * 2 + 1, none⟩ (.int .i64 z.v)).drew = wd at hs2 ⊢
  -- and leaves its row
  have aL := hs2.ns.at' L (by simp)
  have bL := aL.blk
  rw [H0.out.2.2.2.2.2.2.2.2.2.2.2.1, H0.out.2.2.2.2.2.2.2.2.2.2.2.2.1] at bL
  have hrL := aL.ri
  rw [H0.out.2.2.2.2.2.2.2.2.2.2.2.1, H0.out.2.2.2.2.2.1] at hrL
  have hdl := del_I 0 (n + 1) c2 (some ⟨gL, 0, none⟩) l [] z wd hrL (by omega)
  rw [← H0.out.2.2.2.2.2.2.1, show ((n + 1 : Nat) : Int) = (n : Int) + 1 by omega] at hdl
  have HDL := Lib.hid hdl
  have q0 := bL.cell 0
  simp only [List.getElem?_toArray, List.getElem?_cons_zero, List.getElem?_cons_succ] at q0
  have HP := Lib.hid (And.intro hs2 (And.intro aL bL))
  have HPO := Lib.hid (own_ne aL.ri aL.blk (by decide))
  clear hs2 aL bL hrL hdl
  go_upto_region 5 with (go_at_call 38; (with_reducible refine HDL.out.mono ?_); rintro e w4 ⟨v', rfl, hr4, hg4, ho4⟩; dsimp only; clear HDL q0; obtain ⟨A6, c6, n6, hn6, rfl, _, _⟩ := hr4.rdn; have kP4 := Lib.hid (HP.out.2.2.grown hg4 (fun e => HPO.out (by rw [H0.out.2.2.2.2.2.2.2.2.2.2.2.1]; exact e.symm))); have q0 := kP4.out.cell 0; have q0f := kP4.out.frozen 0; simp only [List.getElem?_toArray, List.getElem?_cons_zero, List.getElem?_cons_succ] at q0; have H4 := Lib.hid (And.intro hr4 (And.intro hg4 ho4)); clear hr4 hg4 ho4 hn6)
  have hst3 := (stp_its HP.out.2.1 (HP.out.1.ns.one (x := L) (by simp)) (grown_fr (w1 := wd) (Below.refl _ _) (by rw [H0.out.2.2.2.2.2.2.2.2.2.2.2.1]; exact H4.out.2.1)) H4.out.1 (.inl (by rw [H4.out.2.2, H0.out.2.2.2.2.2.2.2.2.2.2.2.1]))).all (a := [{ P with its := a ++ z :: b }]) (b := [{ R with vi := vR, its := m :: R.its }]) HP.out.1.ns
  have hs3 := HP.out.1.trans hst3
  simp only [List.append_nil] at hs3
  clear q0 q0f hst3
  generalize w4.setCell ⟨L.n, 0, none⟩ (.slice A6 n6 c6) = we at hs3 ⊢
  have aL := hs3.ns.at' { L with vi := .slice A6 n6 c6, its := l } (by simp)
  have bL := aL.blk
  dsimp only at bL
  rw [H0.out.2.2.2.2.2.2.2.2.2.2.2.2.1] at bL
  have hlf := leaf_any L.n L.ks.length e2 _ B2 we bL
  rw [show decide (L.ks.length = 0) = true by rw [HLK.out.1]; rfl] at hlf
  have HLF := Lib.hid hlf
  have HS3 := Lib.hid hs3
  clear hlf aL bL hs3 HP H4 kP4 HPO
  go_wp2_with (go_at_call 30; (with_reducible refine HLF.out.mono ?_); rintro e w5 ⟨rfl, rfl⟩; dsimp only)
  refine bodyPost_end (v := .tuple #[]) (by simp [results, Try.f53, go_sem]) rfl ⟨rfl, ?_⟩
  have hs4 := (Stps.below H0.out.1 HNA.out.2.1).trans HS3.out
  have e1 : ({ L with vi := .slice A6 n6 c6, its := l } : Nb) = ⟨L.n, .slice A6 n6 c6, L.vk, l, []⟩ := by rw [← HLK.out.1]
  have e2 : ({ R with vi := vR, its := m :: R.its } : Nb) = ⟨R.n, vR, R.vk, m :: R.its, []⟩ := by rw [← HLK.out.2]
  refine ⟨P.vi, .slice A6 n6 c6, L.vk, vR, R.vk, ?_⟩
  rw [← e1, ← e2]
  simpa using hs4
set_option maxHeartbeats 8000000 in
theorem fromLeft_inner (i : Nat) (P L R : Nb) (a b l : List It) (m z : It) (kk : List Nat) (x : Nat) (p q : List Nat) (w : World) (hns : NS w [P, L, R]) (hit : P.its = a ++ m :: b) (ha : a.length = i) (hks : P.ks = p ++ L.n :: R.n :: q) (hp : p.length = i) (hj : i ≤ 200)
    (hLi : L.its = l ++ [z]) (l1 : L.its.length ≤ 200) (l2 : R.its.length ≤ 200) (l3 : L.ks.length ≤ 200) (l4 : R.ks.length ≤ 200) (l5 : P.its.length ≤ 200) (l6 : P.ks.length ≤ 200) (hLk : L.ks = kk ++ [x] ∧ kk.length = l.length + 1) :
    Calls Try.prog 53 #[.pointer (some ⟨P.n, 0, none⟩), .int .i64 ((i : Int) + 1)] w (RotOut P L R (a ++ z :: b) l (m :: R.its) kk (x :: R.ks) w) := by
  have aP := hns.at' P (by simp)
  have aL := hns.at' L (by simp)
  have aR := hns.at' R (by simp)
  obtain ⟨A1, c1, B1, e1, f1, g1⟩ := aP.form
  obtain ⟨A2, c2, B2, e2, f2, g2⟩ := aL.form
  obtain ⟨A3, c3, B3, e3, f3, g3⟩ := aR.form
  have hrP := aP.ri
  have hkP := aP.rk
  rw [f1] at hrP
  rw [g1] at hkP
  obtain ⟨gP, rfl, m0, m1⟩ := hrP.cellI (j := i) (by rw [hit]; simp; omega)
  rw [show P.its.getD i default = m by rw [hit, ← ha]; simp [List.getD_eq_getElem?_getD]] at m0 m1
  obtain ⟨gK, rfl, x0⟩ := hkP.cellP (j := i) (by rw [hks]; simp; omega)
  obtain ⟨gK', eK, x1⟩ := hkP.cellP (j := i + 1) (by rw [hks]; simp; omega)
  obtain rfl : gK = gK' := by injection eK with eK; injection eK
  rw [show P.ks.getD i 0 = L.n by rw [hks, ← hp]; simp [List.getD_eq_getElem?_getD]] at x0
  rw [show P.ks.getD (i + 1) 0 = R.n by rw [hks, ← hp]; simp [List.getD_eq_getElem?_getD]] at x1
  have hrL := aL.ri
  rw [f2] at hrL
  obtain ⟨gL, rfl, _, _⟩ := hrL.cellI (j := l.length) (by rw [hLi]; simp)
  have bP := aP.blk
  have bL := aL.blk
  have bR := aR.blk
  rw [f1, g1] at bP
  rw [f2, g2] at bL
  rw [f3, g3] at bR
  have p0 := bP.cell 0
  have p1 := bP.cell 1
  have q0 := bL.cell 0
  have r0 := bR.cell 0
  simp only [List.getElem?_toArray, List.getElem?_cons_zero, List.getElem?_cons_succ] at p0 p1 q0 r0
  have hj1 : (i : Int) < (P.ks.length : Int) := by rw [hks]; simp; omega
  have hj2 : (i : Int) + 1 < (P.ks.length : Int) := by rw [hks]; simp; omega
  have hj3 : i < P.ks.length := by omega
  have hj4 : i + 1 < P.ks.length := by omega
  have hj5 : i < P.its.length := by rw [hit]; simp; omega
  have hj6 : (i : Int) < (P.its.length : Int) := by omega
  have hj7 : IntKind.i64.wrap (i : Int) = (i : Int) := by rw [IntKind.wrap_i64]; omega
  have hj8 : (0 : Int) ≤ (i : Int) + 1 := by omega
  have hj9 : ((i : Int) + 1).toNat = i + 1 := by omega
  obtain ⟨n, hn⟩ : ∃ n, n = l.length := ⟨_, rfl⟩
  have hLn : L.its.length = n + 1 := by rw [hLi, hn]; simp
  have hn1 : IntKind.i64.wrap (n : Int) = (n : Int) := by rw [IntKind.wrap_i64]; omega
  have hn2 : n ≤ 200 := by omega
  have hn3 : IntKind.i64.wrap ((n : Int) + 1) = (n : Int) + 1 := by rw [IntKind.wrap_i64]; omega
  have hn4 : IntKind.i64.wrap ((n : Int) + 2) = (n : Int) + 2 := by rw [IntKind.wrap_i64]; omega
  rw [hLn] at f2 bL q0
  obtain ⟨nm, hnm⟩ : ∃ nm, nm = m.k.length := ⟨_, rfl⟩
  rw [← hnm] at m0
  rw [← hn] at hLk
  have HLK := Lib.hid hLk
  have H0 := Lib.hid (And.intro hns (And.intro hit (And.intro ha (And.intro hks (And.intro hp (And.intro hLi (And.intro hn (And.intro l3 (And.intro l4 (And.intro f1 (And.intro g1 (And.intro f2 (And.intro g2 (And.intro f3 (And.intro g3 (And.intro hnm hLn))))))))))))))))
  have HLL := Lib.hid (And.intro l1 (And.intro l2 (And.intro l5 l6)))
  clear hns hit ha hks hp f1 g1 f2 g2 f3 g3 hnm aP aL aR hrP hkP eK hLi hLk hLn hn hrL l1 l3 l4 l5 l6 hj3 hj4 hj5
  have hj3 : i < P.ks.length := by omega
  have hj4 : i + 1 < P.ks.length := by omega
  have hj5 : i < P.its.length := by omega
  go_enter Try.func53, Try.ntmps53
  go_upto_region 0 with fail
  go_still_tail 16, (by kernel_rfl)
  change wpList _ _ _ _ _ w.drew
  go_upto_region 1 with fail
  go_upto_region 2 with fail
  clear p0 p1 q0 r0 m0 m1 x0 x1
  -- the item between goes down
  obtain ⟨wa, hwa⟩ : ∃ wa, wa = w.drew := ⟨_, rfl⟩
  rw [← hwa]
  have hba : Below w.heap.size w wa := by rw [hwa]; exact below_drew (Below.refl _ _)
  have hna := H0.out.1.on hba
  clear hwa
  have aR := hna.at' R (by simp)
  have aP := hna.at' P (by simp)
  have bP := aP.blk
  have bR := aR.blk
  rw [H0.out.2.2.2.2.2.2.2.2.2.1, H0.out.2.2.2.2.2.2.2.2.2.2.1] at bP
  rw [H0.out.2.2.2.2.2.2.2.2.2.2.2.2.2.1, H0.out.2.2.2.2.2.2.2.2.2.2.2.2.2.2.1] at bR
  have hrP := aP.ri
  rw [H0.out.2.2.2.2.2.2.2.2.2.1] at hrP
  obtain ⟨gP', eP, m0, m1⟩ := hrP.cellI (j := i) hj5
  obtain rfl : gP = gP' := by injection eP with eP; injection eP
  rw [show P.its.getD i default = m by rw [H0.out.2.1, ← H0.out.2.2.1]; simp [List.getD_eq_getElem?_getD]] at m0 m1
  rw [← H0.out.2.2.2.2.2.2.2.2.2.2.2.2.2.2.2.1] at m0
  have hrR := aR.ri
  rw [H0.out.2.2.2.2.2.2.2.2.2.2.2.2.2.1] at hrR
  have hC0 : Calls Try.prog 36 #[.slice A3 R.its.length c3, .int .i64 0, .slice (some ⟨wa.heap.size, 0, none⟩) 1 1] (wa.alloc (.cells #[.slice m.A nm m.c, .int .i64 m.v] 69)).drew (InsOut kI 0 (.slice A3 R.its.length c3) ([] ++ m :: R.its) (wa.alloc (.cells #[.slice m.A nm m.c, .int .i64 m.v] 69)).drew) :=
    ins_I 0 R.its.length c3 A3 [] R.its m wa.heap.size (wa.alloc (.cells #[.slice m.A nm m.c, .int .i64 m.v] 69)).drew (hrR.alloc _).drew (by rw [H0.out.2.2.2.2.2.2.2.2.2.2.2.2.2.2.2.1]; exact (Blk.new wa 69 _).drew) (fun e => by
      obtain ⟨cs, q⟩ := hrR.own_blk e
      exact absurd q.lt (by omega)) (by omega) (Nat.zero_le _)
  have p0 := bP.cell 0
  have r0 := bR.cell 0
  have r1 := (bR.alloc (.cells #[.slice m.A nm m.c, .int .i64 m.v] 69)).cell 0
  simp only [List.getElem?_toArray, List.getElem?_cons_zero, List.getElem?_cons_succ] at p0 r0 r1
  have HC := Lib.hid hC0
  have HPP := Lib.hid ((bR.alloc (.cells #[.slice m.A nm m.c, .int .i64 m.v] 69)).drew)
  have HPO := Lib.hid (own_ne ((hrR.alloc (.cells #[.slice m.A nm m.c, .int .i64 m.v] 69)).drew) HPP.out (by decide))
  have HNA := Lib.hid (And.intro hna (And.intro hba aR))
  clear hC0 aR aP bP bR hrP eP hrR hna hba
  go_cut [4, 5, 6] (fun s4 s5 s6 wx => s4 = .pointer (some ⟨L.n, 0, none⟩) ∧ s5 = .pointer (some ⟨R.n, 0, none⟩) ∧ s6 = .int .i64 n ∧ ∃ v, Stps wa [P, L, R] wx [P, L, { R with vi := v, its := m :: R.its }])
  case first =>
    go_region_law (first
      | (go_simp; (with_reducible refine HC.out.mono ?_); rintro e w4 ⟨v', rfl, hr4, hg4, ho4⟩; dsimp only; clear HC p0 r0 r1 m0 m1; obtain ⟨A6, c6, n6, hn6, rfl, _, _⟩ := hr4.rdn; have kP4 := Lib.hid (HPP.out.grown hg4 (fun e => HPO.out e.symm)); have p0 := kP4.out.cell 0; have p0f := kP4.out.frozen 0; simp only [List.getElem?_toArray, List.getElem?_cons_zero, List.getElem?_cons_succ] at p0; have H4 := Lib.hid (And.intro hr4 (And.intro hg4 ho4)); clear hr4 hg4 ho4 hn6))
    all_goals
      go_wp2_with fail
      go_meet
      case rel =>
      have hst := (stp_its HNA.out.2.2 (HNA.out.1.one (x := R) (by simp)) (grown_fr (w1 := (wa.alloc (.cells #[.slice m.A nm m.c, .int .i64 m.v] 69)).drew) (below_drew ((Below.refl _ _).alloc (Nat.le_refl _) _)) (by rw [H0.out.2.2.2.2.2.2.2.2.2.2.2.2.2.1]; exact H4.out.2.1)) H4.out.1 (by rw [H0.out.2.2.2.2.2.2.2.2.2.2.2.2.2.1]; exact ins_ho H4.out.2.2 (by simp))).all (a := [P, L]) (b := []) HNA.out.1
      exact ⟨rfl, rfl, rfl, _, by simpa using hst⟩
  case rest =>
  obtain ⟨wb, hwb⟩ : ∃ wb : World, wb = wc := ⟨_, rfl⟩
  subst hwb
  obtain ⟨rfl, rfl, rfl, vR, hs1⟩ := hcut
  clear HC HPP HPO p0 r0 r1 m0 m1
  -- the last one goes up
  have aP := hs1.ns.at' P (by simp)
  have aL := hs1.ns.at' L (by simp)
  have bP := aP.blk
  have bL := aL.blk
  rw [H0.out.2.2.2.2.2.2.2.2.2.1, H0.out.2.2.2.2.2.2.2.2.2.2.1] at bP
  rw [H0.out.2.2.2.2.2.2.2.2.2.2.2.1, H0.out.2.2.2.2.2.2.2.2.2.2.2.2.1] at bL
  have hrL := aL.ri
  rw [H0.out.2.2.2.2.2.2.2.2.2.2.2.1] at hrL
  obtain ⟨gL', eL, m0, m1⟩ := hrL.cellI (j := n) (by omega)
  obtain rfl : gL = gL' := by injection eL with eL; injection eL
  rw [show L.its.getD n default = z by rw [H0.out.2.2.2.2.2.1, H0.out.2.2.2.2.2.2.1]; simp [List.getD_eq_getElem?_getD]] at m0 m1
  have hrP := aP.ri
  rw [H0.out.2.2.2.2.2.2.2.2.2.1] at hrP
  obtain ⟨csP, qP⟩ := hrP.own_blk (k := gP) rfl
  have pf0 := qP.frozen (i * 2)
  have pf1 := qP.frozen (i * 2 + 1)
  obtain ⟨gP', eP, x0, x1⟩ := hrP.cellI (j := i) hj5
  obtain rfl : gP = gP' := by injection eP with eP; injection eP
  have p0 := bP.cell 0
  have q0 := bL.cell 0
  simp only [List.getElem?_toArray, List.getElem?_cons_zero, List.getElem?_cons_succ] at p0 q0
  obtain ⟨nz, hnz⟩ : ∃ nz, nz = z.k.length := ⟨_, rfl⟩
  rw [← hnz] at m0
  have hst := (stp_item (y := z) aP (hs1.ns.one (x := P) (by simp)) (i1 := a) (i2 := b) (z := m) H0.out.2.1 H0.out.2.2.2.2.2.2.2.2.2.1).all (a := []) (b := [L, { R with vi := vR, its := m :: R.its }]) hs1.ns
  rw [H0.out.2.2.1, ← hnz] at hst
  have HST := Lib.hid (And.intro hs1 hst)
  have hnn : (n : Int) < (n : Int) + 1 := by omega
  have hnn2 : n < n + 1 := by omega
  clear aP aL bP bL hrL eL hrP qP eP hs1 hst hnz
  go_upto_region 3 with fail
  go_still_tail 13, (by kernel_rfl)
  change wpList _ _ _ _ _ wb.drew
  go_upto_region 4 with fail
  have hs2 := (HST.out.1.trans HST.out.2).trans (Stps.below HST.out.2.ns (below_drew (Below.refl _ _)))
  clear HST p0 q0 m0 m1 x0 x1 pf0 pf1
  generalize ((wb.setCell ⟨gP, i * 2, none⟩ (.slice z.A nz z.c)).setCell ⟨gP, i * 2 + 1, none⟩ (.int .i64 z.v)).drew = wd at hs2 ⊢
  -- and leaves its row
  have aL := hs2.ns.at' L (by simp)
  have bL := aL.blk
  rw [H0.out.2.2.2.2.2.2.2.2.2.2.2.1, H0.out.2.2.2.2.2.2.2.2.2.2.2.2.1] at bL
  have hrL := aL.ri
  rw [H0.out.2.2.2.2.2.2.2.2.2.2.2.1, H0.out.2.2.2.2.2.1] at hrL
  have hdl := del_I 0 (n + 1) c2 (some ⟨gL, 0, none⟩) l [] z wd hrL (by omega)
  rw [← H0.out.2.2.2.2.2.2.1, show ((n + 1 : Nat) : Int) = (n : Int) + 1 by omega] at hdl
  have HDL := Lib.hid hdl
  have q0 := bL.cell 0
  simp only [List.getElem?_toArray, List.getElem?_cons_zero, List.getElem?_cons_succ] at q0
  have HP := Lib.hid (And.intro hs2 (And.intro aL bL))
  have HPO := Lib.hid (own_ne aL.ri aL.blk (by decide))
  clear hs2 aL bL hrL hdl
  go_upto_region 5 with (go_at_call 38; (with_reducible refine HDL.out.mono ?_); rintro e w4 ⟨v', rfl, hr4, hg4, ho4⟩; dsimp only; clear HDL q0; obtain ⟨A6, c6, n6, hn6, rfl, _, _⟩ := hr4.rdn; have kP4 := Lib.hid (HP.out.2.2.grown hg4 (fun e => HPO.out (by rw [H0.out.2.2.2.2.2.2.2.2.2.2.2.1]; exact e.symm))); have q0 := kP4.out.cell 0; have q0f := kP4.out.frozen 0; simp only [List.getElem?_toArray, List.getElem?_cons_zero, List.getElem?_cons_succ] at q0; have H4 := Lib.hid (And.intro hr4 (And.intro hg4 ho4)); clear hr4 hg4 ho4 hn6)
  have hst3 := (stp_its HP.out.2.1 (HP.out.1.ns.one (x := L) (by simp)) (grown_fr (w1 := wd) (Below.refl _ _) (by rw [H0.out.2.2.2.2.2.2.2.2.2.2.2.1]; exact H4.out.2.1)) H4.out.1 (.inl (by rw [H4.out.2.2, H0.out.2.2.2.2.2.2.2.2.2.2.2.1]))).all (a := [{ P with its := a ++ z :: b }]) (b := [{ R with vi := vR, its := m :: R.its }]) HP.out.1.ns
  have hs3 := HP.out.1.trans hst3
  simp only [List.append_nil] at hs3
  clear q0 q0f hst3
  generalize w4.setCell ⟨L.n, 0, none⟩ (.slice A6 n6 c6) = we at hs3 ⊢
  have aL := hs3.ns.at' { L with vi := .slice A6 n6 c6, its := l } (by simp)
  have bL := aL.blk
  dsimp only at bL
  rw [H0.out.2.2.2.2.2.2.2.2.2.2.2.2.1] at bL
  have hlf := leaf_any L.n L.ks.length e2 _ B2 we bL
  rw [show decide (L.ks.length = 0) = false from decide_eq_false (by rw [HLK.out.1]; simp)] at hlf
  have HLF := Lib.hid hlf
  have aR := hs3.ns.at' { R with vi := vR, its := m :: R.its } (by simp)
  obtain ⟨AR, cR, _, _, hvR, _⟩ := aR.form
  have bR := aR.blk
  dsimp only at bR hvR
  rw [hvR, H0.out.2.2.2.2.2.2.2.2.2.2.2.2.2.2.1] at bR
  have hkL := aL.rk
  dsimp only at hkL
  rw [H0.out.2.2.2.2.2.2.2.2.2.2.2.2.1] at hkL
  have hkl1 : L.ks.length = n + 2 := by rw [HLK.out.1]; have := HLK.out.2; simp; omega
  rw [hkl1] at hkL bL
  obtain ⟨gB, rfl, x0⟩ := hkL.cellP (j := n + 1) (by omega)
  rw [show L.ks.getD (n + 1) 0 = x by rw [HLK.out.1, ← HLK.out.2]; simp [List.getD_eq_getElem?_getD]] at x0
  have hkR := aR.rk
  dsimp only at hkR
  rw [H0.out.2.2.2.2.2.2.2.2.2.2.2.2.2.2.1] at hkR
  have hC0 : Calls Try.prog 51 #[.slice B3 R.ks.length e3, .int .i64 0, .slice (some ⟨we.heap.size, 0, none⟩) 1 1] (we.alloc (.cells #[.pointer (some ⟨x, 0, none⟩)] 55)).drew (InsOut kP 0 (.slice B3 R.ks.length e3) ([] ++ x :: R.ks) (we.alloc (.cells #[.pointer (some ⟨x, 0, none⟩)] 55)).drew) :=
    ins_P 0 R.ks.length e3 B3 [] R.ks x we.heap.size (we.alloc (.cells #[.pointer (some ⟨x, 0, none⟩)] 55)).drew (hkR.alloc _).drew (Blk.new we 55 _).drew (fun e => by
      obtain ⟨cs, q⟩ := hkR.own_blk e
      exact absurd q.lt (by omega)) (by have := H0.out.2.2.2.2.2.2.2.2.1; omega) (Nat.zero_le _)
  have q1 := bL.cell 1
  have r0 := bR.cell 1
  have r1 := (bR.alloc (.cells #[.pointer (some ⟨x, 0, none⟩)] 55)).cell 1
  simp only [List.getElem?_toArray, List.getElem?_cons_zero, List.getElem?_cons_succ] at q1 r0 r1
  have HC := Lib.hid hC0
  have HPP := Lib.hid ((bR.alloc (.cells #[.pointer (some ⟨x, 0, none⟩)] 55)).drew)
  have HPO2 := Lib.hid (own_ne ((hkR.alloc (.cells #[.pointer (some ⟨x, 0, none⟩)] 55)).drew) HPP.out (by decide))
  have HS3 := Lib.hid (And.intro hs3 aR)
  have hy1 : (n : Int) + 1 < ((n : Int) + 2) := by omega
  have hy2 : n + 1 < n + 2 := by omega
  have hy3 : ((n : Int) + 1).toNat = n + 1 := by omega
  have hy4 : (0 : Int) ≤ (n : Int) + 1 := by omega
  have HK1 := Lib.hid hkl1
  clear hlf aL bL hs3 HP H4 kP4 HPO aR bR hkL hkR hC0 hkl1 hvR
  go_upto_region 6 with (go_at_call 30; (with_reducible refine HLF.out.mono ?_); rintro e w5 ⟨rfl, rfl⟩; dsimp only)
  go_cut [4, 5, 6] (fun s4 s5 s6 wx => s4 = .pointer (some ⟨L.n, 0, none⟩) ∧ s5 = .pointer (some ⟨R.n, 0, none⟩) ∧ s6 = .int .i64 n ∧ ∃ u, Stps wa [P, L, R] wx [{ P with its := a ++ z :: b }, { L with vi := .slice A6 n6 c6, its := l }, { R with vi := vR, its := m :: R.its, vk := u, ks := x :: R.ks }])
  case first =>
    go_region_law (first
      | (go_simp; (with_reducible refine HC.out.mono ?_); rintro e w4 ⟨v', rfl, hr4, hg4, ho4⟩; dsimp only; clear HC q1 r0 r1 x0; obtain ⟨A8, c8, n8, hn8, rfl, _, _⟩ := hr4.rdn; have kP4 := Lib.hid (HPP.out.grown hg4 (fun e => HPO2.out e.symm)); have r0 := kP4.out.cell 1; have r0f := kP4.out.frozen 1; simp only [List.getElem?_toArray, List.getElem?_cons_zero, List.getElem?_cons_succ] at r0; have H4 := Lib.hid (And.intro hr4 (And.intro hg4 ho4)); clear hr4 hg4 ho4 hn8))
    all_goals
      go_wp2_with fail
      go_meet
      case rel =>
      have hst := (stp_ks HS3.out.2 (HS3.out.1.ns.one (x := { R with vi := vR, its := m :: R.its }) (by simp)) (grown_fr (w1 := (we.alloc (.cells #[.pointer (some ⟨x, 0, none⟩)] 55)).drew) (below_drew ((Below.refl _ _).alloc (Nat.le_refl _) _)) (by dsimp only; rw [H0.out.2.2.2.2.2.2.2.2.2.2.2.2.2.2.1]; exact H4.out.2.1)) H4.out.1 (by dsimp only; rw [H0.out.2.2.2.2.2.2.2.2.2.2.2.2.2.2.1]; exact ins_ho H4.out.2.2 (by simp))).all (a := [{ P with its := a ++ z :: b }, { L with vi := .slice A6 n6 c6, its := l }]) (b := []) HS3.out.1.ns
      exact ⟨rfl, rfl, rfl, _, by simpa using HS3.out.1.trans hst⟩
  case rest =>
  obtain ⟨wf, hwf⟩ : ∃ wf : World, wf = wc := ⟨_, rfl⟩
  subst hwf
  obtain ⟨rfl, rfl, rfl, uR, hs4⟩ := hcut
  clear HC HPP HPO2 q1 r0 r1 x0
  have aL := hs4.ns.at' { L with vi := .slice A6 n6 c6, its := l } (by simp)
  have bL := aL.blk
  have hkL := aL.rk
  dsimp only at bL hkL
  rw [H0.out.2.2.2.2.2.2.2.2.2.2.2.2.1, HK1.out] at bL
  rw [H0.out.2.2.2.2.2.2.2.2.2.2.2.2.1, HK1.out, HLK.out.1] at hkL
  have hdl := del_P 0 (n + 2) e2 (some ⟨gB, 0, none⟩) kk [] x wf hkL (by omega)
  rw [HLK.out.2, show ((n + 1 + 1 : Nat) : Int) = (n : Int) + 2 by omega, show ((n + 1 : Nat) : Int) = (n : Int) + 1 by omega] at hdl
  have HDL := Lib.hid hdl
  have q1 := bL.cell 1
  simp only [List.getElem?_toArray, List.getElem?_cons_zero, List.getElem?_cons_succ] at q1
  have HP3 := Lib.hid (And.intro hs4 (And.intro aL bL))
  have HPO3 := Lib.hid (own_ne aL.rk aL.blk (by decide))
  clear hs4 aL bL hkL hdl
  go_wp2_with (go_at_call 52; (with_reducible refine HDL.out.mono ?_); rintro e w5 ⟨v', rfl, hr4, hg4, ho4⟩; dsimp only; clear HDL q1; obtain ⟨A7, c7, n7, hn7, rfl, _, _⟩ := hr4.rdn; have kP4 := Lib.hid (HP3.out.2.2.grown hg4 (fun e => HPO3.out (by dsimp only; rw [H0.out.2.2.2.2.2.2.2.2.2.2.2.2.1, HK1.out]; exact e.symm))); have q1 := kP4.out.cell 1; have q1f := kP4.out.frozen 1; simp only [List.getElem?_toArray, List.getElem?_cons_zero, List.getElem?_cons_succ] at q1; have H4 := Lib.hid (And.intro hr4 (And.intro hg4 ho4)); clear hr4 hg4 ho4 hn7)
  refine bodyPost_end (v := .tuple #[]) (by simp [results, Try.f53, go_sem]) rfl ⟨rfl, ?_⟩
  have hst4 := (stp_ks HP3.out.2.1 (HP3.out.1.ns.one (x := { L with vi := .slice A6 n6 c6, its := l }) (by simp)) (grown_fr (w1 := wf) (Below.refl _ _) (by dsimp only; rw [H0.out.2.2.2.2.2.2.2.2.2.2.2.2.1, HK1.out]; exact H4.out.2.1)) H4.out.1 (.inl (by dsimp only; rw [H4.out.2.2, H0.out.2.2.2.2.2.2.2.2.2.2.2.2.1, HK1.out]))).all (a := [{ P with its := a ++ z :: b }]) (b := [{ R with vi := vR, its := m :: R.its, vk := uR, ks := x :: R.ks }]) HP3.out.1.ns
  have hs5 := (Stps.below H0.out.1 HNA.out.2.1).trans (HP3.out.1.trans hst4)
  simp only [List.append_nil] at hs5
  exact ⟨P.vi, _, _, _, _, by simpa using hs5⟩
end Go.Proofs.Ytgjcomnljonffaa.Tlv
