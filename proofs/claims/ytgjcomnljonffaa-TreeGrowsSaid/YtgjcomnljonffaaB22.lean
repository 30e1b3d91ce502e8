/- join: two children and the item between them made one. -/
import Derived.Test.YtgjcomnljonffaaB21
namespace Go.Proofs.Ytgjcomnljonffaa.Tlv
open Go.RowKit
set_option maxRecDepth 100000
set_option linter.unusedVariables false
set_option linter.unusedSimpArgs false
theorem NbAt.form {w : World} {x : Nb} (a : NbAt w x) : ∃ A c B e, x.vi = .slice A x.its.length c ∧ x.vk = .slice B x.ks.length e := by
  obtain ⟨A, c, e1, _⟩ := a.ri.rd0
  obtain ⟨B, e, e2, _⟩ := a.rk.rd0
  exact ⟨A, c, B, e, e1, e2⟩
theorem NS.one {w : World} {l : List Nb} (a : NS w l) {x : Nb} (hx : x ∈ l) (k : Nat) : x.own k ≤ 1 := Nat.le_trans (owns_mem hx k) (a.sep k)
theorem RowK.rdA {α : Type} [Inhabited α] {K : Kind α} {w : World} {base n c : Nat} {A : Option Addr} {l : List α} (h : RowK K w base (.slice A n c) l) : RdK K w w.heap.size A l ∧ (A = none → c = 0) := by
  obtain ⟨A', c', e, h1, h2⟩ := h.rd0
  injection e with e1 _ e3
  subst e1 e3
  exact ⟨h2, h1⟩
def JoinOut (P L R : Nb) (a b : List It) (m : It) (p q : List Nat) (w : World) (e : Ending) (w' : World) : Prop :=
  e = .returned (.tuple #[]) ∧ ∃ vP uP v1 u1 y, Stps w [P, L, R] w' [⟨P.n, vP, uP, a ++ b, p ++ L.n :: q⟩, ⟨L.n, v1, u1, L.its ++ m :: R.its, L.ks ++ R.ks⟩, y]
theorem grown_fr {w w1 w' : World} {v : Value} (hb : Below w.heap.size w w1) (hg : w1.grownBy w' v.ownBlock) : Fr (fun k => v.ownBlock = some k) w w' := (Fr.of hb).grown hg (fun k hk _ => hk)
theorem ho_of {v v' : Value} {n m : Nat} (h : v'.ownBlock = v.ownBlock ∨ v'.ownBlock = some n) (hn : m ≤ n) : v'.ownBlock = v.ownBlock ∨ ∃ k, v'.ownBlock = some k ∧ m ≤ k := by
  rcases h with h | h
  · exact .inl h
  · exact .inr ⟨n, h, hn⟩
set_option maxHeartbeats 8000000 in
theorem join_any (T : Value) (j : Nat) (P L R : Nb) (a b : List It) (m : It) (p q : List Nat) (w : World) (hns : NS w [P, L, R]) (hit : P.its = a ++ m :: b) (ha : a.length = j) (hks : P.ks = p ++ L.n :: R.n :: q) (hp : p.length = j) (hj : j ≤ 200)
    (l1 : L.its.length ≤ 200) (l2 : R.its.length ≤ 200) (l3 : L.ks.length ≤ 200) (l4 : R.ks.length ≤ 200) (l5 : P.its.length ≤ 200) (l6 : P.ks.length ≤ 200) :
    Calls Try.prog 42 #[T, .pointer (some ⟨P.n, 0, none⟩), .int .i64 j] w (JoinOut P L R a b m p q w) := by
  have aP := hns.at' P (by simp)
  have aL := hns.at' L (by simp)
  have aR := hns.at' R (by simp)
  obtain ⟨A1, c1, B1, e1, f1, g1⟩ := aP.form
  obtain ⟨A2, c2, B2, e2, f2, g2⟩ := aL.form
  obtain ⟨A3, c3, B3, e3, f3, g3⟩ := aR.form
  have hrP := aP.ri
  have hkP := aP.rk
  rw [f1] at hrP
  rw [g1] at hkP
  obtain ⟨gP, rfl, m0, m1⟩ := hrP.cellI (j := j) (by rw [hit]; simp; omega)
  rw [show P.its.getD j default = m by rw [hit, ← ha]; simp [List.getD_eq_getElem?_getD]] at m0 m1
  obtain ⟨gK, rfl, x0⟩ := hkP.cellP (j := j) (by rw [hks]; simp; omega)
  obtain ⟨gK', eK, x1⟩ := hkP.cellP (j := j + 1) (by rw [hks]; simp; omega)
  obtain rfl : gK = gK' := by injection eK with eK; injection eK
  rw [show P.ks.getD j 0 = L.n by rw [hks, ← hp]; simp [List.getD_eq_getElem?_getD]] at x0
  rw [show P.ks.getD (j + 1) 0 = R.n by rw [hks, ← hp]; simp [List.getD_eq_getElem?_getD]] at x1
  have bP := aP.blk
  have bL := aL.blk
  have bR := aR.blk
  rw [f1, g1] at bP
  rw [f2, g2] at bL
  rw [f3, g3] at bR
  have p0 := bP.cell 0
  have p1 := bP.cell 1
  have q0 := bL.cell 0
  have r0 := bR.cell 0
  simp only [List.getElem?_toArray, List.getElem?_cons_zero, List.getElem?_cons_succ] at p0 p1 q0 r0
  have hj1 : (j : Int) < (P.ks.length : Int) := by rw [hks]; simp; omega
  have hj2 : (j : Int) + 1 < (P.ks.length : Int) := by rw [hks]; simp; omega
  have hj3 : j < P.ks.length := by omega
  have hj4 : j + 1 < P.ks.length := by omega
  have hj5 : j < P.its.length := by rw [hit]; simp; omega
  have hj6 : (j : Int) < (P.its.length : Int) := by omega
  have hj7 : IntKind.i64.wrap ((j : Int) + 1) = (j : Int) + 1 := by rw [IntKind.wrap_i64]; omega
  have hj8 : (0 : Int) ≤ (j : Int) + 1 := by omega
  have hj9 : ((j : Int) + 1).toNat = j + 1 := by omega
  obtain ⟨nm, hnm⟩ : ∃ nm, nm = m.k.length := ⟨_, rfl⟩
  rw [← hnm] at m0
  have H0 := Lib.hid (And.intro hns (And.intro hit (And.intro ha (And.intro hks (And.intro hp (And.intro l1 (And.intro l2 (And.intro l3 (And.intro l4 (And.intro f1 (And.intro g1 (And.intro f2 (And.intro g2 (And.intro f3 (And.intro g3 hnm)))))))))))))))
  have HB := Lib.hid (And.intro bP (And.intro bL bR))
  clear hns hit ha hks hp f1 g1 f2 g2 f3 g3 hnm aP aL aR hrP hkP eK
  go_enter Try.func42, Try.ntmps42
  go_upto_region 0 with fail
  go_still_tail 16, (by kernel_rfl)
  change wpList _ _ _ _ _ w.drew
  go_upto_region 1 with fail
  clear p0 p1 q0 r0 m0 m1 x0 x1
  -- the items
  obtain ⟨wa, hwa⟩ : ∃ wa, wa = w.drew := ⟨_, rfl⟩
  rw [← hwa]
  have hba : Below w.heap.size w wa := by rw [hwa]; exact below_drew (Below.refl _ _)
  have hna := H0.out.1.on hba
  clear hwa
  have aL := hna.at' L (by simp)
  have aR := hna.at' R (by simp)
  have aP := hna.at' P (by simp)
  have bP := aP.blk
  have bL := aL.blk
  have bR := aR.blk
  rw [H0.out.2.2.2.2.2.2.2.2.2.1, H0.out.2.2.2.2.2.2.2.2.2.2.1] at bP
  rw [H0.out.2.2.2.2.2.2.2.2.2.2.2.1, H0.out.2.2.2.2.2.2.2.2.2.2.2.2.1] at bL
  rw [H0.out.2.2.2.2.2.2.2.2.2.2.2.2.2.1, H0.out.2.2.2.2.2.2.2.2.2.2.2.2.2.2.1] at bR
  have hrP := aP.ri
  rw [H0.out.2.2.2.2.2.2.2.2.2.1] at hrP
  obtain ⟨gP', eP, m0, m1⟩ := hrP.cellI (j := j) hj5
  obtain rfl : gP = gP' := by injection eP with eP; injection eP
  rw [show P.its.getD j default = m by rw [H0.out.2.1, ← H0.out.2.2.1]; simp [List.getD_eq_getElem?_getD]] at m0 m1
  rw [← H0.out.2.2.2.2.2.2.2.2.2.2.2.2.2.2.2] at m0
  have hrL := aL.ri
  rw [H0.out.2.2.2.2.2.2.2.2.2.2.2.1] at hrL
  obtain ⟨v1, w2, u1, u2, u3, u4⟩ := run_app5 (K := kI) 56 (w := (wa.alloc (.cells #[.slice m.A nm m.c, .int .i64 m.v] 69)).drew) (c := 1) [m] (hrL.alloc _).drew (rd_block (l := [m]) (g := wa.heap.size) (w := (wa.alloc (.cells #[.slice m.A nm m.c, .int .i64 m.v] 69)).drew) (Blk.new wa 69 _).drew (by rw [H0.out.2.2.2.2.2.2.2.2.2.2.2.2.2.2.2]; simp [flatK, kI])) (fun h => by cases h) (by simp; omega) (Nat.zero_le _)
  obtain ⟨Av, nv, cv, rfl⟩ : ∃ A n c, v1 = .slice A n c := by obtain ⟨A, c, e, _⟩ := u2.rd0; exact ⟨A, _, c, e⟩
  have hbw : Below wa.heap.size wa (wa.alloc (.cells #[.slice m.A nm m.c, .int .i64 m.v] 69)).drew := below_drew ((Below.refl _ _).alloc (Nat.le_refl _) _)
  have F1 : Fr (fun k => L.vi.ownBlock = some k) wa w2 := grown_fr hbw (by rw [H0.out.2.2.2.2.2.2.2.2.2.2.2.1]; exact u3)
  have hdis : ∀ k, R.vi.ownBlock = some k → L.vi.ownBlock ≠ some k := fun k h1 h2 => by
    have h3 := hna.sep k
    have h4 := own_pos.2 (.inr (.inl h1) : R.n = k ∨ R.vi.ownBlock = some k ∨ R.vk.ownBlock = some k)
    have h5 := own_pos.2 (.inr (.inl h2) : L.n = k ∨ L.vi.ownBlock = some k ∨ L.vk.ownBlock = some k)
    simp only [owns_cons, owns_nil] at h3
    have h6 : L.own k = own L.n L.vi L.vk k := rfl
    have h7 : R.own k = own R.n R.vi R.vk k := rfl
    omega
  have hrR : RowK kI w2 0 R.vi R.its := aR.ri.frr F1 hdis
  rw [H0.out.2.2.2.2.2.2.2.2.2.2.2.2.2.1] at hrR
  obtain ⟨v2, w3, y1, y2, y3, y4⟩ := run_app5 (K := kI) 56 (w := w2) (c := c3) R.its u2 hrR.rdA.1 hrR.rdA.2 (by simp; omega) (Nat.zero_le _)
  obtain ⟨Ay, ny, cy, rfl⟩ : ∃ A n c, v2 = .slice A n c := by obtain ⟨A, c, e, _⟩ := y2.rd0; exact ⟨A, _, c, e⟩
  have F2 : Fr (fun k => L.vi.ownBlock = some k) wa w3 := F1.grown y3 fun k hk hlt => by
    rcases u4 with h | h
    · rw [h] at hk; rw [H0.out.2.2.2.2.2.2.2.2.2.2.2.1]; exact hk
    · rw [h] at hk; injection hk with hk; simp at hk; omega
  have hL59 : ∀ k cs, Blk wa k 59 cs → ¬ L.vi.ownBlock = some k := fun k cs q h => by
    obtain ⟨cs', q'⟩ := aL.ri.own_blk h
    exact absurd (blk_ty q q') (by decide)
  have hO : (Value.slice Ay ny cy).ownBlock = L.vi.ownBlock ∨ ∃ k, (Value.slice Ay ny cy).ownBlock = some k ∧ wa.heap.size ≤ k := by
    rcases y4 with h | h
    · rw [h]
      rcases u4 with h' | h'
      · rw [h', H0.out.2.2.2.2.2.2.2.2.2.2.2.1]; exact .inl rfl
      · exact .inr ⟨_, h', by simp⟩
    · exact .inr ⟨_, h, F1.bel.size⟩
  have hst := (stp_its aL (hna.one (x := L) (by simp)) F2 (by rw [List.append_assoc] at y2; exact y2) hO).all (a := [P]) (b := [R]) hna
  have p0 := bP.cell 0
  have q0 := bL.cell 0
  have r0 := bR.cell 0
  have q1 := (bL.alloc (.cells #[.slice m.A nm m.c, .int .i64 m.v] 69)).cell 0
  have r1 := (bR.alloc (.cells #[.slice m.A nm m.c, .int .i64 m.v] 69)).cell 0
  have r2 := (F1.b bR (hL59 _ _ bR)).cell 0
  have r3 := (F2.b bR (hL59 _ _ bR)).cell 0
  have q3 := (F2.b bL (hL59 _ _ bL)).cell 0
  have q3f := (F2.b bL (hL59 _ _ bL)).frozen 0
  simp only [List.getElem?_toArray, List.getElem?_cons_zero, List.getElem?_cons_succ] at p0 q0 r0 q1 r1 r2 r3 q3
  have HR1 := Lib.hid u1
  have HR2 := Lib.hid y1
  have HST := Lib.hid hst
  have HNA := Lib.hid (And.intro hna hba)
  clear aL aR aP bP bL bR hrP eP hrL u1 u2 u3 u4 hbw F1 hdis hrR y1 y2 y3 y4 F2 hL59 hO hst hna hba
  go_cut [6, 7] (fun s6 s7 wx => s6 = .pointer (some ⟨L.n, 0, none⟩) ∧ s7 = .pointer (some ⟨R.n, 0, none⟩) ∧ ∃ v, Stps wa [P, L, R] wx [P, { L with vi := v, its := L.its ++ m :: R.its }, R])
  case first =>
    go_region_law (first
      | (refine step_ap rfl (.tmp 27) (.tmp 35) 56 56 rfl _ _ rfl rfl HR1.out ?_)
      | (refine step_ap rfl (.tmp 36) (.tmp 40) 56 56 rfl _ _ rfl rfl HR2.out ?_))
    all_goals
      go_wp2_with fail
      go_meet
      case rel =>
      exact ⟨rfl, rfl, _, by simpa using HST.out⟩
  case rest =>
  obtain ⟨wb, hwb⟩ : ∃ wb : World, wb = wc := ⟨_, rfl⟩
  subst hwb
  obtain ⟨rfl, rfl, vL, hs1⟩ := hcut
  clear HR1 HR2 HST p0 q0 r0 q1 r1 r2 r3 q3 q3f m0 m1
  -- the children
  have aL := hs1.ns.at' { L with vi := vL, its := L.its ++ m :: R.its } (by simp)
  have aR := hs1.ns.at' R (by simp)
  obtain ⟨AL, cL, BL, eL, hvL, _⟩ := aL.form
  have bL := aL.blk
  have bR := aR.blk
  dsimp only at bL hvL
  rw [hvL, H0.out.2.2.2.2.2.2.2.2.2.2.2.2.1] at bL
  rw [H0.out.2.2.2.2.2.2.2.2.2.2.2.2.2.1, H0.out.2.2.2.2.2.2.2.2.2.2.2.2.2.2.1] at bR
  have hkL := aL.rk
  dsimp only at hkL
  rw [H0.out.2.2.2.2.2.2.2.2.2.2.2.2.1] at hkL
  have hkR := aR.rk
  rw [H0.out.2.2.2.2.2.2.2.2.2.2.2.2.2.2.1] at hkR
  obtain ⟨v3, w3, y1, y2, y3, y4⟩ := run_app5 (K := kP) 57 (w := wb.drew) (c := e3) R.ks hkL.drew (show RdK kP wb.drew wb.heap.size B3 R.ks from hkR.rdA.1) hkR.rdA.2 (by omega) (Nat.zero_le _)
  obtain ⟨Ay, ny, cy, rfl⟩ : ∃ A n c, v3 = .slice A n c := by obtain ⟨A, c, e, _⟩ := y2.rd0; exact ⟨A, _, c, e⟩
  have F2 : Fr (fun k => L.vk.ownBlock = some k) wb w3 := grown_fr (below_drew (Below.refl _ _)) (by rw [H0.out.2.2.2.2.2.2.2.2.2.2.2.2.1]; exact y3)
  have hO : (Value.slice Ay ny cy).ownBlock = L.vk.ownBlock ∨ ∃ k, (Value.slice Ay ny cy).ownBlock = some k ∧ wb.heap.size ≤ k := by
    rcases y4 with h | h
    · rw [h, H0.out.2.2.2.2.2.2.2.2.2.2.2.2.1]; exact .inl rfl
    · exact .inr ⟨_, h, Nat.le_refl _⟩
  have hst := (stp_ks aL (hs1.ns.one (x := { L with vi := vL, its := L.its ++ m :: R.its }) (by simp)) F2 y2 hO).all (a := [P]) (b := [R]) hs1.ns
  have hL59 : ¬ L.vk.ownBlock = some L.n := fun h => by
    obtain ⟨cs', q'⟩ := aL.rk.own_blk h
    exact absurd (blk_ty bL q') (by decide)
  have q0 := bL.cell 1
  have r0 := bR.cell 1
  have q3 := (F2.b bL hL59).cell 1
  have q3f := (F2.b bL hL59).frozen 1
  simp only [List.getElem?_toArray, List.getElem?_cons_zero, List.getElem?_cons_succ] at q0 r0 q3
  have HR1 := Lib.hid y1
  have HST := Lib.hid (hs1.trans hst)
  clear aL aR bL bR hkL hkR y1 y2 y3 y4 F2 hO hst hL59 hs1 hvL
  go_upto_region 2 with fail
  go_cut [6, 7] (fun s6 s7 wx => s6 = .pointer (some ⟨L.n, 0, none⟩) ∧ s7 = .pointer (some ⟨R.n, 0, none⟩) ∧ ∃ u, Stps wa [P, L, R] wx [P, { L with vi := vL, its := L.its ++ m :: R.its, vk := u, ks := L.ks ++ R.ks }, R])
  case first =>
    go_region_law (first
      | (refine step_ap rfl (.tmp 48) (.tmp 52) 57 57 rfl _ _ rfl rfl HR1.out ?_))
    all_goals
      go_wp2_with fail
      go_meet
      case rel =>
      exact ⟨rfl, rfl, _, by simpa using HST.out⟩
  case rest =>
  obtain ⟨wd, hwd⟩ : ∃ wd : World, wd = wc := ⟨_, rfl⟩
  subst hwd
  obtain ⟨rfl, rfl, uL, hs2⟩ := hcut
  clear HR1 HST q0 r0 q3 q3f
  -- the item between goes
  have aP := hs2.ns.at' P (by simp)
  have bP := aP.blk
  rw [H0.out.2.2.2.2.2.2.2.2.2.1, H0.out.2.2.2.2.2.2.2.2.2.2.1] at bP
  have hrP := aP.ri
  rw [H0.out.2.2.2.2.2.2.2.2.2.1, H0.out.2.1] at hrP
  have hdl := del_I 0 (a ++ m :: b).length c1 (some ⟨gP, 0, none⟩) a b m wd hrP (by rw [← H0.out.2.1]; omega)
  rw [H0.out.2.2.1, ← H0.out.2.1, show ((j + 1 : Nat) : Int) = (j : Int) + 1 by omega] at hdl
  have HDL := Lib.hid hdl
  have p0 := bP.cell 0
  simp only [List.getElem?_toArray, List.getElem?_cons_zero, List.getElem?_cons_succ] at p0
  have HP := Lib.hid (And.intro hs2 (And.intro aP bP))
  have HPO := Lib.hid (own_ne aP.ri aP.blk (by decide))
  clear hs2 aP bP hrP hdl
  go_upto_region 4 with (go_at_call 38; (with_reducible refine HDL.out.mono ?_); rintro e w4 ⟨v', rfl, hr4, hg4, ho4⟩; dsimp only; clear HDL p0; obtain ⟨A6, c6, n6, hn6, rfl, _, _⟩ := hr4.rdn; have kP4 := Lib.hid (HP.out.2.2.grown hg4 (fun e => HPO.out (by rw [H0.out.2.2.2.2.2.2.2.2.2.1]; exact e.symm))); have p0 := kP4.out.cell 0; have p0f := kP4.out.frozen 0; simp only [List.getElem?_toArray, List.getElem?_cons_zero, List.getElem?_cons_succ] at p0; have H4 := Lib.hid (And.intro hr4 (And.intro hg4 ho4)); clear hr4 hg4 ho4 hn6)
  have hst3 := (stp_its HP.out.2.1 (HP.out.1.ns.one (x := P) (by simp)) (grown_fr (w1 := wd) (Below.refl _ _) (by rw [H0.out.2.2.2.2.2.2.2.2.2.1]; exact H4.out.2.1)) H4.out.1 (.inl (by rw [H4.out.2.2, H0.out.2.2.2.2.2.2.2.2.2.1]))).all (a := []) (b := [{ L with vi := vL, its := L.its ++ m :: R.its, vk := uL, ks := L.ks ++ R.ks }, R]) HP.out.1.ns
  have hs3 := HP.out.1.trans hst3
  clear p0 p0f hst3
  generalize w4.setCell ⟨P.n, 0, none⟩ (.slice A6 n6 c6) = we at hs3 ⊢
  have aP := hs3.ns.at' { P with vi := .slice A6 n6 c6, its := a ++ b } (by simp)
  have bP := aP.blk
  have hrP := aP.rk
  dsimp only at bP hrP
  rw [H0.out.2.2.2.2.2.2.2.2.2.2.1] at bP hrP
  rw [H0.out.2.2.2.1, show p ++ L.n :: R.n :: q = (p ++ [L.n]) ++ R.n :: q by simp] at hrP
  have hdl := del_P 0 ((p ++ [L.n]) ++ R.n :: q).length e1 (some ⟨gK, 0, none⟩) (p ++ [L.n]) q R.n we hrP (by have := l6; rw [H0.out.2.2.2.1] at this; simp at this ⊢; omega)
  rw [show (p ++ [L.n]).length = j + 1 by have := H0.out.2.2.2.2.1; simp; omega, show ((p ++ [L.n]) ++ R.n :: q).length = P.ks.length by rw [H0.out.2.2.2.1]; simp, show ((j + 1 + 1 : Nat) : Int) = (j : Int) + 2 by omega, show ((j + 1 : Nat) : Int) = (j : Int) + 1 by omega] at hdl
  have HDL := Lib.hid hdl
  have p1 := bP.cell 1
  simp only [List.getElem?_toArray, List.getElem?_cons_zero, List.getElem?_cons_succ] at p1
  have HP3 := Lib.hid (And.intro hs3 (And.intro aP bP))
  have HPO3 := Lib.hid (own_ne aP.rk aP.blk (by decide))
  have hj10 : IntKind.i64.wrap ((j : Int) + 2) = (j : Int) + 2 := by rw [IntKind.wrap_i64]; omega
  clear hs3 aP bP hrP hdl HP H4 kP4 HPO
  go_wp2_with (go_at_call 52; (with_reducible refine HDL.out.mono ?_); rintro e w5 ⟨v', rfl, hr4, hg4, ho4⟩; dsimp only; clear HDL p1; obtain ⟨A7, c7, n7, hn7, rfl, _, _⟩ := hr4.rdn; have kP4 := Lib.hid (HP3.out.2.2.grown hg4 (fun e => HPO3.out (by dsimp only; rw [H0.out.2.2.2.2.2.2.2.2.2.2.1]; exact e.symm))); have p1 := kP4.out.cell 1; have p1f := kP4.out.frozen 1; simp only [List.getElem?_toArray, List.getElem?_cons_zero, List.getElem?_cons_succ] at p1; have H4 := Lib.hid (And.intro hr4 (And.intro hg4 ho4)); clear hr4 hg4 ho4 hn7)
  refine bodyPost_end (v := .tuple #[]) (by simp [results, Try.f42, go_sem]) rfl ⟨rfl, ?_⟩
  have hst4 := (stp_ks HP3.out.2.1 (HP3.out.1.ns.one (x := { P with vi := .slice A6 n6 c6, its := a ++ b }) (by simp)) (grown_fr (w1 := we) (Below.refl _ _) (by dsimp only; rw [H0.out.2.2.2.2.2.2.2.2.2.2.1]; exact H4.out.2.1)) H4.out.1 (.inl (by dsimp only; rw [H4.out.2.2, H0.out.2.2.2.2.2.2.2.2.2.2.1]))).all (a := []) (b := [{ L with vi := vL, its := L.its ++ m :: R.its, vk := uL, ks := L.ks ++ R.ks }, R]) HP3.out.1.ns
  have hs4 := (Stps.below H0.out.1 HNA.out.2).trans (HP3.out.1.trans hst4)
  exact ⟨_, _, _, _, _, by simpa using hs4⟩
end Go.Proofs.Ytgjcomnljonffaa.Tlv
