/- fill: a child gets an item to spare. -/
import Derived.Test.YtgjcomnljonffaaB26
namespace Go.Proofs.Ytgjcomnljonffaa.Tlv
open Go.RowKit
set_option maxRecDepth 100000
set_option linter.unusedVariables false
set_option linter.unusedSimpArgs false
def FillOut (t h : Nat) (d : Nd) (key : Key) (w : World) (e : Ending) (w' : World) : Prop :=
  ∃ d' c' j1 j2 l1 l2, e = .returned (.pointer (some ⟨c'.n, 0, none⟩)) ∧ Chg t (h + 1) w d w' d' ∧ flat (h + 1) d' = flat (h + 1) d ∧ Place d' j1 j2 l1 c' l2 ∧ (∀ x ∈ j1, klt x.k key) ∧ (∀ x ∈ j2, klt key x.k) ∧ t ≤ c'.its.length ∧ d.its.length ≤ d'.its.length + 1
theorem Pair.srt {t h : Nat} {w : World} {d c1 c2 : Nd} {i1 i2 : List It} {m : It} {k1 k2 : List Nd} (a : TS t (h + 1) w d) (p : Pair d i1 m i2 k1 c1 c2 k2) : (∀ x ∈ c1.its, klt x.k m.k) ∧ (∀ x ∈ c2.its, klt m.k x.k) := by
  have hs := a.srt
  rw [flat_two p.its p.kids p.len] at hs
  have b1 := (a.bal.2.2 c1 (by rw [p.kids]; simp)).1
  have b2 := (a.bal.2.2 c2 (by rw [p.kids]; simp)).1
  have e : kvs (preL (k1.map (flat h)) i1 ++ (flat h c1 ++ m :: flat h c2) ++ sufL i2 (k2.map (flat h))) = kvs (preL (k1.map (flat h)) i1 ++ flat h c1) ++ m.kv :: kvs (flat h c2 ++ sufL i2 (k2.map (flat h))) := by simp
  rw [e] at hs
  obtain ⟨h1, h2⟩ := srt_mid hs
  exact ⟨fun x hx => h1 x.kv (List.mem_map.2 ⟨x, List.mem_append_right _ (b1.sub.subset hx), rfl⟩), fun x hx => h2 x.kv (List.mem_map.2 ⟨x, List.mem_append_left _ (b2.sub.subset hx), rfl⟩)⟩
/-- The outcome where the item ahead of the child has come down. -/
theorem fill_of_fl {t h : Nat} {w w' : World} {d c1 c2 : Nd} {i1 i2 : List It} {m : It} {k1 k2 : List Nd} {key : Key} {e : Ending} (a : TS t (h + 1) w d) (p : Pair d i1 m i2 k1 c1 c2 k2) (h1 : ∀ x ∈ i1 ++ [m], klt x.k key) (h2 : ∀ x ∈ i2, klt key x.k) (hl : c2.its.length = t - 1) (ht : 2 ≤ t ∧ t ≤ 64)
    (f : FlChg t h d i1 i2 m k1 c1 c2 k2 w e w') : FillOut t h d key w (.returned (.pointer (some ⟨c2.n, 0, none⟩))) w' := by
  obtain ⟨_, z, l, c1', c2', d', q1, q2, q3, q4, q5, q6, q7⟩ := f
  have hz : klt z.k key := klt_trans ((q2.srt q6.ts).2 m (by rw [q4]; simp)) (h1 m (by simp))
  refine ⟨d', c2', i1 ++ [z], i2, k1 ++ [c1'], k2, by rw [q5], q6, q7, ⟨by rw [q2.its]; simp, by rw [q2.kids]; simp, by simp [q2.len]⟩, fun x hx => ?_, h2, by rw [q4]; simp; omega, by rw [p.its, q2.its]; simp <;> omega⟩
  rcases List.mem_append.1 hx with hx | hx
  · exact h1 x (by simp [hx])
  · simp at hx; subst hx; exact hz
theorem fill_of_fr {t h : Nat} {w w' : World} {d c1 c2 : Nd} {i1 i2 : List It} {m : It} {k1 k2 : List Nd} {key : Key} {e : Ending} (a : TS t (h + 1) w d) (p : Pair d i1 m i2 k1 c1 c2 k2) (h1 : ∀ x ∈ i1, klt x.k key) (h2 : ∀ x ∈ m :: i2, klt key x.k) (hl : c1.its.length = t - 1) (ht : 2 ≤ t ∧ t ≤ 64)
    (f : FrChg t h d i1 i2 m k1 c1 c2 k2 w e w') : FillOut t h d key w (.returned (.pointer (some ⟨c1.n, 0, none⟩))) w' := by
  obtain ⟨_, z, r, c1', c2', d', q1, q2, q3, q4, q5, q6, q7⟩ := f
  have hz : klt key z.k := klt_trans (h2 m (by simp)) ((q2.srt q6.ts).1 m (by rw [q3]; simp))
  refine ⟨d', c1', i1, z :: i2, k1, c2' :: k2, by rw [q5], q6, q7, ⟨q2.its, q2.kids, q2.len⟩, h1, fun x hx => ?_, by rw [q3]; simp; omega, by rw [p.its, q2.its]; simp <;> omega⟩
  rcases List.mem_cons.1 hx with rfl | hx
  · exact hz
  · exact h2 x (by simp [hx])
theorem fill_of_jo {t h : Nat} {w w' : World} {d c1 c2 : Nd} {i1 i2 : List It} {m : It} {k1 k2 : List Nd} {key : Key} {e : Ending} (p : Pair d i1 m i2 k1 c1 c2 k2) (h1 : ∀ x ∈ i1, klt x.k key) (h2 : ∀ x ∈ i2, klt key x.k) (hl : t ≤ c1.its.length + c2.its.length + 1)
    (f : JoChg t h d i1 i2 m k1 c1 c2 k2 w e w') : FillOut t h d key w (.returned (.pointer (some ⟨c1.n, 0, none⟩))) w' := by
  obtain ⟨_, c1', d', q1, q2, q3, q4, q5⟩ := f
  exact ⟨d', c1', i1, i2, k1, k2, by rw [q3], q4, q5, q1, h1, h2, by rw [q2]; simp; omega, by rw [p.its, q1.its]; simp <;> omega⟩
theorem FlChg.before {t h : Nat} {w W w' : World} {d c1 c2 : Nd} {i1 i2 : List It} {m : It} {k1 k2 : List Nd} {e : Ending} (a : TS t (h + 1) w d) (hb : Below w.heap.size w W) (f : FlChg t h d i1 i2 m k1 c1 c2 k2 W e w') : FlChg t h d i1 i2 m k1 c1 c2 k2 w e w' := by
  obtain ⟨q0, z, l, c1', c2', d', q1, q2, q3, q4, q5, q6, q7⟩ := f
  exact ⟨q0, z, l, c1', c2', d', q1, q2, q3, q4, q5, (Chg.below a hb).trans q6, q7⟩
theorem FrChg.before {t h : Nat} {w W w' : World} {d c1 c2 : Nd} {i1 i2 : List It} {m : It} {k1 k2 : List Nd} {e : Ending} (a : TS t (h + 1) w d) (hb : Below w.heap.size w W) (f : FrChg t h d i1 i2 m k1 c1 c2 k2 W e w') : FrChg t h d i1 i2 m k1 c1 c2 k2 w e w' := by
  obtain ⟨q0, z, l, c1', c2', d', q1, q2, q3, q4, q5, q6, q7⟩ := f
  exact ⟨q0, z, l, c1', c2', d', q1, q2, q3, q4, q5, (Chg.below a hb).trans q6, q7⟩
theorem JoChg.before {t h : Nat} {w W w' : World} {d c1 c2 : Nd} {i1 i2 : List It} {m : It} {k1 k2 : List Nd} {e : Ending} (a : TS t (h + 1) w d) (hb : Below w.heap.size w W) (f : JoChg t h d i1 i2 m k1 c1 c2 k2 W e w') : JoChg t h d i1 i2 m k1 c1 c2 k2 w e w' := by
  obtain ⟨q0, c1', d', q1, q2, q3, q4, q5⟩ := f
  exact ⟨q0, c1', d', q1, q2, q3, (Chg.below a hb).trans q4, q5⟩
theorem jo_cells {t h : Nat} {w w' : World} {d c1 c2 : Nd} {i1 i2 : List It} {m : It} {k1 k2 : List Nd} {e : Ending} (f : JoChg t h d i1 i2 m k1 c1 c2 k2 w e w') :
    ∃ gK n q, w'.cell? ⟨d.n, 1, none⟩ = some (.slice (some ⟨gK, 0, none⟩) n q) ∧ w'.cell? ⟨gK, i1.length, none⟩ = some (.pointer (some ⟨c1.n, 0, none⟩)) ∧ i1.length < n := by
  obtain ⟨_, c1', d', q1, q2, q3, q4, q5⟩ := f
  obtain ⟨A, c0, B, e0, f1, f2⟩ := q4.ts.at'.1.form
  have hN := q4.ts.at'.1.blk
  rw [f1, f2] at hN
  have hrk := q4.ts.at'.1.kids
  rw [f2] at hrk
  have hl : i1.length < d'.kids.length := by rw [q1.kids, q1.len]; simp
  obtain ⟨gK, rfl, x0⟩ := hrk.cellP (j := i1.length) hl
  rw [show (d'.kids.map Nd.n).getD i1.length 0 = c1.n by rw [q1.kids, ← q3]; simp [List.getD_eq_getElem?_getD, q1.len]] at x0
  have p1 := hN.cell 1
  rw [q4.n] at p1
  exact ⟨gK, _, e0, by simpa using p1, x0, hl⟩
theorem spare_of {t h T s : Nat} {w : World} {y z : Value} {c : Nd} (hT : Blk w T 61 #[.int .i64 (s + 1 : Nat), y, z]) (a : TS t h w c) (hs : 1 ≤ s ∧ s ≤ 63) (ht : t = s + 1) :
    ∀ W, Below w.heap.size w W → Calls Try.prog 39 #[.pointer (some ⟨T, 0, none⟩), .pointer (some ⟨c.n, 0, none⟩)] W fun e w' => e = .returned (.bool (decide (t ≤ c.its.length))) ∧ ∃ m, w' = W.drewN m := fun W hb => by
  obtain ⟨A, k, B, e, e1, e2⟩ := a.at'.node.form
  have hn := a.at'.node.blk.on hb
  rw [e1, e2] at hn
  have := a.bal.most
  subst ht
  exact spare_any T c.n c.its.length k (s + 1) A y z _ W (hT.on hb) hn (by omega) (by omega)
set_option maxHeartbeats 4000000 in
theorem fill_a (T s h : Nat) (y z : Value) (d c : Nd) (i1 i2 : List It) (k1 k2 : List Nd) (key : Key) (w : World) (hT : Blk w T 61 #[.int .i64 (s + 1 : Nat), y, z]) (a : TS (s + 1) (h + 1) w d) (hs : 1 ≤ s ∧ s ≤ 63) (p : Place d i1 i2 k1 c k2) (h1 : ∀ x ∈ i1, klt x.k key) (h2 : ∀ x ∈ i2, klt key x.k) (hsp : s + 1 ≤ c.its.length) :
    Calls Try.prog 43 #[.pointer (some ⟨T, 0, none⟩), .pointer (some ⟨d.n, 0, none⟩), .int .i64 i1.length] w (FillOut (s + 1) h d key w) := by
  obtain ⟨A, kc, B, ke, f1, f2⟩ := a.at'.1.form
  have hN := a.at'.1.blk
  rw [f1, f2] at hN
  have hrk := a.at'.1.kids
  rw [f2] at hrk
  have hbal : d.kids.length = d.its.length + 1 := a.bal.1
  have hm := a.bal.2.1
  obtain ⟨i, hi⟩ : ∃ i, i = i1.length := ⟨_, rfl⟩
  have hil : i < d.kids.length := by rw [hi, p.len, p.kids]; simp
  have HSC := Lib.hid (spare_of hT (a.kid p.its p.kids p.len) hs rfl)
  rw [show decide (s + 1 ≤ c.its.length) = true from decide_eq_true hsp] at HSC
  obtain ⟨gK, rfl, x0⟩ := hrk.cellP (j := i) (by omega)
  rw [show (d.kids.map Nd.n).getD (i) 0 = c.n by rw [hi]; rw [p.kids]; simp [List.getD_eq_getElem?_getD, ← p.len]] at x0
  have x0a : ∀ m, (w.drewN m).cell? ⟨gK, i, none⟩ = some (.pointer (some ⟨c.n, 0, none⟩)) := fun m => x0
  have x0b : ∀ m n, ((w.drewN m).drewN n).cell? ⟨gK, i, none⟩ = some (.pointer (some ⟨c.n, 0, none⟩)) := fun m n => x0
  have hii : (i : Int) < (d.kids.length : Int) := by omega
  rw [← hi]

  have p0 := hN.cell 0
  have p1 := hN.cell 1
  simp only [List.getElem?_toArray, List.getElem?_cons_zero, List.getElem?_cons_succ] at p0 p1
  have p0a : ∀ m, (w.drewN m).cell? ⟨d.n, 0, none⟩ = some (.slice A d.its.length kc) := fun m => p0
  have p1a : ∀ m, (w.drewN m).cell? ⟨d.n, 1, none⟩ = some (.slice (some ⟨gK, 0, none⟩) d.kids.length ke) := fun m => p1
  have p0b : ∀ m n, ((w.drewN m).drewN n).cell? ⟨d.n, 0, none⟩ = some (.slice A d.its.length kc) := fun m n => p0
  have p1b : ∀ m n, ((w.drewN m).drewN n).cell? ⟨d.n, 1, none⟩ = some (.slice (some ⟨gK, 0, none⟩) d.kids.length ke) := fun m n => p1
  have HA := Lib.hid (And.intro a (And.intro f1 (And.intro f2 (And.intro hN hbal))))
  clear hN hrk f1 f2 a hm hT hi
  go_enter Try.func43, Try.ntmps43
  go_wp2_with (go_at_call 39; (with_reducible refine (HSC.out _ (by first | exact Below.refl _ _ | exact below_drewN (Below.refl _ _) _ | exact below_drewN (below_drewN (Below.refl _ _) _) _)).mono ?_); rintro e w2 ⟨rfl, m, rfl⟩; dsimp only)
  go_ret
  exact ⟨d, c, i1, i2, k1, k2, rfl, Chg.below HA.out.1 (below_drewN (Below.refl _ _) _), rfl, p, h1, h2, hsp, by omega⟩
set_option maxHeartbeats 4000000 in
theorem fill_b (T s h : Nat) (y z : Value) (d c1 c2 : Nd) (i1 i2 : List It) (m : It) (k1 k2 : List Nd) (key : Key) (w : World) (hT : Blk w T 61 #[.int .i64 (s + 1 : Nat), y, z]) (a : TS (s + 1) (h + 1) w d) (hs : 1 ≤ s ∧ s ≤ 63) (p : Pair d i1 m i2 k1 c1 c2 k2) (h1 : ∀ x ∈ i1 ++ [m], klt x.k key) (h2 : ∀ x ∈ i2, klt key x.k) (hl : c2.its.length = s) (hsp : s + 1 ≤ c1.its.length) :
    Calls Try.prog 43 #[.pointer (some ⟨T, 0, none⟩), .pointer (some ⟨d.n, 0, none⟩), .int .i64 ((i1.length : Int) + 1)] w (FillOut (s + 1) h d key w) := by
  obtain ⟨A, kc, B, ke, f1, f2⟩ := a.at'.1.form
  have hN := a.at'.1.blk
  rw [f1, f2] at hN
  have hrk := a.at'.1.kids
  rw [f2] at hrk
  have hbal : d.kids.length = d.its.length + 1 := a.bal.1
  have hm := a.bal.2.1
  obtain ⟨j, hj⟩ : ∃ j, j = i1.length := ⟨_, rfl⟩
  have hil : j + 1 < d.kids.length := by have := congrArg List.length p.kids; simp at this; have := p.len; omega
  have hpp := p.len
  have HSC := Lib.hid (spare_of hT (a.kid (i1 := i1 ++ [m]) (i2 := i2) (k1 := k1 ++ [c1]) (k2 := k2) (c := c2) (by rw [p.its]; simp) (by rw [p.kids]; simp) (by simp [p.len])) hs rfl)
  have HSL := Lib.hid (spare_of hT (a.kid (i1 := i1) (i2 := m :: i2) (k1 := k1) (k2 := c2 :: k2) (c := c1) p.its p.kids p.len) hs rfl)
  rw [show decide (s + 1 ≤ c2.its.length) = false from decide_eq_false (by omega)] at HSC
  rw [show decide (s + 1 ≤ c1.its.length) = true from decide_eq_true hsp] at HSL
  obtain ⟨gK, rfl, x0⟩ := hrk.cellP (j := j) (by omega)
  rw [show (d.kids.map Nd.n).getD (j) 0 = c1.n by rw [hj]; rw [p.kids]; simp [List.getD_eq_getElem?_getD, ← p.len]] at x0
  have x0a : ∀ m, (w.drewN m).cell? ⟨gK, j, none⟩ = some (.pointer (some ⟨c1.n, 0, none⟩)) := fun m => x0
  have x0b : ∀ m n, ((w.drewN m).drewN n).cell? ⟨gK, j, none⟩ = some (.pointer (some ⟨c1.n, 0, none⟩)) := fun m n => x0
  obtain ⟨gK', eK, x1⟩ := hrk.cellP (j := j + 1) (by omega)
  obtain rfl : gK = gK' := by injection eK with eK; injection eK
  clear eK
  rw [show (d.kids.map Nd.n).getD (j + 1) 0 = c2.n by rw [hj]; rw [p.kids]; simp [List.getD_eq_getElem?_getD, ← p.len]] at x1
  have x1a : ∀ m, (w.drewN m).cell? ⟨gK, j + 1, none⟩ = some (.pointer (some ⟨c2.n, 0, none⟩)) := fun m => x1
  have x1b : ∀ m n, ((w.drewN m).drewN n).cell? ⟨gK, j + 1, none⟩ = some (.pointer (some ⟨c2.n, 0, none⟩)) := fun m n => x1
  have hii : (j : Int) < (d.kids.length : Int) := by omega
  have hij : j < d.kids.length := by omega
  have hik : (j : Int) + 1 < (d.kids.length : Int) := by omega
  have hi2 : (0 : Int) < (j : Int) + 1 := by omega
  have hi3 : (0 : Int) ≤ (j : Int) + 1 := by omega
  have hi4 : ((j : Int) + 1).toNat = j + 1 := by omega
  have hwj : IntKind.i64.wrap (j : Int) = (j : Int) := by rw [IntKind.wrap_i64]; omega
  have HFL : Hid (∀ W, Below w.heap.size w W → Calls Try.prog 53 #[.pointer (some ⟨d.n, 0, none⟩), .int .i64 ((j : Int) + 1)] W (FlChg (s + 1) h d i1 i2 m k1 c1 c2 k2 w)) := Lib.hid fun W hb => by
    rw [hj]
    exact (fl_chg (a.on hb) p (by omega) hsp (by omega)).mono fun e w' f => f.before a hb
  rw [← hj]

  have p0 := hN.cell 0
  have p1 := hN.cell 1
  simp only [List.getElem?_toArray, List.getElem?_cons_zero, List.getElem?_cons_succ] at p0 p1
  have p0a : ∀ m, (w.drewN m).cell? ⟨d.n, 0, none⟩ = some (.slice A d.its.length kc) := fun m => p0
  have p1a : ∀ m, (w.drewN m).cell? ⟨d.n, 1, none⟩ = some (.slice (some ⟨gK, 0, none⟩) d.kids.length ke) := fun m => p1
  have p0b : ∀ m n, ((w.drewN m).drewN n).cell? ⟨d.n, 0, none⟩ = some (.slice A d.its.length kc) := fun m n => p0
  have p1b : ∀ m n, ((w.drewN m).drewN n).cell? ⟨d.n, 1, none⟩ = some (.slice (some ⟨gK, 0, none⟩) d.kids.length ke) := fun m n => p1
  have HA := Lib.hid (And.intro a (And.intro f1 (And.intro f2 (And.intro hN hbal))))
  clear hN hrk f1 f2 a hm hT hj hpp
  go_enter Try.func43, Try.ntmps43
  go_wp2_with (first | (go_at_call 39; (with_reducible refine (HSC.out _ (by first | exact Below.refl _ _ | exact below_drewN (Below.refl _ _) _ | exact below_drewN (below_drewN (Below.refl _ _) _) _)).mono ?_); rintro e w2 ⟨rfl, m, rfl⟩; dsimp only) | (go_at_call 39; (with_reducible refine (HSL.out _ (by first | exact Below.refl _ _ | exact below_drewN (Below.refl _ _) _ | exact below_drewN (below_drewN (Below.refl _ _) _) _)).mono ?_); rintro e w2 ⟨rfl, m, rfl⟩; dsimp only) | (go_at_call 53; (with_reducible refine (HFL.out _ (by first | exact Below.refl _ _ | exact below_drewN (Below.refl _ _) _ | exact below_drewN (below_drewN (Below.refl _ _) _) _)).mono ?_); intro e w3 f; obtain ⟨rfl, f'⟩ := f; dsimp only; have HF := Lib.hid f'; clear f'))
  go_ret
  exact fill_of_fl HA.out.1 p h1 h2 (by omega) (by omega) (e := .returned (.tuple #[])) ⟨rfl, HF.out⟩
set_option maxHeartbeats 4000000 in
theorem fill_c0 (T s h : Nat) (y z : Value) (d c1 c2 : Nd) (i1 i2 : List It) (m : It) (k1 k2 : List Nd) (key : Key) (w : World) (hT : Blk w T 61 #[.int .i64 (s + 1 : Nat), y, z]) (a : TS (s + 1) (h + 1) w d) (hs : 1 ≤ s ∧ s ≤ 63) (p : Pair d i1 m i2 k1 c1 c2 k2) (h0 : i1.length = 0) (h1 : ∀ x ∈ i1, klt x.k key) (h2 : ∀ x ∈ m :: i2, klt key x.k) (hl : c1.its.length = s) (hsp : s + 1 ≤ c2.its.length) :
    Calls Try.prog 43 #[.pointer (some ⟨T, 0, none⟩), .pointer (some ⟨d.n, 0, none⟩), .int .i64 0] w (FillOut (s + 1) h d key w) := by
  obtain ⟨A, kc, B, ke, f1, f2⟩ := a.at'.1.form
  have hN := a.at'.1.blk
  rw [f1, f2] at hN
  have hrk := a.at'.1.kids
  rw [f2] at hrk
  have hbal : d.kids.length = d.its.length + 1 := a.bal.1
  have hm := a.bal.2.1
  have hi1 : i1 = [] := List.eq_nil_of_length_eq_zero h0
  have hk1 : k1 = [] := List.eq_nil_of_length_eq_zero (by rw [← p.len]; exact h0)
  have hil : 1 < d.kids.length := by have := congrArg List.length p.kids; simp at this; omega
  have HSC := Lib.hid (spare_of hT (a.kid (i1 := i1) (i2 := m :: i2) (k1 := k1) (k2 := c2 :: k2) (c := c1) p.its p.kids p.len) hs rfl)
  have HSR := Lib.hid (spare_of hT (a.kid (i1 := i1 ++ [m]) (i2 := i2) (k1 := k1 ++ [c1]) (k2 := k2) (c := c2) (by rw [p.its]; simp) (by rw [p.kids]; simp) (by simp [p.len])) hs rfl)
  rw [show decide (s + 1 ≤ c1.its.length) = false from decide_eq_false (by omega)] at HSC
  rw [show decide (s + 1 ≤ c2.its.length) = true from decide_eq_true hsp] at HSR
  obtain ⟨gK, rfl, x0⟩ := hrk.cellP (j := 0) (by omega)
  rw [show (d.kids.map Nd.n).getD (0) 0 = c1.n by rw [p.kids, hk1]; rfl] at x0
  have x0a : ∀ m, (w.drewN m).cell? ⟨gK, 0, none⟩ = some (.pointer (some ⟨c1.n, 0, none⟩)) := fun m => x0
  have x0b : ∀ m n, ((w.drewN m).drewN n).cell? ⟨gK, 0, none⟩ = some (.pointer (some ⟨c1.n, 0, none⟩)) := fun m n => x0
  obtain ⟨gK', eK, x1⟩ := hrk.cellP (j := 1) (by omega)
  obtain rfl : gK = gK' := by injection eK with eK; injection eK
  clear eK
  rw [show (d.kids.map Nd.n).getD (1) 0 = c2.n by rw [p.kids, hk1]; rfl] at x1
  have x1a : ∀ m, (w.drewN m).cell? ⟨gK, 1, none⟩ = some (.pointer (some ⟨c2.n, 0, none⟩)) := fun m => x1
  have x1b : ∀ m n, ((w.drewN m).drewN n).cell? ⟨gK, 1, none⟩ = some (.pointer (some ⟨c2.n, 0, none⟩)) := fun m n => x1
  have hpos : 0 < d.its.length := by omega
  have hposi : (0 : Int) < (d.its.length : Int) := by omega
  have hii : 0 < d.kids.length := by omega
  have hij : (0 : Int) < (d.kids.length : Int) := by omega
  have hik : (1 : Int) < (d.kids.length : Int) := by omega
  have HFL : Hid (∀ W, Below w.heap.size w W → Calls Try.prog 54 #[.pointer (some ⟨d.n, 0, none⟩), .int .i64 0] W (FrChg (s + 1) h d i1 i2 m k1 c1 c2 k2 w)) := Lib.hid fun W hb => by
    have := (fr_chg (a.on hb) p (by omega) hsp (by omega)).mono fun e w' f => f.before a hb
    rw [h0] at this
    exact this

  have p0 := hN.cell 0
  have p1 := hN.cell 1
  simp only [List.getElem?_toArray, List.getElem?_cons_zero, List.getElem?_cons_succ] at p0 p1
  have p0a : ∀ m, (w.drewN m).cell? ⟨d.n, 0, none⟩ = some (.slice A d.its.length kc) := fun m => p0
  have p1a : ∀ m, (w.drewN m).cell? ⟨d.n, 1, none⟩ = some (.slice (some ⟨gK, 0, none⟩) d.kids.length ke) := fun m => p1
  have p0b : ∀ m n, ((w.drewN m).drewN n).cell? ⟨d.n, 0, none⟩ = some (.slice A d.its.length kc) := fun m n => p0
  have p1b : ∀ m n, ((w.drewN m).drewN n).cell? ⟨d.n, 1, none⟩ = some (.slice (some ⟨gK, 0, none⟩) d.kids.length ke) := fun m n => p1
  have HA := Lib.hid (And.intro a (And.intro f1 (And.intro f2 (And.intro hN hbal))))
  clear hN hrk f1 f2 a hm hT hi1 hk1
  go_enter Try.func43, Try.ntmps43
  go_wp2_with (first | (go_at_call 39; (with_reducible refine (HSC.out _ (by first | exact Below.refl _ _ | exact below_drewN (Below.refl _ _) _ | exact below_drewN (below_drewN (Below.refl _ _) _) _)).mono ?_); rintro e w2 ⟨rfl, m, rfl⟩; dsimp only) | (go_at_call 39; (with_reducible refine (HSR.out _ (by first | exact Below.refl _ _ | exact below_drewN (Below.refl _ _) _ | exact below_drewN (below_drewN (Below.refl _ _) _) _)).mono ?_); rintro e w2 ⟨rfl, m, rfl⟩; dsimp only) | (go_at_call 54; (with_reducible refine (HFL.out _ (by first | exact Below.refl _ _ | exact below_drewN (Below.refl _ _) _ | exact below_drewN (below_drewN (Below.refl _ _) _) _)).mono ?_); intro e w3 f; obtain ⟨rfl, f'⟩ := f; dsimp only; have HF := Lib.hid f'; clear f'))
  go_ret
  exact fill_of_fr HA.out.1 p h1 h2 (by omega) (by omega) (e := .returned (.tuple #[])) ⟨rfl, HF.out⟩
set_option maxHeartbeats 4000000 in
theorem fill_e (T s h : Nat) (y z : Value) (d c1 c2 : Nd) (i1 i2 : List It) (m : It) (k1 k2 : List Nd) (key : Key) (w : World) (hT : Blk w T 61 #[.int .i64 (s + 1 : Nat), y, z]) (a : TS (s + 1) (h + 1) w d) (hs : 1 ≤ s ∧ s ≤ 63) (p : Pair d i1 m i2 k1 c1 c2 k2) (h0 : i1.length = 0) (h1 : ∀ x ∈ i1, klt x.k key) (h2 : ∀ x ∈ m :: i2, klt key x.k) (hl : c1.its.length = s) (hsp : c2.its.length = s) :
    Calls Try.prog 43 #[.pointer (some ⟨T, 0, none⟩), .pointer (some ⟨d.n, 0, none⟩), .int .i64 0] w (FillOut (s + 1) h d key w) := by
  obtain ⟨A, kc, B, ke, f1, f2⟩ := a.at'.1.form
  have hN := a.at'.1.blk
  rw [f1, f2] at hN
  have hrk := a.at'.1.kids
  rw [f2] at hrk
  have hbal : d.kids.length = d.its.length + 1 := a.bal.1
  have hm := a.bal.2.1
  have hi1 : i1 = [] := List.eq_nil_of_length_eq_zero h0
  have hk1 : k1 = [] := List.eq_nil_of_length_eq_zero (by rw [← p.len]; exact h0)
  have hil : 1 < d.kids.length := by have := congrArg List.length p.kids; simp at this; omega
  have HSC := Lib.hid (spare_of hT (a.kid (i1 := i1) (i2 := m :: i2) (k1 := k1) (k2 := c2 :: k2) (c := c1) p.its p.kids p.len) hs rfl)
  have HSR := Lib.hid (spare_of hT (a.kid (i1 := i1 ++ [m]) (i2 := i2) (k1 := k1 ++ [c1]) (k2 := k2) (c := c2) (by rw [p.its]; simp) (by rw [p.kids]; simp) (by simp [p.len])) hs rfl)
  rw [show decide (s + 1 ≤ c1.its.length) = false from decide_eq_false (by omega)] at HSC
  rw [show decide (s + 1 ≤ c2.its.length) = false from decide_eq_false (by omega)] at HSR
  obtain ⟨gK, rfl, x0⟩ := hrk.cellP (j := 0) (by omega)
  rw [show (d.kids.map Nd.n).getD (0) 0 = c1.n by rw [p.kids, hk1]; rfl] at x0
  have x0a : ∀ m, (w.drewN m).cell? ⟨gK, 0, none⟩ = some (.pointer (some ⟨c1.n, 0, none⟩)) := fun m => x0
  have x0b : ∀ m n, ((w.drewN m).drewN n).cell? ⟨gK, 0, none⟩ = some (.pointer (some ⟨c1.n, 0, none⟩)) := fun m n => x0
  obtain ⟨gK', eK, x1⟩ := hrk.cellP (j := 1) (by omega)
  obtain rfl : gK = gK' := by injection eK with eK; injection eK
  clear eK
  rw [show (d.kids.map Nd.n).getD (1) 0 = c2.n by rw [p.kids, hk1]; rfl] at x1
  have x1a : ∀ m, (w.drewN m).cell? ⟨gK, 1, none⟩ = some (.pointer (some ⟨c2.n, 0, none⟩)) := fun m => x1
  have x1b : ∀ m n, ((w.drewN m).drewN n).cell? ⟨gK, 1, none⟩ = some (.pointer (some ⟨c2.n, 0, none⟩)) := fun m n => x1
  have hpos : 0 < d.its.length := by omega
  have hposi : (0 : Int) < (d.its.length : Int) := by omega
  have hii : 0 < d.kids.length := by omega
  have hij : (0 : Int) < (d.kids.length : Int) := by omega
  have hik : (1 : Int) < (d.kids.length : Int) := by omega
  have HFL : Hid (∀ W, Below w.heap.size w W → Calls Try.prog 42 #[.pointer (some ⟨T, 0, none⟩), .pointer (some ⟨d.n, 0, none⟩), .int .i64 0] W (JoChg (s + 1) h d i1 i2 m k1 c1 c2 k2 w)) := Lib.hid fun W hb => by
    have := (jo_chg (.pointer (some ⟨T, 0, none⟩)) (a.on hb) p (by omega) (by omega)).mono fun e w' f => f.before a hb
    rw [h0] at this
    exact this

  have p0 := hN.cell 0
  have p1 := hN.cell 1
  simp only [List.getElem?_toArray, List.getElem?_cons_zero, List.getElem?_cons_succ] at p0 p1
  have p0a : ∀ m, (w.drewN m).cell? ⟨d.n, 0, none⟩ = some (.slice A d.its.length kc) := fun m => p0
  have p1a : ∀ m, (w.drewN m).cell? ⟨d.n, 1, none⟩ = some (.slice (some ⟨gK, 0, none⟩) d.kids.length ke) := fun m => p1
  have p0b : ∀ m n, ((w.drewN m).drewN n).cell? ⟨d.n, 0, none⟩ = some (.slice A d.its.length kc) := fun m n => p0
  have p1b : ∀ m n, ((w.drewN m).drewN n).cell? ⟨d.n, 1, none⟩ = some (.slice (some ⟨gK, 0, none⟩) d.kids.length ke) := fun m n => p1
  have HA := Lib.hid (And.intro a (And.intro f1 (And.intro f2 (And.intro hN hbal))))
  clear hN hrk f1 f2 a hm hT hi1 hk1
  go_enter Try.func43, Try.ntmps43
  go_wp2_with (first | (go_at_call 39; (with_reducible refine (HSC.out _ (by first | exact Below.refl _ _ | exact below_drewN (Below.refl _ _) _ | exact below_drewN (below_drewN (Below.refl _ _) _) _)).mono ?_); rintro e w2 ⟨rfl, m, rfl⟩; dsimp only) | (go_at_call 39; (with_reducible refine (HSR.out _ (by first | exact Below.refl _ _ | exact below_drewN (Below.refl _ _) _ | exact below_drewN (below_drewN (Below.refl _ _) _) _)).mono ?_); rintro e w2 ⟨rfl, m, rfl⟩; dsimp only) | (go_at_call 42; (with_reducible refine (HFL.out _ (by first | exact Below.refl _ _ | exact below_drewN (Below.refl _ _) _ | exact below_drewN (below_drewN (Below.refl _ _) _) _)).mono ?_); intro e w3 f; obtain ⟨rfl, f'⟩ := f; dsimp only; have HF := Lib.hid f'; clear f'))
  go_ret
  exact fill_of_jo p h1 (fun x hx => h2 x (by simp [hx])) (by omega) (e := .returned (.tuple #[])) ⟨rfl, HF.out⟩
set_option maxHeartbeats 4000000 in
theorem fill_c1 (T s h : Nat) (y z : Value) (d c0 c1 c2 : Nd) (i1 i2 : List It) (m0 m : It) (k1 k2 : List Nd) (key : Key) (w : World) (hT : Blk w T 61 #[.int .i64 (s + 1 : Nat), y, z]) (a : TS (s + 1) (h + 1) w d) (hs : 1 ≤ s ∧ s ≤ 63) (p : Pair d (i1 ++ [m0]) m i2 (k1 ++ [c0]) c1 c2 k2) (h1 : ∀ x ∈ i1 ++ [m0], klt x.k key) (h2 : ∀ x ∈ m :: i2, klt key x.k) (hl : c1.its.length = s) (hl0 : c0.its.length = s) (hsp : s + 1 ≤ c2.its.length) :
    Calls Try.prog 43 #[.pointer (some ⟨T, 0, none⟩), .pointer (some ⟨d.n, 0, none⟩), .int .i64 ((i1.length : Int) + 1)] w (FillOut (s + 1) h d key w) := by
  obtain ⟨A, kc, B, ke, f1, f2⟩ := a.at'.1.form
  have hN := a.at'.1.blk
  rw [f1, f2] at hN
  have hrk := a.at'.1.kids
  rw [f2] at hrk
  have hbal : d.kids.length = d.its.length + 1 := a.bal.1
  have hm := a.bal.2.1
  obtain ⟨j, hj⟩ : ∃ j, j = i1.length := ⟨_, rfl⟩
  have hpl : i1.length = k1.length := by have := p.len; simp at this; exact this
  have hil : j + 2 < d.kids.length := by have := congrArg List.length p.kids; simp at this; omega
  have pp : Pair d i1 m0 (m :: i2) k1 c0 c1 (c2 :: k2) := ⟨by rw [p.its]; simp, by rw [p.kids]; simp, hpl⟩
  have HSL := Lib.hid (spare_of hT (a.kid (i1 := i1) (i2 := m0 :: m :: i2) (k1 := k1) (k2 := c1 :: c2 :: k2) (c := c0) (by rw [p.its]; simp) (by rw [p.kids]; simp) hpl) hs rfl)
  have HSC := Lib.hid (spare_of hT (a.kid (i1 := i1 ++ [m0]) (i2 := m :: i2) (k1 := k1 ++ [c0]) (k2 := c2 :: k2) (c := c1) p.its p.kids p.len) hs rfl)
  have HSR := Lib.hid (spare_of hT (a.kid (i1 := i1 ++ [m0] ++ [m]) (i2 := i2) (k1 := k1 ++ [c0] ++ [c1]) (k2 := k2) (c := c2) (by rw [p.its]; simp) (by rw [p.kids]; simp) (by simp [hpl])) hs rfl)
  rw [show decide (s + 1 ≤ c1.its.length) = false from decide_eq_false (by omega)] at HSC
  rw [show decide (s + 1 ≤ c0.its.length) = false from decide_eq_false (by omega)] at HSL
  rw [show decide (s + 1 ≤ c2.its.length) = true from decide_eq_true hsp] at HSR
  obtain ⟨gK, rfl, x0⟩ := hrk.cellP (j := j) (by omega)
  rw [show (d.kids.map Nd.n).getD (j) 0 = c0.n by rw [hj, p.kids, hpl]; simp [List.getD_eq_getElem?_getD]] at x0
  have x0a : ∀ m, (w.drewN m).cell? ⟨gK, j, none⟩ = some (.pointer (some ⟨c0.n, 0, none⟩)) := fun m => x0
  have x0b : ∀ m n, ((w.drewN m).drewN n).cell? ⟨gK, j, none⟩ = some (.pointer (some ⟨c0.n, 0, none⟩)) := fun m n => x0
  obtain ⟨gK', eK, x1⟩ := hrk.cellP (j := j + 1) (by omega)
  obtain rfl : gK = gK' := by injection eK with eK; injection eK
  clear eK
  rw [show (d.kids.map Nd.n).getD (j + 1) 0 = c1.n by rw [hj, p.kids, hpl]; simp [List.getD_eq_getElem?_getD]] at x1
  have x1a : ∀ m, (w.drewN m).cell? ⟨gK, j + 1, none⟩ = some (.pointer (some ⟨c1.n, 0, none⟩)) := fun m => x1
  have x1b : ∀ m n, ((w.drewN m).drewN n).cell? ⟨gK, j + 1, none⟩ = some (.pointer (some ⟨c1.n, 0, none⟩)) := fun m n => x1
  obtain ⟨gK', eK, x2⟩ := hrk.cellP (j := j + 2) (by omega)
  obtain rfl : gK = gK' := by injection eK with eK; injection eK
  clear eK
  rw [show (d.kids.map Nd.n).getD (j + 2) 0 = c2.n by rw [hj, p.kids, hpl]; simp [List.getD_eq_getElem?_getD, List.getElem?_append_right]] at x2
  have x2a : ∀ m, (w.drewN m).cell? ⟨gK, j + 2, none⟩ = some (.pointer (some ⟨c2.n, 0, none⟩)) := fun m => x2
  have x2b : ∀ m n, ((w.drewN m).drewN n).cell? ⟨gK, j + 2, none⟩ = some (.pointer (some ⟨c2.n, 0, none⟩)) := fun m n => x2
  have hii : (j : Int) < (d.kids.length : Int) := by omega
  have hij : j < d.kids.length := by omega
  have hik : (j : Int) + 1 < (d.kids.length : Int) := by omega
  have hi2 : (0 : Int) < (j : Int) + 1 := by omega
  have hi3 : (0 : Int) ≤ (j : Int) + 1 := by omega
  have hi4 : ((j : Int) + 1).toNat = j + 1 := by omega
  have hi5 : (j : Int) + 1 < (d.its.length : Int) := by omega
  have hi6 : (j : Int) + 2 < (d.kids.length : Int) := by omega
  have hi7 : ((j : Int) + 2).toNat = j + 2 := by omega
  have hi8 : (0 : Int) ≤ (j : Int) + 2 := by omega
  have hwj : IntKind.i64.wrap (j : Int) = (j : Int) := by rw [IntKind.wrap_i64]; omega
  have hwk : IntKind.i64.wrap ((j : Int) + 1 + 1) = (j : Int) + 2 := by rw [IntKind.wrap_i64]; omega
  have hwl : IntKind.i64.wrap ((j : Int) + 2) = (j : Int) + 2 := by rw [IntKind.wrap_i64]; omega
  have HFL : Hid (∀ W, Below w.heap.size w W → Calls Try.prog 54 #[.pointer (some ⟨d.n, 0, none⟩), .int .i64 ((j : Int) + 1)] W (FrChg (s + 1) h d (i1 ++ [m0]) i2 m (k1 ++ [c0]) c1 c2 k2 w)) := Lib.hid fun W hb => by
    have := (fr_chg (a.on hb) p (by omega) hsp (by omega)).mono fun e w' f => f.before a hb
    rw [show (((i1 ++ [m0]).length : Nat) : Int) = (j : Int) + 1 by simp; omega] at this
    exact this
  rw [← hj]

  have p0 := hN.cell 0
  have p1 := hN.cell 1
  simp only [List.getElem?_toArray, List.getElem?_cons_zero, List.getElem?_cons_succ] at p0 p1
  have p0a : ∀ m, (w.drewN m).cell? ⟨d.n, 0, none⟩ = some (.slice A d.its.length kc) := fun m => p0
  have p1a : ∀ m, (w.drewN m).cell? ⟨d.n, 1, none⟩ = some (.slice (some ⟨gK, 0, none⟩) d.kids.length ke) := fun m => p1
  have p0b : ∀ m n, ((w.drewN m).drewN n).cell? ⟨d.n, 0, none⟩ = some (.slice A d.its.length kc) := fun m n => p0
  have p1b : ∀ m n, ((w.drewN m).drewN n).cell? ⟨d.n, 1, none⟩ = some (.slice (some ⟨gK, 0, none⟩) d.kids.length ke) := fun m n => p1
  have HA := Lib.hid (And.intro a (And.intro f1 (And.intro f2 (And.intro hN hbal))))
  clear hN hrk f1 f2 a hm hT hj hpl
  go_enter Try.func43, Try.ntmps43
  go_wp2_with (first | (go_at_call 39; (with_reducible refine (HSC.out _ (by first | exact Below.refl _ _ | exact below_drewN (Below.refl _ _) _ | exact below_drewN (below_drewN (Below.refl _ _) _) _)).mono ?_); rintro e w2 ⟨rfl, m, rfl⟩; dsimp only) | (go_at_call 39; (with_reducible refine (HSL.out _ (by first | exact Below.refl _ _ | exact below_drewN (Below.refl _ _) _ | exact below_drewN (below_drewN (Below.refl _ _) _) _)).mono ?_); rintro e w2 ⟨rfl, m, rfl⟩; dsimp only) | (go_at_call 39; (with_reducible refine (HSR.out _ (by first | exact Below.refl _ _ | exact below_drewN (Below.refl _ _) _ | exact below_drewN (below_drewN (Below.refl _ _) _) _)).mono ?_); rintro e w2 ⟨rfl, m, rfl⟩; dsimp only) | (go_at_call 54; (with_reducible refine (HFL.out _ (by first | exact Below.refl _ _ | exact below_drewN (Below.refl _ _) _ | exact below_drewN (below_drewN (Below.refl _ _) _) _ | exact below_drewN (below_drewN (below_drewN (Below.refl _ _) _) _) _)).mono ?_); intro e w3 f; obtain ⟨rfl, f'⟩ := f; dsimp only; have HF := Lib.hid f'; clear f'))
  go_ret
  exact fill_of_fr HA.out.1 p h1 h2 (by omega) (by omega) (e := .returned (.tuple #[])) ⟨rfl, HF.out⟩
set_option maxHeartbeats 4000000 in
theorem fill_d1 (T s h : Nat) (y z : Value) (d c0 c1 c2 : Nd) (i1 i2 : List It) (m0 m : It) (k1 k2 : List Nd) (key : Key) (w : World) (hT : Blk w T 61 #[.int .i64 (s + 1 : Nat), y, z]) (a : TS (s + 1) (h + 1) w d) (hs : 1 ≤ s ∧ s ≤ 63) (p : Pair d (i1 ++ [m0]) m i2 (k1 ++ [c0]) c1 c2 k2) (h1 : ∀ x ∈ i1 ++ [m0], klt x.k key) (h2 : ∀ x ∈ m :: i2, klt key x.k) (hl : c1.its.length = s) (hl0 : c0.its.length = s) (hsp : c2.its.length = s) :
    Calls Try.prog 43 #[.pointer (some ⟨T, 0, none⟩), .pointer (some ⟨d.n, 0, none⟩), .int .i64 ((i1.length : Int) + 1)] w (FillOut (s + 1) h d key w) := by
  obtain ⟨A, kc, B, ke, f1, f2⟩ := a.at'.1.form
  have hN := a.at'.1.blk
  rw [f1, f2] at hN
  have hrk := a.at'.1.kids
  rw [f2] at hrk
  have hbal : d.kids.length = d.its.length + 1 := a.bal.1
  have hm := a.bal.2.1
  obtain ⟨j, hj⟩ : ∃ j, j = i1.length := ⟨_, rfl⟩
  have hpl : i1.length = k1.length := by have := p.len; simp at this; exact this
  have hil : j + 2 < d.kids.length := by have := congrArg List.length p.kids; simp at this; omega
  have pp : Pair d i1 m0 (m :: i2) k1 c0 c1 (c2 :: k2) := ⟨by rw [p.its]; simp, by rw [p.kids]; simp, hpl⟩
  have HSL := Lib.hid (spare_of hT (a.kid (i1 := i1) (i2 := m0 :: m :: i2) (k1 := k1) (k2 := c1 :: c2 :: k2) (c := c0) (by rw [p.its]; simp) (by rw [p.kids]; simp) hpl) hs rfl)
  have HSC := Lib.hid (spare_of hT (a.kid (i1 := i1 ++ [m0]) (i2 := m :: i2) (k1 := k1 ++ [c0]) (k2 := c2 :: k2) (c := c1) p.its p.kids p.len) hs rfl)
  have HSR := Lib.hid (spare_of hT (a.kid (i1 := i1 ++ [m0] ++ [m]) (i2 := i2) (k1 := k1 ++ [c0] ++ [c1]) (k2 := k2) (c := c2) (by rw [p.its]; simp) (by rw [p.kids]; simp) (by simp [hpl])) hs rfl)
  rw [show decide (s + 1 ≤ c1.its.length) = false from decide_eq_false (by omega)] at HSC
  rw [show decide (s + 1 ≤ c0.its.length) = false from decide_eq_false (by omega)] at HSL
  rw [show decide (s + 1 ≤ c2.its.length) = false from decide_eq_false (by omega)] at HSR
  obtain ⟨gK, rfl, x0⟩ := hrk.cellP (j := j) (by omega)
  rw [show (d.kids.map Nd.n).getD (j) 0 = c0.n by rw [hj, p.kids, hpl]; simp [List.getD_eq_getElem?_getD]] at x0
  have x0a : ∀ m, (w.drewN m).cell? ⟨gK, j, none⟩ = some (.pointer (some ⟨c0.n, 0, none⟩)) := fun m => x0
  have x0b : ∀ m n, ((w.drewN m).drewN n).cell? ⟨gK, j, none⟩ = some (.pointer (some ⟨c0.n, 0, none⟩)) := fun m n => x0
  obtain ⟨gK', eK, x1⟩ := hrk.cellP (j := j + 1) (by omega)
  obtain rfl : gK = gK' := by injection eK with eK; injection eK
  clear eK
  rw [show (d.kids.map Nd.n).getD (j + 1) 0 = c1.n by rw [hj, p.kids, hpl]; simp [List.getD_eq_getElem?_getD]] at x1
  have x1a : ∀ m, (w.drewN m).cell? ⟨gK, j + 1, none⟩ = some (.pointer (some ⟨c1.n, 0, none⟩)) := fun m => x1
  have x1b : ∀ m n, ((w.drewN m).drewN n).cell? ⟨gK, j + 1, none⟩ = some (.pointer (some ⟨c1.n, 0, none⟩)) := fun m n => x1
  obtain ⟨gK', eK, x2⟩ := hrk.cellP (j := j + 2) (by omega)
  obtain rfl : gK = gK' := by injection eK with eK; injection eK
  clear eK
  rw [show (d.kids.map Nd.n).getD (j + 2) 0 = c2.n by rw [hj, p.kids, hpl]; simp [List.getD_eq_getElem?_getD, List.getElem?_append_right]] at x2
  have x2a : ∀ m, (w.drewN m).cell? ⟨gK, j + 2, none⟩ = some (.pointer (some ⟨c2.n, 0, none⟩)) := fun m => x2
  have x2b : ∀ m n, ((w.drewN m).drewN n).cell? ⟨gK, j + 2, none⟩ = some (.pointer (some ⟨c2.n, 0, none⟩)) := fun m n => x2
  have hii : (j : Int) < (d.kids.length : Int) := by omega
  have hij : j < d.kids.length := by omega
  have hik : (j : Int) + 1 < (d.kids.length : Int) := by omega
  have hi2 : (0 : Int) < (j : Int) + 1 := by omega
  have hi3 : (0 : Int) ≤ (j : Int) + 1 := by omega
  have hi4 : ((j : Int) + 1).toNat = j + 1 := by omega
  have hi5 : (j : Int) + 1 < (d.its.length : Int) := by omega
  have hi6 : (j : Int) + 2 < (d.kids.length : Int) := by omega
  have hi7 : ((j : Int) + 2).toNat = j + 2 := by omega
  have hi8 : (0 : Int) ≤ (j : Int) + 2 := by omega
  have hwj : IntKind.i64.wrap (j : Int) = (j : Int) := by rw [IntKind.wrap_i64]; omega
  have hwk : IntKind.i64.wrap ((j : Int) + 1 + 1) = (j : Int) + 2 := by rw [IntKind.wrap_i64]; omega
  have hwl : IntKind.i64.wrap ((j : Int) + 2) = (j : Int) + 2 := by rw [IntKind.wrap_i64]; omega
  have HFL : Hid (∀ W, Below w.heap.size w W → Calls Try.prog 42 #[.pointer (some ⟨T, 0, none⟩), .pointer (some ⟨d.n, 0, none⟩), .int .i64 j] W (JoChg (s + 1) h d i1 (m :: i2) m0 k1 c0 c1 (c2 :: k2) w)) := Lib.hid fun W hb => by
    rw [hj]
    exact (jo_chg (.pointer (some ⟨T, 0, none⟩)) (a.on hb) pp (by omega) (by omega)).mono fun e w' f => f.before a hb
  have HJ := Lib.hid hj
  rw [← hj]

  have p0 := hN.cell 0
  have p1 := hN.cell 1
  simp only [List.getElem?_toArray, List.getElem?_cons_zero, List.getElem?_cons_succ] at p0 p1
  have p0a : ∀ m, (w.drewN m).cell? ⟨d.n, 0, none⟩ = some (.slice A d.its.length kc) := fun m => p0
  have p1a : ∀ m, (w.drewN m).cell? ⟨d.n, 1, none⟩ = some (.slice (some ⟨gK, 0, none⟩) d.kids.length ke) := fun m => p1
  have p0b : ∀ m n, ((w.drewN m).drewN n).cell? ⟨d.n, 0, none⟩ = some (.slice A d.its.length kc) := fun m n => p0
  have p1b : ∀ m n, ((w.drewN m).drewN n).cell? ⟨d.n, 1, none⟩ = some (.slice (some ⟨gK, 0, none⟩) d.kids.length ke) := fun m n => p1
  have HA := Lib.hid (And.intro a (And.intro f1 (And.intro f2 (And.intro hN hbal))))
  clear hN hrk f1 f2 a hm hT hj hpl
  go_enter Try.func43, Try.ntmps43
  go_wp2_with (first | (go_at_call 39; (with_reducible refine (HSC.out _ (by first | exact Below.refl _ _ | exact below_drewN (Below.refl _ _) _ | exact below_drewN (below_drewN (Below.refl _ _) _) _)).mono ?_); rintro e w2 ⟨rfl, m, rfl⟩; dsimp only) | (go_at_call 39; (with_reducible refine (HSL.out _ (by first | exact Below.refl _ _ | exact below_drewN (Below.refl _ _) _ | exact below_drewN (below_drewN (Below.refl _ _) _) _)).mono ?_); rintro e w2 ⟨rfl, m, rfl⟩; dsimp only) | (go_at_call 39; (with_reducible refine (HSR.out _ (by first | exact Below.refl _ _ | exact below_drewN (Below.refl _ _) _ | exact below_drewN (below_drewN (Below.refl _ _) _) _)).mono ?_); rintro e w2 ⟨rfl, m, rfl⟩; dsimp only) | (go_at_call 42; (with_reducible refine (HFL.out _ (by first | exact Below.refl _ _ | exact below_drewN (Below.refl _ _) _ | exact below_drewN (below_drewN (Below.refl _ _) _) _ | exact below_drewN (below_drewN (below_drewN (Below.refl _ _) _) _) _)).mono ?_); intro e w3 f; have hcs := jo_cells f; obtain ⟨rfl, f'⟩ := f; dsimp only; obtain ⟨gX, nX, qX, y0, y1, y2⟩ := hcs; rw [← HJ.out] at y1 y2; have y3 : (j : Int) < (nX : Int) := by omega))
  go_ret
  exact fill_of_jo pp (fun x hx => h1 x (by simp [hx])) h2 (by omega) (e := .returned (.tuple #[])) ⟨rfl, f'⟩
set_option maxHeartbeats 4000000 in
theorem fill_d0 (T s h : Nat) (y z : Value) (d c1 c2 : Nd) (i1 i2 : List It) (m : It) (k1 k2 : List Nd) (key : Key) (w : World) (hT : Blk w T 61 #[.int .i64 (s + 1 : Nat), y, z]) (a : TS (s + 1) (h + 1) w d) (hs : 1 ≤ s ∧ s ≤ 63) (p : Pair d i1 m i2 k1 c1 c2 k2) (h1 : ∀ x ∈ i1 ++ [m], klt x.k key) (h2 : ∀ x ∈ i2, klt key x.k) (hl : c2.its.length = s) (hsp : c1.its.length = s) (hend : i2 = []) :
    Calls Try.prog 43 #[.pointer (some ⟨T, 0, none⟩), .pointer (some ⟨d.n, 0, none⟩), .int .i64 ((i1.length : Int) + 1)] w (FillOut (s + 1) h d key w) := by
  obtain ⟨A, kc, B, ke, f1, f2⟩ := a.at'.1.form
  have hN := a.at'.1.blk
  rw [f1, f2] at hN
  have hrk := a.at'.1.kids
  rw [f2] at hrk
  have hbal : d.kids.length = d.its.length + 1 := a.bal.1
  have hm := a.bal.2.1
  obtain ⟨j, hj⟩ : ∃ j, j = i1.length := ⟨_, rfl⟩
  have hil : j + 1 < d.kids.length := by have := congrArg List.length p.kids; simp at this; have := p.len; omega
  have hpp := p.len
  have HSC := Lib.hid (spare_of hT (a.kid (i1 := i1 ++ [m]) (i2 := i2) (k1 := k1 ++ [c1]) (k2 := k2) (c := c2) (by rw [p.its]; simp) (by rw [p.kids]; simp) (by simp [p.len])) hs rfl)
  have HSL := Lib.hid (spare_of hT (a.kid (i1 := i1) (i2 := m :: i2) (k1 := k1) (k2 := c2 :: k2) (c := c1) p.its p.kids p.len) hs rfl)
  rw [show decide (s + 1 ≤ c2.its.length) = false from decide_eq_false (by omega)] at HSC
  rw [show decide (s + 1 ≤ c1.its.length) = false from decide_eq_false (by omega)] at HSL
  obtain ⟨gK, rfl, x0⟩ := hrk.cellP (j := j) (by omega)
  rw [show (d.kids.map Nd.n).getD (j) 0 = c1.n by rw [hj]; rw [p.kids]; simp [List.getD_eq_getElem?_getD, ← p.len]] at x0
  have x0a : ∀ m, (w.drewN m).cell? ⟨gK, j, none⟩ = some (.pointer (some ⟨c1.n, 0, none⟩)) := fun m => x0
  have x0b : ∀ m n, ((w.drewN m).drewN n).cell? ⟨gK, j, none⟩ = some (.pointer (some ⟨c1.n, 0, none⟩)) := fun m n => x0
  obtain ⟨gK', eK, x1⟩ := hrk.cellP (j := j + 1) (by omega)
  obtain rfl : gK = gK' := by injection eK with eK; injection eK
  clear eK
  rw [show (d.kids.map Nd.n).getD (j + 1) 0 = c2.n by rw [hj]; rw [p.kids]; simp [List.getD_eq_getElem?_getD, ← p.len]] at x1
  have x1a : ∀ m, (w.drewN m).cell? ⟨gK, j + 1, none⟩ = some (.pointer (some ⟨c2.n, 0, none⟩)) := fun m => x1
  have x1b : ∀ m n, ((w.drewN m).drewN n).cell? ⟨gK, j + 1, none⟩ = some (.pointer (some ⟨c2.n, 0, none⟩)) := fun m n => x1
  have hii : (j : Int) < (d.kids.length : Int) := by omega
  have hij : j < d.kids.length := by omega
  have hik : (j : Int) + 1 < (d.kids.length : Int) := by omega
  have hi2 : (0 : Int) < (j : Int) + 1 := by omega
  have hi3 : (0 : Int) ≤ (j : Int) + 1 := by omega
  have hi4 : ((j : Int) + 1).toNat = j + 1 := by omega
  have hwj : IntKind.i64.wrap (j : Int) = (j : Int) := by rw [IntKind.wrap_i64]; omega
  have HFL : Hid (∀ W, Below w.heap.size w W → Calls Try.prog 42 #[.pointer (some ⟨T, 0, none⟩), .pointer (some ⟨d.n, 0, none⟩), .int .i64 j] W (JoChg (s + 1) h d i1 i2 m k1 c1 c2 k2 w)) := Lib.hid fun W hb => by
    rw [hj]
    exact (jo_chg (.pointer (some ⟨T, 0, none⟩)) (a.on hb) p (by omega) (by omega)).mono fun e w' f => f.before a hb
  have HJ := Lib.hid hj
  have hlen : d.its.length = j + 1 := by rw [p.its, hend, hj]; simp
  have hnlt : ¬ ((j : Int) + 1 < (d.its.length : Int)) := by omega
  rw [← hj]

  have p0 := hN.cell 0
  have p1 := hN.cell 1
  simp only [List.getElem?_toArray, List.getElem?_cons_zero, List.getElem?_cons_succ] at p0 p1
  have p0a : ∀ m, (w.drewN m).cell? ⟨d.n, 0, none⟩ = some (.slice A d.its.length kc) := fun m => p0
  have p1a : ∀ m, (w.drewN m).cell? ⟨d.n, 1, none⟩ = some (.slice (some ⟨gK, 0, none⟩) d.kids.length ke) := fun m => p1
  have p0b : ∀ m n, ((w.drewN m).drewN n).cell? ⟨d.n, 0, none⟩ = some (.slice A d.its.length kc) := fun m n => p0
  have p1b : ∀ m n, ((w.drewN m).drewN n).cell? ⟨d.n, 1, none⟩ = some (.slice (some ⟨gK, 0, none⟩) d.kids.length ke) := fun m n => p1
  have HA := Lib.hid (And.intro a (And.intro f1 (And.intro f2 (And.intro hN hbal))))
  clear hN hrk f1 f2 a hm hT hj hpp hlen
  go_enter Try.func43, Try.ntmps43
  go_wp2_with (first | (go_at_call 39; (with_reducible refine (HSC.out _ (by first | exact Below.refl _ _ | exact below_drewN (Below.refl _ _) _ | exact below_drewN (below_drewN (Below.refl _ _) _) _)).mono ?_); rintro e w2 ⟨rfl, m, rfl⟩; dsimp only) | (go_at_call 39; (with_reducible refine (HSL.out _ (by first | exact Below.refl _ _ | exact below_drewN (Below.refl _ _) _ | exact below_drewN (below_drewN (Below.refl _ _) _) _)).mono ?_); rintro e w2 ⟨rfl, m, rfl⟩; dsimp only) | (go_at_call 42; (with_reducible refine (HFL.out _ (by first | exact Below.refl _ _ | exact below_drewN (Below.refl _ _) _ | exact below_drewN (below_drewN (Below.refl _ _) _) _)).mono ?_); intro e w3 f; have hcs := jo_cells f; obtain ⟨rfl, f'⟩ := f; dsimp only; obtain ⟨gX, nX, qX, y0, y1, y2⟩ := hcs; rw [← HJ.out] at y1 y2; have y3 : (j : Int) < (nX : Int) := by omega))
  go_ret
  exact fill_of_jo p (fun x hx => h1 x (by simp [hx])) h2 (by omega) (e := .returned (.tuple #[])) ⟨rfl, f'⟩
end Go.Proofs.Ytgjcomnljonffaa.Tlv
