/- Shape. -/
import Derived.Test.YtgjcomnljonffaaB22
namespace Go.Proofs.Ytgjcomnljonffaa.Tlv
open Go.RowKit
set_option maxRecDepth 100000
set_option linter.unusedVariables false
set_option linter.unusedSimpArgs false
/-- How many items lie in each node, level by level. -/
def shapeL : Nat → List Nd → List (List Nat)
  | 0, ds => [ds.map fun d => d.its.length]
  | h + 1, ds => (ds.map fun d => d.its.length) :: shapeL h (ds.flatMap Nd.kids)
/-- A row of numbers as it lies. -/
def NumAt (w : World) (x : Sl) (row : List Nat) : Prop := x.n = row.length ∧ (0 < row.length → ∃ b cs, x.A = some ⟨b, 0, none⟩ ∧ Blk w b 3 cs ∧ ∀ j, j < row.length → cs[j]? = some (.int .i64 (row.getD j 0 : Nat)))
def RowsAt (w : World) (base : Nat) (v : Value) (sh : List (List Nat)) : Prop := ∃ sls : List Sl, RowK kS w base v sls ∧ sls.length = sh.length ∧ ∀ i, i < sh.length → NumAt w (sls.getD i default) (sh.getD i [])
theorem NumAt.kept {w w' : World} {x : Sl} {row : List Nat} (h : NumAt w x row) (hk : ∀ b cs, Blk w b 3 cs → Blk w' b 3 cs) : NumAt w' x row := ⟨h.1, fun hp => by
  obtain ⟨b, cs, e, q, r⟩ := h.2 hp
  exact ⟨b, cs, e, hk b cs q, r⟩⟩
theorem num_of_row {w : World} {base n c : Nat} {A : Option Addr} {row : List Nat} (h : RowK kN w base (.slice A n c) (row.map fun (x : Nat) => (x : Int))) : NumAt w ⟨A, n, c⟩ row := by
  obtain ⟨hn, h0⟩ := h.cases
  simp at hn
  refine ⟨hn, fun hp => ?_⟩
  rcases h0 with ⟨_, h1, _⟩ | ⟨g, cur, rfl, hb, hg, h1, h2, h3, h4⟩
  · omega
  · refine ⟨g, _, rfl, hg, fun j hj => ?_⟩
    have hj' : (cur.take (n * kN.size))[j]? = (flatK kN (row.map fun (x : Nat) => (x : Int)))[j]? := by rw [h4]
    have e := flat_at kN (row.map fun (x : Nat) => (x : Int)) j 0 (by simpa using hj) (by decide)
    rw [show j * kN.size + 0 = j from by simp [kN]] at e
    rw [List.getElem?_take_of_lt (by rw [show n * kN.size = n from by simp [kN]]; omega), e] at hj'
    simp only [List.getElem?_toArray, hj']
    simp [kN, List.getD_eq_getElem?_getD, List.getElem?_eq_getElem hj]
theorem RowsAt.kept {w w' : World} {base : Nat} {v : Value} {sh : List (List Nat)} (h : RowsAt w base v sh) (hb : Below w.heap.size w w') : RowsAt w' base v sh := by
  obtain ⟨sls, h1, h2, h3⟩ := h
  exact ⟨sls, h1.on hb, h2, fun i hi => (h3 i hi).kept fun b cs q => q.on hb⟩
theorem RowsAt.push {w w1 w' : World} {base : Nat} {v v' : Value} {sh : List (List Nat)} {x : Sl} {row : List Nat} {sls : List Sl} (h1 : RowK kS w base v sls) (h2 : sls.length = sh.length) (h3 : ∀ i, i < sh.length → NumAt w (sls.getD i default) (sh.getD i []))
    (hb : Below w.heap.size w w1) (hg : w1.grownBy w' v.ownBlock) (hr : RowK kS w' base v' (sls ++ [x])) (hx : NumAt w1 x row) : RowsAt w' base v' (sh ++ [row]) := by
  have hk : ∀ b cs, Blk w1 b 3 cs → Blk w' b 3 cs := fun b cs q => q.grown hg fun e => by
    obtain ⟨cs', q'⟩ := (h1.on hb).own_blk e.symm
    exact absurd (blk_ty q q') (by decide)
  refine ⟨sls ++ [x], hr, by simp [h2], fun i hi => ?_⟩
  simp at hi
  rcases Nat.lt_or_ge i sh.length with h | h
  · rw [show (sls ++ [x]).getD i default = sls.getD i default by simp [List.getD_eq_getElem?_getD, List.getElem?_append_left (show i < sls.length by omega)], show (sh ++ [row]).getD i [] = sh.getD i [] by simp [List.getD_eq_getElem?_getD, List.getElem?_append_left h]]
    exact ((h3 i h).kept fun b cs q => q.on hb).kept hk
  · have e : i = sh.length := by omega
    subst e
    rw [show (sls ++ [x]).getD sh.length default = x by rw [← h2]; simp [List.getD_eq_getElem?_getD], show (sh ++ [row]).getD sh.length [] = row by simp [List.getD_eq_getElem?_getD]]
    exact hx.kept hk
/-- A level of a tree. -/
structure Lev (t h : Nat) (w : World) (ds : List Nd) (N : Nat) : Prop where
  at' : ∀ c ∈ ds, At w h c
  bal : ∀ c ∈ ds, Bal t h c
  few : (ds.flatMap (flat h)).length ≤ N
  len : ds.length ≤ N
theorem flat_len {t h : Nat} {d : Nd} (b : Bal t (h + 1) d) : (flat (h + 1) d).length = d.its.length + (d.kids.flatMap (flat h)).length := by
  have h1 : d.kids.length = d.its.length + 1 := b.1
  show (inter d.its (d.kids.map (flat h))).length = _
  cases hk : d.kids with
  | nil => rw [hk] at h1; simp at h1
  | cons c l =>
    rw [hk] at h1
    have h2 : d.its.length = l.length := by simpa using h1.symm
    show (flat h c ++ sufL d.its (l.map (flat h))).length = d.its.length + ((c :: l).flatMap (flat h)).length
    have key : ∀ (i : List It) (l : List Nd), i.length = l.length → (sufL i (l.map (flat h))).length = i.length + (l.flatMap (flat h)).length := by
      intro i
      induction i with
      | nil => intro l hl; have : l = [] := List.eq_nil_of_length_eq_zero (by simpa using hl.symm); subst this; simp
      | cons x i ih =>
        intro l hl
        cases l with
        | nil => simp at hl
        | cons c l =>
          have := ih l (by simpa using hl)
          simp [this]
          omega
    rw [List.length_append, key _ _ h2]
    simp
    omega
theorem Lev.next {t h N : Nat} {w : World} {ds : List Nd} (a : Lev t (h + 1) w ds N) (ht : 2 ≤ t) : Lev t h w (ds.flatMap Nd.kids) N ∧ (ds.flatMap Nd.kids).length ≤ N := by
  have hk : ∀ c ∈ ds.flatMap Nd.kids, At w h c ∧ Bal t h c ∧ t - 1 ≤ c.its.length := fun c hc => by
    obtain ⟨d, h1, h2⟩ := List.mem_flatMap.1 hc
    exact ⟨(a.at' d h1).2 c h2, ((a.bal d h1).2.2 c h2).1, ((a.bal d h1).2.2 c h2).2⟩
  have hf : ((ds.flatMap Nd.kids).flatMap (flat h)).length ≤ (ds.flatMap (flat (h + 1))).length := by
    have hb := a.bal
    clear a hk
    induction ds with
    | nil => simp
    | cons d ds ih =>
      have h1 := flat_len (hb d (by simp))
      have h2 := ih fun c hc => hb c (by simp [hc])
      simp only [List.flatMap_cons, List.flatMap_append, List.length_append] at *
      omega
  have hl : (ds.flatMap Nd.kids).length ≤ ((ds.flatMap Nd.kids).flatMap (flat h)).length := by
    have key : ∀ l : List Nd, (∀ c ∈ l, Bal t h c ∧ t - 1 ≤ c.its.length) → l.length ≤ (l.flatMap (flat h)).length := by
      intro l
      induction l with
      | nil => intro _; simp
      | cons c l ih =>
        intro hl
        have h1 := ih fun x hx => hl x (by simp [hx])
        have h2 := (hl c (by simp)).1.sub.length_le
        have h3 := (hl c (by simp)).2
        simp only [List.flatMap_cons, List.length_append, List.length_cons]
        omega
    exact key _ fun c hc => ⟨(hk c hc).2.1, (hk c hc).2.2⟩
  have := a.few
  exact ⟨⟨fun c hc => (hk c hc).1, fun c hc => (hk c hc).2.1, by omega, by omega⟩, by omega⟩
theorem tall {t : Nat} (ht : 2 ≤ t) : ∀ (h : Nat) (d : Nd), Bal t h d → 1 ≤ d.its.length → h + 1 ≤ (flat h d).length
  | 0, d, b, h1 => by
    have := b.sub.length_le
    simpa using Nat.le_trans h1 this
  | h + 1, d, b, h1 => by
    have hk : d.kids.length = d.its.length + 1 := b.1
    have e := flat_len b
    cases hd : d.kids with
    | nil => rw [hd] at hk; simp at hk
    | cons c r =>
      have hc := b.2.2 c (by rw [hd]; simp)
      have h2 := tall ht h c hc.1 (by omega)
      rw [hd] at e
      simp only [List.flatMap_cons, List.length_append] at e
      omega
theorem shape_len : ∀ (h : Nat) (ds : List Nd), (shapeL h ds).length = h + 1
  | 0, _ => rfl
  | h + 1, ds => by simp [shapeL, shape_len h]
theorem kids_few {t h N : Nat} {w : World} {ds : List Nd} (a : Lev t h w ds N) (ht : 2 ≤ t) : (ds.flatMap Nd.kids).length ≤ N := by
  cases h with
  | zero =>
    have : ds.flatMap Nd.kids = [] := List.flatMap_eq_nil_iff.2 fun c hc => (a.bal c hc).1
    rw [this]; simp
  | succ h => exact (a.next ht).2
theorem Lev.on {t h N : Nat} {w w' : World} {ds : List Nd} (a : Lev t h w ds N) (hb : Below w.heap.size w w') : Lev t h w' ds N := ⟨fun c hc => (a.at' c hc).on hb, a.bal, a.few, a.len⟩
def ShapeOut (l : List KV) (h : Nat) (d : Nd) (w : World) (e : Ending) (w' : World) : Prop :=
  ∃ v, e = .returned v ∧ RowsAt w' w.heap.size v (if l = [] then [] else shapeL h [d]) ∧ Below w.heap.size w w'
set_option maxHeartbeats 8000000 in
theorem shape_any (T s : Nat) (l : List KV) (F : Nat → Prop) (h0 : Nat) (d0 : Nd) (w : World) (a : TreeIn w T s l F h0 d0) (hl : l.length ≤ 1000000) : Calls Try.prog 14 #[.pointer (some ⟨T, 0, none⟩)] w (ShapeOut l h0 d0 w) := by
  have HL := Lib.hid (len_any T s l F w ⟨h0, d0, a⟩)
  have t2 := a.blk.cell 2
  simp only [List.getElem?_toArray, List.getElem?_cons_zero, List.getElem?_cons_succ] at t2
  have HA := Lib.hid a
  clear a
  by_cases hz : l = []
  · subst hz
    go_enter Try.func14, Try.ntmps14
    go_wp2_with (go_at_call 16; (with_reducible refine HL.out.mono ?_); rintro e w1 ⟨rfl, rfl⟩; dsimp only)
    go_ret
    exact ⟨_, rfl, ⟨[], nil_row _ _ _, by simp, fun i hi => by simp at hi⟩, Below.refl _ _⟩
  · have hlz : ¬ (l.length : Int) = 0 := by
      have : l.length ≠ 0 := fun e => hz (List.eq_nil_of_length_eq_zero e)
      omega
    have hlp : 1 ≤ l.length := by
      have : l.length ≠ 0 := fun e => hz (List.eq_nil_of_length_eq_zero e)
      omega
    have HZ := Lib.hid (And.intro hz (And.intro hlp hl))
    clear hz
    go_enter Try.func14, Try.ntmps14
    go_upto_region 5 with (go_at_call 16; (with_reducible refine HL.out.mono ?_); rintro e w1 ⟨rfl, rfl⟩; dsimp only)
    have hb0 : Below w.heap.size w (w.alloc (.cells #[.pointer (some ⟨d0.n, 0, none⟩)] 55)) := (Below.refl _ _).alloc (Nat.le_refl _) _
    have hrd0 : RdK kP (w.alloc (.cells #[.pointer (some ⟨d0.n, 0, none⟩)] 55)) (w.alloc (.cells #[.pointer (some ⟨d0.n, 0, none⟩)] 55)).heap.size (some ⟨w.heap.size, 0, none⟩) [d0.n] := rd_block (l := [d0.n]) (Blk.new w 55 #[.pointer (some ⟨d0.n, 0, none⟩)]) (by simp [flatK, kP])
    have hll : (flat h0 d0).length = l.length := by rw [← HA.out.kvs]; simp
    have hlev : Lev (s + 1) h0 w [d0] 1000001 := ⟨fun c hc => by simp at hc; subst hc; exact HA.out.ts.at', fun c hc => by simp at hc; subst hc; exact HA.out.ts.bal, by simp; omega, by simp⟩
    generalize hW0 : w.alloc (.cells #[.pointer (some ⟨d0.n, 0, none⟩)] 55) = W0 at hb0 hrd0 hlev ⊢
    have hh0 : h0 + 1 ≤ l.length := by
      rw [← hll]
      refine tall (by have := HA.out.deg; omega) h0 d0 HA.out.ts.bal ?_
      rcases Nat.eq_zero_or_pos h0 with e | e
      · subst e
        have h1 : (flat 0 d0).length = d0.its.length := rfl
        omega
      · exact HA.out.root e
    have H1 := Lib.hid (And.intro hb0 (And.intro hrd0 (And.intro hlev (And.intro hh0 HA.out.deg))))
    clear hW0 hb0 hrd0 hlev hll t2 HL hh0
    have hbz : ((l.length : Int) == 0) = false := by simpa using hlz
    rw [hbz]
    clear hbz
    go_loopg [3, 4] (h0 + 1) (fun g s3 s4 wr => ∃ (A3 : Option Addr) (n3 c3 : Nat) (A : Option Addr) (m c : Nat) (done : List (List Nat)), s3 = .slice A3 n3 c3 ∧ s4 = .slice A m c ∧ m ≤ 1000001 ∧ Hid (Below w.heap.size w wr ∧ RowsAt wr w.heap.size (.slice A3 n3 c3) done ∧
      ((m = 0 ∧ done = shapeL h0 [d0]) ∨ ∃ h ds, Lev (s + 1) h w ds 1000001 ∧ m = ds.length ∧ 1 ≤ m ∧ RdK kP wr wr.heap.size A (ds.map Nd.n) ∧ done ++ shapeL h ds = shapeL h0 [d0] ∧ h + 1 ≤ g)))
    case atStart => exact ⟨none, 0, 0, some ⟨w.heap.size, 0, none⟩, 1, 1, [], rfl, rfl, by omega, Lib.hid ⟨H1.out.1, ⟨[], nil_row _ _ _, rfl, fun i hi => by simp at hi⟩, .inr ⟨h0, [d0], H1.out.2.2.1, rfl, Nat.le_refl _, H1.out.2.1, rfl, Nat.le_refl _⟩⟩⟩
    case round =>
      obtain ⟨A3, n3, c3, A, m, c, done, rfl, rfl, hm, HI⟩ := hrel
      rcases HI.out.2.2 with ⟨rfl, hd⟩ | ⟨h, ds, hlev, hml, hm1, hrd, hsh, hg⟩
      · go_wp2
        go_ret
        refine ⟨_, rfl, ?_, HI.out.1⟩
        rw [if_neg HZ.out.1, ← hd]
        exact HI.out.2.1
      · have hmi : (0 : Int) < (m : Int) := by omega
        have HX := Lib.hid hlev
        have HV := Lib.hid (And.intro (hlev.on HI.out.1) (And.intro hml (And.intro hm1 (And.intro hrd (And.intro hsh hg)))))
        clear hlev hml hm1 hrd hsh hg
        go_upto_region 9 with fail
        obtain ⟨wo, hwo⟩ : ∃ x : World, x = wr := ⟨_, rfl⟩
        subst hwo
        obtain ⟨go, hgo⟩ : ∃ x : Nat, x = gk := ⟨_, rfl⟩
        subst hgo
        have hbm : decide (0 < m) = true := by simpa using hmi
        rw [hbm]
        clear hbm
        go_loopg [22, 5, 6] m (fun g s22 s5 s6 wr => ∃ (k : Nat) (A5 : Option Addr) (n5 c5 : Nat) (A6 : Option Addr) (n6 c6 : Nat), s22 = .int .i64 k ∧ s5 = .slice A5 n5 c5 ∧ s6 = .slice A6 n6 c6 ∧ k ≤ m ∧ m - k ≤ g ∧
          Hid (Below wo.heap.size wo wr ∧ RowK kN wr wo.heap.size (.slice A5 n5 c5) ((ds.take k).map fun d => (d.its.length : Int)) ∧ RowK kP wr wo.heap.size (.slice A6 n6 c6) (((ds.take k).flatMap Nd.kids).map Nd.n)))
        case atStart => exact ⟨0, none, 0, 0, none, 0, 0, rfl, rfl, rfl, Nat.zero_le _, by omega, Lib.hid ⟨Below.refl _ _, nil_row _ _ _, nil_row _ _ _⟩⟩
        case round =>
          obtain ⟨k, A5, n5, c5, A6, n6, c6, rfl, rfl, rfl, hk, hg2, HJ⟩ := hrel
          by_cases hkm : k < m
          · have hki : (k : Int) < (m : Int) := by omega
            obtain ⟨d1, x, d2, hds, hd1, hd2⟩ := list_cut (show k < ds.length by have := HV.out.2.1; omega)
            have hxm : x ∈ ds := by rw [hds]; simp
            obtain ⟨b, off, rfl, hbl, hc⟩ := HV.out.2.2.2.1 (by have := HV.out.2.1; simp; omega)
            have x0 : wr.cell? ⟨b, off + k, none⟩ = some (.pointer (some ⟨x.n, 0, none⟩)) := by
              have h1 := hc k (by have := HV.out.2.1; simp; omega) 0 (.pointer (some ⟨x.n, 0, none⟩)) (by rw [show (ds.map Nd.n).getD k default = x.n by rw [hds, ← hd1]; simp [List.getD_eq_getElem?_getD]]; rfl)
              rw [show off + k * kP.size + 0 = off + k by simp [kP]] at h1
              exact (HJ.out.1.cell (p := ⟨b, off + k, none⟩) hbl).trans h1
            have xa := (HV.out.1.at' x hxm).on HJ.out.1
            have xb := HV.out.1.bal x hxm
            obtain ⟨Ax, cx, Bx, ex, f1, f2⟩ := xa.node.form
            have hN := xa.node.blk
            rw [f1, f2] at hN
            have hrk := xa.node.kids
            rw [f2] at hrk
            obtain ⟨v1, w2, u1, u2, u3, u4⟩ := run_app5 (K := kN) 70 (w := wr.alloc (.cells #[.int .i64 x.its.length] 3)) (c := 1) [(x.its.length : Int)] (HJ.out.2.1.alloc _) (rd_block (l := [(x.its.length : Int)]) (Blk.new wr 3 #[.int .i64 x.its.length]) (by simp [flatK, kN])) (fun h => by cases h) (by have := HV.out.2.1; simp; omega) (by have := HJ.out.1.size; simp; omega)
            obtain ⟨Av, nv, cv, rfl⟩ : ∃ A n c, v1 = .slice A n c := by obtain ⟨A, c, e, _⟩ := u2.rd0; exact ⟨A, _, c, e⟩
            have hw2 : Below wo.heap.size wo w2 := (HJ.out.1.alloc HJ.out.1.size _).trans ((Below.refl _ _).grown u3 (by have := HJ.out.1.size; simp; omega) (fun k hk => (World.ownsRow.lt HJ.out.2.1 k hk).1))
            have hx2 : w2.heap[x.n]? = wr.heap[x.n]? := by
              have h1 := (HV.out.1.at' x hxm).node.blk.lt
              exact (hw2.block _ h1).trans (HJ.out.1.block _ h1).symm
            have hN2 : Blk w2 x.n 59 #[.slice Ax x.its.length cx, .slice Bx x.kids.length ex] := hx2.trans hN
            have hrk2 : RowK kP w2 0 (.slice Bx x.kids.length ex) (x.kids.map Nd.n) := by
              have h1 := (HV.out.1.at' x hxm).node.kids
              rw [f2] at h1
              exact h1.kept' fun k hk => by obtain ⟨cs, q⟩ := h1.own_blk hk; exact hw2.block k q.lt
            have h62 : RowK kP w2 wo.heap.size (.slice A6 n6 c6) (((ds.take k).flatMap Nd.kids).map Nd.n) := (HJ.out.2.2.alloc _).kept' fun k hk => u3.block k (by obtain ⟨cs, q⟩ := (HJ.out.2.2.alloc (.cells #[.int .i64 x.its.length] 3)).own_blk hk; exact q.lt) (fun e => by
              obtain ⟨cs, q⟩ := (HJ.out.2.2.alloc (.cells #[.int .i64 x.its.length] 3)).own_blk hk
              obtain ⟨cs', q'⟩ := (HJ.out.2.1.alloc (.cells #[.int .i64 x.its.length] 3)).own_blk e.symm
              exact absurd (blk_ty q q') (by decide))
            have hlen6 : (((ds.take k).flatMap Nd.kids).map Nd.n).length + x.kids.length ≤ 1000000000 := by
              have h1 := kids_few HV.out.1 (by have := H1.out.2.2.2.2; omega)
              have h2 : (ds.flatMap Nd.kids).length = ((ds.take k).flatMap Nd.kids).length + (x.kids.length + (d2.flatMap Nd.kids).length) := by
                rw [show ds.take k = d1 by rw [hds, ← hd1]; simp]
                rw [hds]; simp [List.flatMap_append]
              simp only [List.length_map]
              omega
            obtain ⟨v2, w3, y1, y2, y3, y4⟩ := run_app5 (K := kP) 57 (w := w2) (c := ex) (x.kids.map Nd.n) h62 hrk2.rdA.1 hrk2.rdA.2 (by simpa using hlen6) hw2.size
            obtain ⟨Aw, nw, cw, rfl⟩ : ∃ A n c, v2 = .slice A n c := by obtain ⟨A, c, e, _⟩ := y2.rd0; exact ⟨A, _, c, e⟩
            have h53 : RowK kN w3 wo.heap.size (.slice Av nv cv) ((ds.take k).map (fun d => (d.its.length : Int)) ++ [(x.its.length : Int)]) := u2.kept' fun k hk => y3.block k (by obtain ⟨cs, q⟩ := u2.own_blk hk; exact q.lt) (fun e => by
              obtain ⟨cs, q⟩ := u2.own_blk hk
              obtain ⟨cs', q'⟩ := h62.own_blk e.symm
              exact absurd (blk_ty q q') (by decide))
            have hw3 : Below wo.heap.size wo w3 := hw2.trans ((Below.refl _ _).grown y3 hw2.size (fun k hk => (World.ownsRow.lt h62 k hk).1))
            have htk : ds.take (k + 1) = ds.take k ++ [x] := by rw [hds, ← hd1]; simp [List.take_append, List.take_of_length_le]
            rw [show (x.kids.map Nd.n).length = x.kids.length by simp] at y1
            have p0 := hN.cell 0
            have p0a := (hN.alloc (.cells #[.int .i64 x.its.length] 3)).cell 0
            have p1 := hN2.cell 1
            simp only [List.getElem?_toArray, List.getElem?_cons_zero, List.getElem?_cons_succ] at p0 p0a p1
            have HR1 := Lib.hid u1
            have HR2 := Lib.hid y1
            have HE := Lib.hid (And.intro h53 (And.intro y2 (And.intro hw3 htk)))
            clear xa xb hN hrk u1 u2 u3 u4 hw2 hx2 hN2 hrk2 h62 hlen6 y1 y2 y3 y4 h53 hw3 htk hds hd1 hd2 hxm hc f1 f2
            go_wp2_with (first
              | (at_builtin; refine wpList_ap rfl (.tmp 26) (.tmp 32) 70 70 rfl _ _ rfl rfl HR1.out ?_)
              | (at_builtin; refine wpList_ap rfl (.tmp 34) (.tmp 38) 57 57 rfl _ _ rfl rfl HR2.out ?_))
            go_roundg (m - (k + 1))
            case measure => omega
            case rel =>
              refine ⟨k + 1, _, _, _, _, _, _, by go_num, rfl, rfl, by omega, Nat.le_refl _, Lib.hid ⟨HE.out.2.2.1, ?_, ?_⟩⟩
              · rw [HE.out.2.2.2]; simpa using HE.out.1
              · rw [HE.out.2.2.2]; simpa using HE.out.2.1
          · have hkm' : m = k := by omega
            subst hkm'
            have hkk : ¬ (m : Int) < (m : Int) := by omega
            obtain ⟨sls, r1, r2, r3⟩ := HI.out.2.1
            have htk : ds.take m = ds := by rw [HV.out.2.1]; simp
            have h5 := HJ.out.2.1
            rw [htk] at h5
            have h6 := HJ.out.2.2
            rw [htk] at h6
            obtain ⟨v1, w2, u1, u2, u3, u4⟩ := run_app5 (K := kS) 41 (w := wr.alloc (.cells #[.slice A5 n5 c5] 70)) (c := 1) [(⟨A5, n5, c5⟩ : Sl)] ((r1.on HJ.out.1).alloc _) (rd_block (l := [(⟨A5, n5, c5⟩ : Sl)]) (Blk.new wr 70 #[.slice A5 n5 c5]) (by simp [flatK, kS])) (fun h => by cases h) (by have h1 := congrArg List.length HV.out.2.2.2.2.1; rw [List.length_append, shape_len, shape_len] at h1; have := H1.out.2.2.2.1; have := HZ.out.2.2; simp; omega) (by have := HJ.out.1.size; have := HI.out.1.size; simp; omega)
            obtain ⟨Av, nv, cv, rfl⟩ : ∃ A n c, v1 = .slice A n c := by obtain ⟨A, c, e, _⟩ := u2.rd0; exact ⟨A, _, c, e⟩
            have hnum : NumAt (wr.alloc (.cells #[.slice A5 n5 c5] 70)) ⟨A5, n5, c5⟩ (ds.map fun d => d.its.length) := by
              have h7 : RowK kN (wr.alloc (.cells #[.slice A5 n5 c5] 70)) wo.heap.size (.slice A5 n5 c5) ((ds.map fun d => d.its.length).map fun (x : Nat) => (x : Int)) := by rw [List.map_map]; exact h5.alloc _
              exact num_of_row h7
            have hpush := RowsAt.push (row := ds.map fun d => d.its.length) r1 r2 r3 (HJ.out.1.alloc HJ.out.1.size (.cells #[.slice A5 n5 c5] 70)) u3 u2 hnum
            have hown : ∀ k, (Value.slice A3 n3 c3).ownBlock = some k → w.heap.size ≤ k ∧ ∃ cs, Blk wo k 70 cs := fun k hk => ⟨(World.ownsRow.lt r1 k hk).1, r1.own_blk hk⟩
            have HR1 := Lib.hid u1
            have HE := Lib.hid (And.intro hpush (And.intro u3 (And.intro h6 hown)))
            clear r1 r2 r3 h5 h6 u1 u2 u3 u4 hnum hpush hown htk
            go_wp2_with (at_builtin; refine wpList_ap rfl (.tmp 41) (.tmp 43) 41 41 rfl _ _ rfl rfl HR1.out ?_)
            have hb1 : Below w.heap.size w (wr.alloc (.cells #[.slice A5 n5 c5] 70)) := (HI.out.1.trans (HJ.out.1.mono HI.out.1.size)).alloc (by have := HJ.out.1.size; have := HI.out.1.size; omega) _
            have hb2 : Below w.heap.size w w2 := hb1.trans ((Below.refl _ _).grown HE.out.2.1 hb1.size (fun k hk => (HE.out.2.2.2 k hk).1))
            have h62 : RowK kP w2 wo.heap.size (.slice A6 n6 c6) ((ds.flatMap Nd.kids).map Nd.n) := (HE.out.2.2.1.alloc _).kept' fun k hk => HE.out.2.1.block k (by obtain ⟨cs, q⟩ := (HE.out.2.2.1.alloc (.cells #[.slice A5 n5 c5] 70)).own_blk hk; exact q.lt) (fun e => by
              obtain ⟨cs, q⟩ := (HE.out.2.2.1.alloc (.cells #[.slice A5 n5 c5] 70)).own_blk hk
              obtain ⟨_, cs', q'⟩ := HE.out.2.2.2 k e.symm
              have q2 := (q'.on HJ.out.1).alloc (.cells #[.slice A5 n5 c5] 70)
              exact absurd (blk_ty q q2) (by decide))
            have hn6 : n6 = (ds.flatMap Nd.kids).length := by simpa using h62.cases.1
            have hf6 := kids_few HV.out.1 (by have := H1.out.2.2.2.2; omega)
            rcases h with _ | h
            · have hz6 : ds.flatMap Nd.kids = [] := List.flatMap_eq_nil_iff.2 fun c hc => (HV.out.1.bal c hc).1
              rw [hz6] at hn6
              have hn0 : n6 = 0 := by simpa using hn6
              subst hn0
              have hfin := HV.out.2.2.2.2.1
              have HF := Lib.hid (And.intro hb2 (And.intro hfin HE.out.1))
              clear hb1 hb2 h62 hz6 hn6 hf6 hfin
              go_roundg 0
              case measure => have := HV.out.2.2.2.2.2; omega
              case rel => exact ⟨_, _, _, _, 0, _, _, rfl, rfl, by omega, Lib.hid ⟨HF.out.1, HF.out.2.2, .inl ⟨rfl, HF.out.2.1⟩⟩⟩
            · have hnx := (HX.out.next (by have := H1.out.2.2.2.2; omega)).1
              have hne : 1 ≤ (ds.flatMap Nd.kids).length := by
                have h1 := HV.out.2.1
                have h2 := HV.out.2.2.1
                have hb := HV.out.1.bal
                rcases ds with _ | ⟨c, r⟩
                · simp at h1; omega
                · have := (hb c (by simp)).1
                  simp
                  omega
              have hfin : (done ++ [ds.map fun d => d.its.length]) ++ shapeL h (ds.flatMap Nd.kids) = shapeL h0 [d0] := by
                have := HV.out.2.2.2.2.1
                simpa [shapeL] using this
              have HF := Lib.hid (And.intro hb2 (And.intro hfin (And.intro HE.out.1 (And.intro hnx (And.intro hne (And.intro hn6 h62.rdA.1))))))
              have hn6m : n6 ≤ 1000001 := by omega
              clear hb1 hb2 h62 hn6 hf6 hfin hnx hne
              go_roundg (h + 1)
              case measure => have := HV.out.2.2.2.2.2; omega
              case rel => exact ⟨_, _, _, _, n6, _, _, rfl, rfl, hn6m, Lib.hid ⟨HF.out.1, HF.out.2.2.1, .inr ⟨h, _, HF.out.2.2.2.1, HF.out.2.2.2.2.2.1, by have := HF.out.2.2.2.2.1; have := HF.out.2.2.2.2.2.1; omega, HF.out.2.2.2.2.2.2, HF.out.2.1, Nat.le_refl _⟩⟩⟩
end Go.Proofs.Ytgjcomnljonffaa.Tlv
