/- One attribute more, in its place, by the document; sorted. -/
import Derived.Test.YtlhbnmaalhainaaSame
namespace Go.Proofs.Ytlhbnmaalhainaa
open Go.RowKit Go.Lib Go.Sort
set_option linter.unusedVariables false
set_option linter.unusedSimpArgs false

theorem put_at : ∀ (l : List At) (a : At) (k : Nat), (∀ j, j < k → ltA (l.getD j default) a = true) → k ≤ l.length → (k < l.length → ltA (l.getD k default) a = false) →
    putA l a = if k < l.length ∧ l.getD k default = a then l else l.take k ++ [a] ++ l.drop k
  | [], a, k, _, hk, _ => by
    obtain rfl : k = 0 := by simpa using hk
    simp [putA]
  | x :: r, a, 0, _, _, h2 => by
    have hx : ltA x a = false := h2 (by simp)
    unfold putA
    rw [hx]
    by_cases e : x = a
    · subst e; simp
    · simp [e]
  | x :: r, a, k + 1, h1, hk, h2 => by
    have hx : ltA x a = true := h1 0 (by omega)
    have ih := put_at r a k (fun j hj => h1 (j + 1) (by omega)) (by simpa using hk) (fun h => h2 (by simpa using h))
    unfold putA
    rw [if_pos hx, ih]
    have e : (x :: r).getD (k + 1) default = r.getD k default := rfl
    rw [e]
    by_cases hc : k < r.length ∧ r.getD k default = a
    · rw [if_pos hc, if_pos ⟨by simpa using hc.1, hc.2⟩]
    · rw [if_neg hc, if_neg fun h => hc ⟨by simpa using h.1, h.2⟩]
      rfl
theorem rdk_take {w : World} {B : Nat} {A : Option Addr} {l : List At} (h : RdK kA w B A l) (k : Nat) : RdK kA w B A (l.take k) := fun hp => by
  rw [List.length_take] at hp
  obtain ⟨b, off, e, hlt, hc⟩ := h (by omega)
  refine ⟨b, off, e, hlt, fun j hj i u hu => hc j (by rw [List.length_take] at hj; omega) i u ?_⟩
  rw [List.length_take] at hj
  rwa [List.getD_eq_getElem?_getD, List.getElem?_take_of_lt (by omega), ← List.getD_eq_getElem?_getD] at hu
theorem rdk_drop {w : World} {B : Nat} {b off : Nat} {l : List At} (h : RdK kA w B (some ⟨b, off, none⟩) l) (k : Nat) : RdK kA w B (some ⟨b, off + k * 2, none⟩) (l.drop k) := fun hp => by
  rw [List.length_drop] at hp
  obtain ⟨b', off', e, hlt, hc⟩ := h (by omega)
  injection e with e
  injection e with e1 e2
  subst e1 e2
  refine ⟨b, off + k * 2, rfl, hlt, fun j hj i u hu => ?_⟩
  rw [List.length_drop] at hj
  have := hc (k + j) (by omega) i u (by rwa [List.getD_eq_getElem?_getD, List.getElem?_drop, ← List.getD_eq_getElem?_getD] at hu)
  rwa [show off + (k + j) * kA.size + i = off + k * 2 + j * kA.size + i from by show off + (k + j) * 2 + i = off + k * 2 + j * 2 + i; omega] at this
/-- append, of a row of a length that is told otherwise. -/
theorem step_appN {α : Type} [Inhabited α] (K : Kind α) {w : World} {ops : Array Oper} {o : Oper} {a : Act} {Q : Exit → Act → World → Prop} {K' : Act → World → Prop} {E : Prop} (hgd : o.guard = none) (s x : Operand)
    (ho : o.op = .call { callee := .builtin .append, args := #[s, x], argTypes := #[K.st, K.st] })
    {base B : Nat} {v : Value} {l : List α} {A : Option Addr} {c n : Nat} (m : List α) (hnn : n = m.length) (hs : a.eval s = v) (hown : RowK K w base v l) (hx : a.eval x = .slice A n c) (hr : RdK K w B A m) (hA : A = none → c = 0)
    (hn : l.length + m.length ≤ 1000000000) (hb : base ≤ w.heap.size)
    (h : ∀ v' w', RowK K w' base v' (l ++ m) → w.grownBy w' v.ownBlock → K' (a.put o.dst v') w') :
    if Region.wanted o (yielded ops a.tmps) = true then Oper.wp Try.prog o a w K' Q else E := by
  subst hnn
  exact step_app K hgd s x ho m hs hown hx hr hA hn hb h
theorem wpList_appN {α : Type} [Inhabited α] (K : Kind α) {w : World} {ops : Array Oper} {rest : List Oper} {o : Oper} {a : Act} {Q : Exit → Act → World → Prop} (hgd : o.guard = none) (s x : Operand)
    (ho : o.op = .call { callee := .builtin .append, args := #[s, x], argTypes := #[K.st, K.st] })
    {base B : Nat} {v : Value} {l : List α} {A : Option Addr} {c n : Nat} (m : List α) (hnn : n = m.length) (hs : a.eval s = v) (hown : RowK K w base v l) (hx : a.eval x = .slice A n c) (hr : RdK K w B A m) (hA : A = none → c = 0)
    (hn : l.length + m.length ≤ 1000000000) (hb : base ≤ w.heap.size)
    (h : ∀ v' w', RowK K w' base v' (l ++ m) → w.grownBy w' v.ownBlock → wpList Try.prog ops Q rest (a.put o.dst v') w') :
    wpList Try.prog ops Q (o :: rest) a w := by
  subst hnn
  exact wpList_app K hgd s x ho m hs hown hx hr hA hn hb h
theorem rdk_drop' {w w' : World} {b off : Nat} {l : List At} (h : RdK kA w w.heap.size (some ⟨b, off, none⟩) l) (hb : Below w.heap.size w w') (k : Nat) : RdK kA w' w'.heap.size (some ⟨b, off + k * 2, none⟩) (l.drop k) := rdk_drop (h.on hb) k
theorem rdk_nil {w : World} {B : Nat} {A : Option Addr} {m : List At} (h : m = []) : RdK kA w B A m := fun hp => by rw [h] at hp; simp at hp
def PutOut (w : World) (l : List At) (e : Ending) (w' : World) : Prop := ∃ v', e = .returned v' ∧ RdV w' v' l ∧ Below w.heap.size w w'
set_option maxRecDepth 100000 in
set_option maxHeartbeats 4000000 in
theorem refPut_any (l : List At) (a : At) (v : Value) (w : World) (hv : RdV w v l) (hl : l.length ≤ 1000000) :
    Calls Try.prog 62 #[v, a.val] w (PutOut w (putA l a)) := by
  have hb0 := (Below.refl w.heap.size w).alloc (Nat.le_refl _) (.cells #[.string (sx a.t), .string (sx a.v)] 29)
  have HX := Lib.hid (Blk.new w 29 #[.string (sx a.t), .string (sx a.v)])
  have HV := Lib.hid hv
  obtain ⟨A, c, rfl, ⟨hA, hlc, hcm⟩, hr⟩ := hv
  have HR := Lib.hid hr
  have HAC := Lib.hid hA
  have HB0 := Lib.hid hb0
  have HZ := Lib.hid (show w.heap.size < (w.alloc (.cells #[.string (sx a.t), .string (sx a.v)] 29)).heap.size by rw [World.size_alloc]; omega)
  obtain ⟨n, hn⟩ : ∃ n, n = l.length := ⟨_, rfl⟩
  rw [← hn] at hl hlc HV ⊢
  have HN := Lib.hid hn
  have hcm2 : c ≤ 9223372036854775807 := hcm
  clear hr hn hb0 hcm
  go_enter Try.func62, Try.ntmps62
  go_wp2
  generalize w.alloc (.cells #[.string (sx a.t), .string (sx a.v)] 29) = W at HX HB0 HZ ⊢
  go_loopw [5] (fun i wr => ∃ k : Nat, i = .int .i64 k ∧ k ≤ n ∧ Hid (Below W.heap.size W wr) ∧ Hid (∀ j, j < k → ltA (l.getD j default) a = true)) (fun i _ => n - (intOf i).toNat)
  case atStart => exact ⟨0, rfl, Nat.zero_le _, Lib.hid (Below.refl _ _), Lib.hid fun j hj => absurd hj (Nat.not_lt_zero _)⟩
  case round =>
    obtain ⟨k, rfl, hk, HB, HA⟩ := hrel
    have HBW := Lib.hid (HB0.out.trans (HB.out.mono (Nat.le_of_lt HZ.out)))
    have d0 := (HX.out.on HB.out).cell 0
    have d1 := (HX.out.on HB.out).cell 1
    by_cases hlt : k < n
    · obtain ⟨b, off, rfl, hbl, c0, c1⟩ := at_cells HR.out HBW.out (show k < l.length by have := HN.out; omega)
      have HXE : Hid (l.getD k default = l.getD k default) := Lib.hid rfl
      generalize hgx : l.getD k default = x at c0 c1 HXE
      have HGX := Lib.hid hgx
      have g1 := fun w => eqv x a w
      have g2 := fun op a' b' w => grd op a' b' x a w
      have h1 := fun W => less_any x a W
      have e0 := cell_regrown c0
      have e1 := cell_regrown c1
      have e2 := cell_regrown d0
      have e3 := cell_regrown d1
      generalize hla : ltA x a = r at h1
      have HLA := Lib.hid hla
      have cA := fun d os => Calls.regrown_of (h1 (grow (redrawn wr d) os))
      clear h1 c0 c1 d0 d1 hgx hla HXE
      cases r with
      | true =>
        go_wp2_with fail
        refine wp_region_quiet_below (by kernel_rfl) (by kernel_rfl) ?_
        repeat
          with_reducible refine wpQuiet_step (fun K hK => ?_)
          go_simp
          first
            | (with_reducible refine hK _ ?_; clear hK K)
            | (rw [if_neg (by first | decide | (intro h; cases h))]; with_reducible refine hK _ ?_; clear hK K)
            | (apply Exists.intro; refine ⟨fun _ => ?_, hK _ ?_⟩; (exact cA _ _); clear hK K)
        with_reducible refine wpQuiet_nil ?_
        rintro _ ⟨⟨dq, osq⟩, rfl⟩
        have HB2 := Lib.hid (HB.out.trans ((below_regrown wr dq osq).mono HB.out.size))
        clear e0 e1 e2 e3 cA g1 g2
        generalize grow (redrawn wr dq) osq = w2 at HB2 ⊢
        go_wp2
        go_roundw
        case rel => exact ⟨k + 1, by go_num, by omega, HB2, Lib.hid fun j hj => by
          by_cases e : j = k
          · subst e; rw [HGX.out]; exact HLA.out
          · exact HA.out j (by omega)⟩
        case measure => simp [intOf]; omega
      | false =>
        have HPA := Lib.hid (put_at l a k HA.out (by have := HN.out; omega) (fun _ => by rw [HGX.out]; exact HLA.out))
        rw [HGX.out] at HPA
        go_wp2_with fail
        refine wp_region_quiet_below (by kernel_rfl) (by kernel_rfl) ?_
        repeat
          with_reducible refine wpQuiet_step (fun K hK => ?_)
          go_simp
          first
            | (with_reducible refine hK _ ?_; clear hK K)
            | (rw [if_neg (by first | decide | (intro h; cases h))]; with_reducible refine hK _ ?_; clear hK K)
            | (apply Exists.intro; refine ⟨fun _ => ?_, hK _ ?_⟩; (exact cA _ _); clear hK K)
        with_reducible refine wpQuiet_nil ?_
        rintro _ ⟨⟨dq, osq⟩, rfl⟩
        have HB2 := Lib.hid (HB.out.trans ((below_regrown wr dq osq).mono HB.out.size))
        clear e0 e1 e2 e3 cA
        generalize grow (redrawn wr dq) osq = w2 at HB2 ⊢
        have HBW2 := Lib.hid (HB0.out.trans (HB2.out.mono (Nat.le_of_lt HZ.out)))
        obtain ⟨b2, off2, hA2, _, c0, c1⟩ := at_cells HR.out HBW2.out (show k < l.length by have := HN.out; omega)
        injection hA2 with hA2
        injection hA2 with hA3 hA4
        subst hA3 hA4
        rw [HGX.out] at c0 c1
        have d0 := (HX.out.on HB2.out).cell 0
        have d1 := (HX.out.on HB2.out).cell 1
        have e0 := cell_regrown c0
        have e1 := cell_regrown c1
        have e2 := cell_regrown d0
        have e3 := cell_regrown d1
        clear c0 c1 d0 d1
        generalize hxa : decide (x = a) = ra at g1
        have HXA := Lib.hid hxa
        clear hxa
        go_wp2_with fail
        cases ra with
        | true =>
          refine wp_region_quiet_below (by kernel_rfl) (by kernel_rfl) ?_
          repeat
            with_reducible refine wpQuiet_step (fun K hK => ?_)
            go_simp
            first
              | (with_reducible refine hK _ ?_; clear hK K)
              | (rw [if_neg (by first | decide | (intro h; cases h))]; with_reducible refine hK _ ?_; clear hK K)
          with_reducible refine wpQuiet_nil ?_
          rintro _ ⟨⟨dq, osq⟩, rfl⟩
          have HB3 := Lib.hid (HB2.out.trans ((below_regrown w2 dq osq).mono HB2.out.size))
          clear e0 e1 e2 e3 g1 g2
          generalize grow (redrawn w2 dq) osq = w3 at HB3 ⊢
          go_wp2
          go_ret
          rw [HPA.out, if_pos ⟨by have := HN.out; omega, of_decide_eq_true HXA.out⟩]
          have hb3 := HB0.out.trans (HB3.out.mono (Nat.le_of_lt HZ.out))
          exact ⟨_, rfl, HV.out.on hb3, hb3⟩
        | false =>
          refine wp_region_quiet_below (by kernel_rfl) (by kernel_rfl) ?_
          repeat
            with_reducible refine wpQuiet_step (fun K hK => ?_)
            go_simp
            first
              | (with_reducible refine hK _ ?_; clear hK K)
              | (rw [if_neg (by first | decide | (intro h; cases h))]; with_reducible refine hK _ ?_; clear hK K)
          with_reducible refine wpQuiet_nil ?_
          rintro _ ⟨⟨dq, osq⟩, rfl⟩
          have HB3 := Lib.hid (HB2.out.trans ((below_regrown w2 dq osq).mono HB2.out.size))
          clear e0 e1 e2 e3 g1 g2
          generalize grow (redrawn w2 dq) osq = w3 at HB3 ⊢
          rw [if_neg (fun h => of_decide_eq_false HXA.out h.2)] at HPA
          have hne : c ≠ k := by omega
          have HBWz := Lib.hid (HB0.out.trans (HB3.out.mono (Nat.le_of_lt HZ.out)))
          have hrt := rdk_take (HR.out.below HBWz.out) k
          have hlt0 : k = (l.take k).length := by rw [List.length_take]; have := HN.out; omega
          have hm1 : ([] : List At).length + (l.take k).length ≤ 1000000000 := by rw [← hlt0]; simp; omega
          have HT := Lib.hid (And.intro hrt (And.intro hlt0 hm1))
          clear hrt hlt0 hm1
          go_wp2_with (at_builtin; refine wpList_appN kA rfl _ _ rfl (l.take k) HT.out.2.1 rfl (nil_row kA _ w3.heap.size) rfl HT.out.1 HAC.out HT.out.2.2 (Nat.le_refl _) ?_; intro v1 w1 hrow1 hgr1)
          have hb1 := grown_none (B := w3.heap.size) hgr1 (Nat.le_refl _)
          have hrow1' : RowK kA w1 w3.heap.size v1 (l.take k) := hrow1
          have HR1 := Lib.hid hrow1'
          have hXb := HX.out.on HB3.out
          have HS : Hid (∀ W', Below w3.heap.size w3 W' → Below w3.heap.size w3 W' ∧ W'.cell? ⟨w.heap.size, 0, none⟩ = some (.string (sx a.t)) ∧ W'.cell? ⟨w.heap.size, 1, none⟩ = some (.string (sx a.v))) :=
            Lib.hid fun W' h => ⟨h, ((hXb.on h).cell 0).trans rfl, ((hXb.on h).cell 1).trans rfl⟩
          have x0 := (hXb.on hb1).cell 0
          have x1 := (hXb.on hb1).cell 1
          have hdl : n - k = (l.drop k).length := by rw [List.length_drop, ← HN.out]
          have hm2 : (l.take k).length + [a].length ≤ 1000000000 := by rw [List.length_take]; simp; omega
          have hm3 : (l.take k ++ [a]).length + (l.drop k).length ≤ 1000000000 := by rw [List.length_append, List.length_drop, List.length_take]; simp; have := HN.out; omega
          have HD := Lib.hid (And.intro hdl (And.intro hm2 hm3))
          have hz1 := hb1.alloc hb1.size (.cells #[.string (sx a.t), .string (sx a.v)] 29)
          have HG := Lib.hid (And.intro hb1 (And.intro hz1 (le_alloc_drew (o := .cells #[.string (sx a.t), .string (sx a.v)] 29) hb1.size)))
          clear hdl hm2 hm3 hXb hrow1 hrow1' hgr1 hz1
          go_wp2_with fail
          go_region_held3 (fun w' => Below w3.heap.size w3 w' ∧ w'.cell? ⟨w.heap.size, 0, none⟩ = some (.string (sx a.t)) ∧ w'.cell? ⟨w.heap.size, 1, none⟩ = some (.string (sx a.v)))
            (first | (refine HS.out _ ?_; first | assumption | exact below_drew HG.out.1 | exact below_drew HG.out.2.1) | go_keep)
            (first
              | (refine step_app kA (w := (w1.alloc _).drew) (by rfl) _ _ (by rfl) [a] (by rfl) (HR1.out.alloc _).drew (by rfl) (rd_one w1 a).drew (fun h => by cases h) HD.out.2.1 HG.out.2.2 ?_; intro v2 w2' hrow2 hgr2; have hb2 := row_below (HR1.out.alloc _).drew hgr2 HG.out.2.2; have hz2 := (below_drew HG.out.2.1).trans hb2)
              | (refine step_appN kA (w := w2') (by rfl) _ _ (by rfl) (l.drop k) HD.out.1 (by rfl) hrow2 (by rfl) (rdk_drop' HR.out (HBWz.out.trans (hz2.mono HBWz.out.size)) k) (fun h => by cases h) HD.out.2.2 hz2.size ?_; intro v3 w3' hrow3 hgr3; have hb3 := row_below hrow2 hgr3 hz2.size; have hz3 := hz2.trans hb3))
          all_goals
            go_wp2_with fail
            go_ret
            rw [HPA.out]
            exact ⟨_, rfl, RowK.rdv hrow3, HBWz.out.trans (hz3.mono HBWz.out.size)⟩
    · have hkn : k = n := by omega
      subst hkn
      have HLD : Hid (l.drop k = []) := Lib.hid (by rw [HN.out, List.drop_length])
      have HPA := Lib.hid (put_at l a k HA.out (by have := HN.out; omega) (fun h => absurd h (by have := HN.out; omega)))
      rw [if_neg (fun h => absurd h.1 (by have := HN.out; omega))] at HPA
      clear d0 d1
      cases A with
      | none =>
        have hc0 := HAC.out rfl
        subst hc0
        have hk0 : k = 0 := by omega
        subst hk0
        go_wp2_with fail
        refine wp_region_quiet_below (by kernel_rfl) (by kernel_rfl) ?_
        repeat
          with_reducible refine wpQuiet_step (fun K hK => ?_)
          go_simp
          first
            | (with_reducible refine hK _ ?_; clear hK K)
            | (rw [if_neg (by first | decide | (intro h; cases h))]; with_reducible refine hK _ ?_; clear hK K)
        with_reducible refine wpQuiet_nil ?_
        rintro _ ⟨⟨dq, osq⟩, rfl⟩
        have HB2 := Lib.hid (HB.out.trans ((below_regrown wr dq osq).mono HB.out.size))
        clear hk
        generalize grow (redrawn wr dq) osq = w2 at HB2 ⊢
        go_wp2_with fail
        refine wp_region_quiet_below (by kernel_rfl) (by kernel_rfl) ?_
        repeat
          with_reducible refine wpQuiet_step (fun K hK => ?_)
          go_simp
          first
            | (with_reducible refine hK _ ?_; clear hK K)
            | (rw [if_neg (by first | decide | (intro h; cases h))]; with_reducible refine hK _ ?_; clear hK K)
        with_reducible refine wpQuiet_nil ?_
        rintro _ ⟨⟨dq, osq⟩, rfl⟩
        have HB3 := Lib.hid (HB2.out.trans ((below_regrown w2 dq osq).mono HB2.out.size))
        clear HA
        generalize grow (redrawn w2 dq) osq = w3 at HB3 ⊢
        have HBWz := Lib.hid (HB0.out.trans (HB3.out.mono (Nat.le_of_lt HZ.out)))
        have hb1 := Below.refl w3.heap.size w3
        have HR1 : Hid (RowK kA w3 w3.heap.size (.slice none 0 0) []) := Lib.hid (nil_row kA w3 w3.heap.size)
        have hXb := HX.out.on HB3.out
        have HS : Hid (∀ W', Below w3.heap.size w3 W' → Below w3.heap.size w3 W' ∧ W'.cell? ⟨w.heap.size, 0, none⟩ = some (.string (sx a.t)) ∧ W'.cell? ⟨w.heap.size, 1, none⟩ = some (.string (sx a.v))) :=
          Lib.hid fun W' h => ⟨h, ((hXb.on h).cell 0).trans rfl, ((hXb.on h).cell 1).trans rfl⟩
        have x0 := (hXb.on hb1).cell 0
        have x1 := (hXb.on hb1).cell 1
        have hdl : 0 = (l.drop 0).length := by rw [HLD.out]; rfl
        have hm2 : (([] : List At)).length + [a].length ≤ 1000000000 := by simp
        have hm3 : (([] : List At) ++ [a]).length + (l.drop 0).length ≤ 1000000000 := by rw [HLD.out]; simp
        have HD := Lib.hid (And.intro hdl (And.intro hm2 hm3))
        have hz1 := hb1.alloc hb1.size (.cells #[.string (sx a.t), .string (sx a.v)] 29)
        have HG := Lib.hid (And.intro hb1 (And.intro hz1 (le_alloc_drew (o := .cells #[.string (sx a.t), .string (sx a.v)] 29) hb1.size)))
        clear hdl hm2 hm3 hXb hz1
        go_wp2_with fail
        go_region_held3 (fun w' => Below w3.heap.size w3 w' ∧ w'.cell? ⟨w.heap.size, 0, none⟩ = some (.string (sx a.t)) ∧ w'.cell? ⟨w.heap.size, 1, none⟩ = some (.string (sx a.v)))
          (first | (refine HS.out _ ?_; first | assumption | exact below_drew HG.out.1 | exact below_drew HG.out.2.1) | go_keep)
          (first
            | (refine step_app kA (w := (w3.alloc _).drew) (by rfl) _ _ (by rfl) [a] (by rfl) (HR1.out.alloc _).drew (by rfl) (rd_one w3 a).drew (fun h => by cases h) HD.out.2.1 HG.out.2.2 ?_; intro v2 w2' hrow2 hgr2; have hb2 := row_below (HR1.out.alloc _).drew hgr2 HG.out.2.2; have hz2 := (below_drew HG.out.2.1).trans hb2)
            | (refine step_appN kA (w := w2') (by rfl) _ _ (by rfl) (l.drop 0) HD.out.1 (by rfl) hrow2 (by rfl) (rdk_nil (B := 0) HLD.out) (fun _ => rfl) HD.out.2.2 hz2.size ?_; intro v3 w3' hrow3 hgr3; have hb3 := row_below hrow2 hgr3 hz2.size; have hz3 := hz2.trans hb3))
        all_goals
          go_wp2_with fail
          go_ret
          rw [HPA.out]
          exact ⟨_, rfl, RowK.rdv hrow3, HBWz.out.trans (hz3.mono HBWz.out.size)⟩
      | some ad =>
        obtain ⟨ab, ao, asp⟩ := ad
        go_wp2_with fail
        refine wp_region_quiet_below (by kernel_rfl) (by kernel_rfl) ?_
        repeat
          with_reducible refine wpQuiet_step (fun K hK => ?_)
          go_simp
          first
            | (with_reducible refine hK _ ?_; clear hK K)
            | (rw [if_neg (by first | decide | (intro h; cases h))]; with_reducible refine hK _ ?_; clear hK K)
        with_reducible refine wpQuiet_nil ?_
        rintro _ ⟨⟨dq, osq⟩, rfl⟩
        have HB2 := Lib.hid (HB.out.trans ((below_regrown wr dq osq).mono HB.out.size))
        clear hk
        generalize grow (redrawn wr dq) osq = w2 at HB2 ⊢
        by_cases hck : c = k
        · subst hck
          go_wp2_with fail
          refine wp_region_quiet_below (by kernel_rfl) (by kernel_rfl) ?_
          repeat
            with_reducible refine wpQuiet_step (fun K hK => ?_)
            go_simp
            first
              | (with_reducible refine hK _ ?_; clear hK K)
              | (rw [if_neg (by first | decide | (intro h; cases h))]; with_reducible refine hK _ ?_; clear hK K)
          with_reducible refine wpQuiet_nil ?_
          rintro _ ⟨⟨dq, osq⟩, rfl⟩
          have HB3 := Lib.hid (HB2.out.trans ((below_regrown w2 dq osq).mono HB2.out.size))
          clear HA
          generalize grow (redrawn w2 dq) osq = w3 at HB3 ⊢
          have HBWz := Lib.hid (HB0.out.trans (HB3.out.mono (Nat.le_of_lt HZ.out)))
          have hrt := rdk_take (HR.out.below HBWz.out) c
          have hlt0 : c = (l.take c).length := by rw [List.length_take]; have := HN.out; omega
          have hm1 : ([] : List At).length + (l.take c).length ≤ 1000000000 := by rw [← hlt0]; simp; omega
          have HT := Lib.hid (And.intro hrt (And.intro hlt0 hm1))
          clear hrt hlt0 hm1
          go_wp2_with (at_builtin; refine wpList_appN kA rfl _ _ rfl (l.take c) HT.out.2.1 rfl (nil_row kA _ w3.heap.size) rfl HT.out.1 HAC.out HT.out.2.2 (Nat.le_refl _) ?_; intro v1 w1 hrow1 hgr1)
          have hb1 := grown_none (B := w3.heap.size) hgr1 (Nat.le_refl _)
          have hrow1' : RowK kA w1 w3.heap.size v1 (l.take c) := hrow1
          have HR1 := Lib.hid hrow1'
          have hXb := HX.out.on HB3.out
          have HS : Hid (∀ W', Below w3.heap.size w3 W' → Below w3.heap.size w3 W' ∧ W'.cell? ⟨w.heap.size, 0, none⟩ = some (.string (sx a.t)) ∧ W'.cell? ⟨w.heap.size, 1, none⟩ = some (.string (sx a.v))) :=
            Lib.hid fun W' h => ⟨h, ((hXb.on h).cell 0).trans rfl, ((hXb.on h).cell 1).trans rfl⟩
          have x0 := (hXb.on hb1).cell 0
          have x1 := (hXb.on hb1).cell 1
          have hdl : 0 = (l.drop c).length := by rw [HLD.out]; rfl
          have hm2 : (l.take c).length + [a].length ≤ 1000000000 := by rw [List.length_take]; simp; omega
          have hm3 : (l.take c ++ [a]).length + (l.drop c).length ≤ 1000000000 := by rw [List.length_append, List.length_drop, List.length_take]; simp; have := HN.out; omega
          have HD := Lib.hid (And.intro hdl (And.intro hm2 hm3))
          have hz1 := hb1.alloc hb1.size (.cells #[.string (sx a.t), .string (sx a.v)] 29)
          have HG := Lib.hid (And.intro hb1 (And.intro hz1 (le_alloc_drew (o := .cells #[.string (sx a.t), .string (sx a.v)] 29) hb1.size)))
          clear hdl hm2 hm3 hXb hrow1 hrow1' hgr1 hz1
          go_wp2_with fail
          go_region_held3 (fun w' => Below w3.heap.size w3 w' ∧ w'.cell? ⟨w.heap.size, 0, none⟩ = some (.string (sx a.t)) ∧ w'.cell? ⟨w.heap.size, 1, none⟩ = some (.string (sx a.v)))
            (first | (refine HS.out _ ?_; first | assumption | exact below_drew HG.out.1 | exact below_drew HG.out.2.1) | go_keep)
            (first
              | (refine step_app kA (w := (w1.alloc _).drew) (by rfl) _ _ (by rfl) [a] (by rfl) (HR1.out.alloc _).drew (by rfl) (rd_one w1 a).drew (fun h => by cases h) HD.out.2.1 HG.out.2.2 ?_; intro v2 w2' hrow2 hgr2; have hb2 := row_below (HR1.out.alloc _).drew hgr2 HG.out.2.2; have hz2 := (below_drew HG.out.2.1).trans hb2)
              | (refine step_appN kA (w := w2') (by rfl) _ _ (by rfl) (l.drop c) HD.out.1 (by rfl) hrow2 (by rfl) (rdk_nil (B := 0) HLD.out) (fun h => by cases h) HD.out.2.2 hz2.size ?_; intro v3 w3' hrow3 hgr3; have hb3 := row_below hrow2 hgr3 hz2.size; have hz3 := hz2.trans hb3))
          all_goals
            go_wp2_with fail
            go_ret
            rw [HPA.out]
            exact ⟨_, rfl, RowK.rdv hrow3, HBWz.out.trans (hz3.mono HBWz.out.size)⟩
        · go_wp2_with fail
          refine wp_region_quiet_below (by kernel_rfl) (by kernel_rfl) ?_
          repeat
            with_reducible refine wpQuiet_step (fun K hK => ?_)
            go_simp
            first
              | (with_reducible refine hK _ ?_; clear hK K)
              | (rw [if_neg (by first | decide | (intro h; cases h))]; with_reducible refine hK _ ?_; clear hK K)
          with_reducible refine wpQuiet_nil ?_
          rintro _ ⟨⟨dq, osq⟩, rfl⟩
          have HB3 := Lib.hid (HB2.out.trans ((below_regrown w2 dq osq).mono HB2.out.size))
          clear HA
          generalize grow (redrawn w2 dq) osq = w3 at HB3 ⊢
          have HBWz := Lib.hid (HB0.out.trans (HB3.out.mono (Nat.le_of_lt HZ.out)))
          have hrt := rdk_take (HR.out.below HBWz.out) k
          have hlt0 : k = (l.take k).length := by rw [List.length_take]; have := HN.out; omega
          have hm1 : ([] : List At).length + (l.take k).length ≤ 1000000000 := by rw [← hlt0]; simp; omega
          have HT := Lib.hid (And.intro hrt (And.intro hlt0 hm1))
          clear hrt hlt0 hm1
          go_wp2_with (at_builtin; refine wpList_appN kA rfl _ _ rfl (l.take k) HT.out.2.1 rfl (nil_row kA _ w3.heap.size) rfl HT.out.1 HAC.out HT.out.2.2 (Nat.le_refl _) ?_; intro v1 w1 hrow1 hgr1)
          have hb1 := grown_none (B := w3.heap.size) hgr1 (Nat.le_refl _)
          have hrow1' : RowK kA w1 w3.heap.size v1 (l.take k) := hrow1
          have HR1 := Lib.hid hrow1'
          have hXb := HX.out.on HB3.out
          have HS : Hid (∀ W', Below w3.heap.size w3 W' → Below w3.heap.size w3 W' ∧ W'.cell? ⟨w.heap.size, 0, none⟩ = some (.string (sx a.t)) ∧ W'.cell? ⟨w.heap.size, 1, none⟩ = some (.string (sx a.v))) :=
            Lib.hid fun W' h => ⟨h, ((hXb.on h).cell 0).trans rfl, ((hXb.on h).cell 1).trans rfl⟩
          have x0 := (hXb.on hb1).cell 0
          have x1 := (hXb.on hb1).cell 1
          have hdl : 0 = (l.drop k).length := by rw [HLD.out]; rfl
          have hm2 : (l.take k).length + [a].length ≤ 1000000000 := by rw [List.length_take]; simp; omega
          have hm3 : (l.take k ++ [a]).length + (l.drop k).length ≤ 1000000000 := by rw [List.length_append, List.length_drop, List.length_take]; simp; have := HN.out; omega
          have HD := Lib.hid (And.intro hdl (And.intro hm2 hm3))
          have hz1 := hb1.alloc hb1.size (.cells #[.string (sx a.t), .string (sx a.v)] 29)
          have HG := Lib.hid (And.intro hb1 (And.intro hz1 (le_alloc_drew (o := .cells #[.string (sx a.t), .string (sx a.v)] 29) hb1.size)))
          clear hdl hm2 hm3 hXb hrow1 hrow1' hgr1 hz1
          go_wp2_with fail
          go_region_held3 (fun w' => Below w3.heap.size w3 w' ∧ w'.cell? ⟨w.heap.size, 0, none⟩ = some (.string (sx a.t)) ∧ w'.cell? ⟨w.heap.size, 1, none⟩ = some (.string (sx a.v)))
            (first | (refine HS.out _ ?_; first | assumption | exact below_drew HG.out.1 | exact below_drew HG.out.2.1) | go_keep)
            (first
              | (refine step_app kA (w := (w1.alloc _).drew) (by rfl) _ _ (by rfl) [a] (by rfl) (HR1.out.alloc _).drew (by rfl) (rd_one w1 a).drew (fun h => by cases h) HD.out.2.1 HG.out.2.2 ?_; intro v2 w2' hrow2 hgr2; have hb2 := row_below (HR1.out.alloc _).drew hgr2 HG.out.2.2; have hz2 := (below_drew HG.out.2.1).trans hb2)
              | (refine step_appN kA (w := w2') (by rfl) _ _ (by rfl) (l.drop k) HD.out.1 (by rfl) hrow2 (by rfl) (rdk_nil (B := 0) HLD.out) (fun h => by cases h) HD.out.2.2 hz2.size ?_; intro v3 w3' hrow3 hgr3; have hb3 := row_below hrow2 hgr3 hz2.size; have hz3 := hz2.trans hb3))
          all_goals
            go_wp2_with fail
            go_ret
            rw [HPA.out]
            exact ⟨_, rfl, RowK.rdv hrow3, HBWz.out.trans (hz3.mono HBWz.out.size)⟩
end Go.Proofs.Ytlhbnmaalhainaa
