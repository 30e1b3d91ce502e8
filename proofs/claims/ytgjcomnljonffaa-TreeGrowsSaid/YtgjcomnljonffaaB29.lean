/- remove: a key let go under a node. -/
import Derived.Test.YtgjcomnljonffaaB28
namespace Go.Proofs.Ytgjcomnljonffaa.Tlv
open Go.RowKit
set_option maxRecDepth 100000
set_option linter.unusedVariables false
set_option linter.unusedSimpArgs false
theorem NodeAt.on0 {w w' : World} {d : Nd} (a : NodeAt w d) (hb : Below w.heap.size w w') : NodeAt w' d := a.kept fun k hk => hb.block k (by obtain ⟨t, cs, q, _⟩ := a.typed3 hk; exact q.lt)
def RemOut (t h : Nat) (d : Nd) (key : Key) (w : World) (e : Ending) (w' : World) : Prop := e = .returned (.tuple #[]) ∧ ∃ d', RemPost t h d key w w' d'
theorem get_none_of {l : List It} {key : Key} {i : Nat} (h1 : ∀ x ∈ l.take i, klt x.k key) (h2 : ∀ x ∈ l.drop i, klt key x.k) : getL key (kvs l) = none := by
  rw [← List.take_append_drop i l]
  simp only [kvs, List.map_append]
  exact getL_no (fun x hx => by obtain ⟨y, hy, rfl⟩ := List.mem_map.1 hx; exact h1 y hy) (fun x hx => by obtain ⟨y, hy, rfl⟩ := List.mem_map.1 hx; exact h2 y hy)
theorem get_of_last {t h : Nat} {w : World} {c : Nd} {r : List It} {y : It} (a : TS t h w c) (hy : flat h c = r ++ [y]) : getL y.k (kvs (flat h c)) ≠ none := by
  have hs := a.srt
  rw [hy] at hs ⊢
  have e1 : kvs (r ++ [y]) = kvs r ++ (y.k, y.v) :: [] := by simp [It.kv]
  rw [e1] at hs ⊢
  have hm := srt_mid hs
  rw [getL_at hm.1 hm.2]
  simp
theorem get_of_first {t h : Nat} {w : World} {c : Nd} {r : List It} {y : It} (a : TS t h w c) (hy : flat h c = y :: r) : getL y.k (kvs (flat h c)) ≠ none := by
  have hs := a.srt
  rw [hy] at hs ⊢
  have e1 : kvs (y :: r) = kvs [] ++ (y.k, y.v) :: kvs r := by simp [It.kv]
  rw [e1] at hs ⊢
  have hm := srt_mid hs
  rw [getL_at hm.1 hm.2]
  simp
theorem pair_kid1 {t h : Nat} {w : World} {d c1 c2 : Nd} {i1 i2 : List It} {m : It} {k1 k2 : List Nd} (a : TS t (h + 1) w d) (p : Pair d i1 m i2 k1 c1 c2 k2) : TS t h w c1 := a.kid (i1 := i1) (i2 := m :: i2) (k1 := k1) (k2 := c2 :: k2) p.its p.kids p.len
theorem pair_kid2 {t h : Nat} {w : World} {d c1 c2 : Nd} {i1 i2 : List It} {m : It} {k1 k2 : List Nd} (a : TS t (h + 1) w d) (p : Pair d i1 m i2 k1 c1 c2 k2) : TS t h w c2 := a.kid (i1 := i1 ++ [m]) (i2 := i2) (k1 := k1 ++ [c1]) (k2 := k2) (by rw [p.its]; simp) (by rw [p.kids]; simp) (by simp [p.len])
set_option maxHeartbeats 8000000 in
theorem remove_any (T h0 s : Nat) (y z : Value) (d0 : Nd) (KA : Option Addr) (nk0 ck : Nat) (key0 : Key) (w : World) (hT : Blk w T 61 #[.int .i64 (s + 1 : Nat), y, z]) (a0 : TS (s + 1) h0 w d0) (hs : 1 ≤ s ∧ s ≤ 63)
    (hget : getL key0 (kvs (flat h0 d0)) ≠ none) (hroot : 0 < h0 → 1 ≤ d0.its.length) (hkey : KAt w KA key0) (hnk : nk0 = key0.length) :
    Calls Try.prog 29 #[.pointer (some ⟨T, 0, none⟩), .pointer (some ⟨d0.n, 0, none⟩), .slice KA nk0 ck] w (RemOut (s + 1) h0 d0 key0 w) := by
  have H0 := Lib.hid (And.intro hT (And.intro a0 (And.intro hget (And.intro hroot (And.intro hkey hnk)))))
  have HS := Lib.hid hs
  clear hT a0 hs hget hroot hkey hnk
  go_enter Try.func29, Try.ntmps29
  go_upto_region 0 with fail
  go_loopg [1, 2] h0 (fun g s1 s2 wr => ∃ (h : Nat) (d : Nd) (A : Option Addr) (n c : Nat) (key : Key), s1 = .pointer (some ⟨d.n, 0, none⟩) ∧ s2 = .slice A n c ∧ h ≤ g ∧ Hid (Blk wr T 61 #[.int .i64 (s + 1 : Nat), y, z] ∧ KAt wr A key ∧ n = key.length ∧ TS (s + 1) h wr d ∧
    getL key (kvs (flat h d)) ≠ none ∧ (0 < h → 1 ≤ d.its.length) ∧ ∀ w' d', RemPost (s + 1) h d key wr w' d' → ∃ d1, RemPost (s + 1) h0 d0 key0 w w' d1))
  case atStart => exact ⟨h0, d0, KA, nk0, ck, key0, rfl, rfl, Nat.le_refl _, Lib.hid ⟨H0.out.1, H0.out.2.2.2.2.1, H0.out.2.2.2.2.2, H0.out.2.1, H0.out.2.2.1, H0.out.2.2.2.1, fun w' d' p => ⟨d', p⟩⟩⟩
  case round =>
    obtain ⟨h, d, KA, nk, ck, key, rfl, rfl, hg, HI⟩ := hrel
    obtain ⟨A, c, B, e, e1, e2⟩ := HI.out.2.2.2.1.at'.node.form
    have HV := Lib.hid (And.intro e1 e2)
    have hN := HI.out.2.2.2.1.at'.node.blk
    rw [e1, e2] at hN
    have hri := HI.out.2.2.2.1.at'.node.its
    rw [e1] at hri
    have HF := Lib.hid (find_any d.n A KA d.its.length c nk ck (.slice B d.kids.length e) d.its key wr hN hri.rdA.1 rfl (by have := HI.out.2.2.2.1.bal.most; have := HS.out; omega) HI.out.2.2.2.1.rise HI.out.2.2.2.1.itsKeys HI.out.2.1 HI.out.2.2.1)
    clear hri e1 e2 hN
    go_upto_region 2 with (go_at_call 35; (with_reducible refine HF.out.mono ?_); rintro e w1 ⟨i, is, rfl, hf, hb1⟩; dsimp only)
    clear HF
    have HW := Lib.hid (And.intro (HI.out.1.on hb1) (And.intro (HI.out.2.1.on hb1) (And.intro (HI.out.2.2.2.1.on hb1) (And.intro (Chg.below HI.out.2.2.2.1 hb1) hf))))
    have hN := HW.out.2.2.1.at'.node.blk
    rw [HV.out.1, HV.out.2] at hN
    have hri := HW.out.2.2.1.at'.node.its
    rw [HV.out.1] at hri
    have hrk := HW.out.2.2.1.at'.node.kids
    rw [HV.out.2] at hrk
    have hlf := leaf_any d.n d.kids.length e _ B w1 hN
    have p0 := hN.cell 0
    have p1 := hN.cell 1
    simp only [List.getElem?_toArray, List.getElem?_cons_zero, List.getElem?_cons_succ] at p0 p1
    have HNN := Lib.hid (And.intro hN (And.intro hri hrk))
    clear hf hb1 hN hri hrk
    cases is with
    | true =>
      obtain ⟨hil, hkk⟩ := HW.out.2.2.2.2.yes rfl
      have hcut := cut_at hil
      generalize hx : d.its.getD i default = x at hkk hcut
      have hti : (d.its.take i).length = i := by simp; omega
      have HX := Lib.hid (And.intro hcut (And.intro hkk (And.intro hti hil)))
      have hil2 : i ≤ 200 := by have := HW.out.2.2.1.bal.most; have := HS.out; omega
      have hwi : IntKind.i64.wrap ((i : Int) + 1) = (i : Int) + 1 := by rw [IntKind.wrap_i64]; omega
      clear hkk hcut hx hti
      cases h with
      | zero =>
        have hk0 : d.kids = [] := HW.out.2.2.1.bal.1
        rw [show decide (d.kids.length = 0) = true by rw [hk0]; rfl] at hlf
        have HLF := Lib.hid hlf
        have hr := HNN.out.2.1
        rw [HX.out.1] at hr
        have hdl := del_I 0 (d.its.take i ++ x :: d.its.drop (i + 1)).length c A (d.its.take i) (d.its.drop (i + 1)) x w1 hr (by rw [← HX.out.1]; have := HW.out.2.2.1.bal.most; have := HS.out; omega)
        rw [HX.out.2.2.1, ← HX.out.1, show ((i + 1 : Nat) : Int) = (i : Int) + 1 by omega] at hdl
        have HDL := Lib.hid hdl
        have HPO := Lib.hid (own_ne HNN.out.2.1 HNN.out.1 (by decide))
        clear hlf hk0 hr hdl p1
        go_wp2_with (first
          | (go_at_call 30; (with_reducible refine HLF.out.mono ?_); rintro e w2 ⟨rfl, rfl⟩; dsimp only)
          | (go_at_call 38; (with_reducible refine HDL.out.mono ?_); rintro e w4 ⟨v', rfl, hr4, hg4, ho4⟩; dsimp only; clear HDL p0; obtain ⟨A6, c6, n6, hn6, rfl, _, _⟩ := hr4.rdn; have kP4 := Lib.hid (HNN.out.1.grown hg4 (fun e => HPO.out e.symm)); have p0 := kP4.out.cell 0; have p0f := kP4.out.frozen 0; simp only [List.getElem?_toArray, List.getElem?_cons_zero, List.getElem?_cons_succ] at p0; have H4 := Lib.hid (And.intro hr4 (And.intro hg4 ho4)); clear hr4 hg4 ho4 hn6))
        refine bodyPost_end (v := .tuple #[]) (by simp [results, Try.f29, go_sem]) rfl ⟨rfl, ?_⟩
        have kPe : Blk (w4.setCell ⟨d.n, 0, none⟩ (.slice A6 n6 c6)) d.n 59 #[.slice A6 n6 c6, .slice B d.kids.length e] := by simpa using kP4.out.set_ 0 (.slice A6 n6 c6)
        have re : RowK kI (w4.setCell ⟨d.n, 0, none⟩ (.slice A6 n6 c6)) 0 (.slice A6 n6 c6) (d.its.take i ++ d.its.drop (i + 1)) := H4.out.1.kept' fun k hk => Below.heap_setCell _ _ _ _ (fun e => by
          obtain ⟨cs, q⟩ := H4.out.1.own_blk hk
          rw [e] at q
          exact absurd (blk_ty kP4.out q) (by decide))
        have Fe : Fr (fun k => k = d.n ∨ d.vi.ownBlock = some k) w1 (w4.setCell ⟨d.n, 0, none⟩ (.slice A6 n6 c6)) := Fr.set (S := fun k => k = d.n ∨ d.vi.ownBlock = some k) ((Fr.refl w1).grown H4.out.2.1 (fun k hk _ => .inr (by rw [HV.out.1]; exact hk))) (.inl rfl) _
        rw [← HV.out.2] at kPe
        obtain ⟨d', q⟩ := rem_leaf HW.out.2.2.1 HX.out.1 Fe kPe re (by rw [H4.out.2.2, HV.out.1])
        rw [HX.out.2.1] at q
        exact HI.out.2.2.2.2.2.2 _ _ (q.before HW.out.2.2.2.1 rfl q.len)
      | succ h =>
        have hbal : d.kids.length = d.its.length + 1 := HW.out.2.2.1.bal.1
        rw [show decide (d.kids.length = 0) = false from decide_eq_false (by omega)] at hlf
        have HLF := Lib.hid hlf
        obtain ⟨m, c1, c2, k2, hp, hk1, hk2, hm⟩ := pair_at HW.out.2.2.1.bal hil
        have hmx : m = x := by
          have h1 := congrArg (fun l => l[i]?) HX.out.1
          have h2 := getD_mid (d.its.take i) (d.its.drop (i + 1)) x
          rw [HX.out.2.2.1] at h2
          have h3 : d.its[i]? = some x := h1.trans h2
          rw [hm] at h3
          injection h3
        subst hmx
        have ac1 := pair_kid1 HW.out.2.2.1 hp
        have ac2 := pair_kid2 HW.out.2.2.1 hp
        obtain ⟨gK, rfl, x0⟩ := HNN.out.2.2.cellP (j := i) (by omega)
        obtain ⟨gK', eK, x1⟩ := HNN.out.2.2.cellP (j := i + 1) (by omega)
        obtain rfl : gK = gK' := by injection eK with eK; injection eK
        have hcn1 : (d.kids.map Nd.n).getD i 0 = c1.n := by rw [List.getD_eq_getElem?_getD, List.getElem?_map, hk1]; rfl
        have hcn2 : (d.kids.map Nd.n).getD (i + 1) 0 = c2.n := by rw [List.getD_eq_getElem?_getD, List.getElem?_map, hk2]; rfl
        rw [hcn1] at x0
        rw [hcn2] at x1
        have H5 := Lib.hid (And.intro hcn1 hcn2)
        clear hcn1 hcn2
        have hsp1 := spare_of HW.out.1 ac1 HS.out rfl
        have hsp2 := spare_of HW.out.1 ac2 HS.out rfl
        have hkl := HW.out.2.2.1.bal.2.2
        have hc1l := (hkl c1 (by rw [hp.kids]; simp)).2
        have hc2l := (hkl c2 (by rw [hp.kids]; simp)).2
        have HP := Lib.hid (And.intro hp (And.intro ac1 (And.intro ac2 (And.intro hbal (And.intro hc1l hc2l)))))
        have hj1 : (i : Int) < (d.kids.length : Int) := by omega
        have hj2 : i < d.kids.length := by omega
        have hj3 : (i : Int) + 1 < (d.kids.length : Int) := by omega
        have hj4 : i + 1 < d.kids.length := by omega
        have hj5 : ((i : Int) + 1).toNat = i + 1 := by omega
        have hj6 : (0 : Int) ≤ (i : Int) + 1 := by omega
        have hj7 : (i : Int) < (d.its.length : Int) := by omega
        have p1a : ∀ m, (w1.drewN m).cell? ⟨d.n, 1, none⟩ = some (.slice (some ⟨gK, 0, none⟩) d.kids.length e) := fun m => p1
        have p1b : ∀ m n, ((w1.drewN m).drewN n).cell? ⟨d.n, 1, none⟩ = some (.slice (some ⟨gK, 0, none⟩) d.kids.length e) := fun m n => p1
        have x0a : ∀ m, (w1.drewN m).cell? ⟨gK, i, none⟩ = some (.pointer (some ⟨c1.n, 0, none⟩)) := fun m => x0
        have x1a : ∀ m, (w1.drewN m).cell? ⟨gK, i + 1, none⟩ = some (.pointer (some ⟨c2.n, 0, none⟩)) := fun m => x1
        clear hlf hbal hp hk1 hk2 hm ac1 ac2 eK hkl hc1l hc2l
        by_cases h1 : s + 1 ≤ c1.its.length
        · rw [show decide (s + 1 ≤ c1.its.length) = true from decide_eq_true h1] at hsp1
          have HSP1 := Lib.hid hsp1
          have HL1 := Lib.hid h1
          clear hsp1 hsp2 h1
          go_upto_region 5 with (first
            | (go_at_call 30; (with_reducible refine HLF.out.mono ?_); rintro e w2 ⟨rfl, rfl⟩; dsimp only)
            | (go_at_call 39; (with_reducible refine (HSP1.out _ (by first | exact Below.refl _ _ | exact below_drewN (Below.refl _ _) _)).mono ?_); rintro e w2 ⟨rfl, m9, rfl⟩; dsimp only))
          obtain ⟨W2, hW2⟩ : ∃ W2, W2 = w1.drewN m9 := ⟨_, rfl⟩
          rw [← hW2]
          have hbw : Below w1.heap.size w1 W2 := by rw [hW2]; exact below_drewN (Below.refl _ _) m9
          have hWT := HW.out.1.on hbw
          have hWa := HW.out.2.2.1.on hbw
          have hWc := HP.out.2.1.on hbw
          have hN2 := HNN.out.1.on hbw
          have hr2 := HNN.out.2.1.on hbw
          have hdr : Below W2.heap.size W2 W2.drew := below_drewN (Below.refl _ _) 1
          have hcl := last_any (s + 1) h c1 W2.drew (hWc.on hdr) (by have := HL1.out; omega) (by have := HS.out; omega)
          obtain ⟨gI, rfl, m0, m1⟩ := hr2.cellI (j := i) HX.out.2.2.2
          have hIt : ∀ W, Below W2.heap.size W2 W → W.cell? ⟨d.n, 0, none⟩ = some (.slice (some ⟨gI, 0, none⟩) d.its.length c) ∧ W.frozen? ⟨gI, i * 2, none⟩ = false ∧ W.frozen? ⟨gI, i * 2 + 1, none⟩ = false ∧ (∃ u, W.cell? ⟨gI, i * 2, none⟩ = some u) ∧ ∃ u, W.cell? ⟨gI, i * 2 + 1, none⟩ = some u := fun W hb => by
            obtain ⟨cs, q⟩ := hr2.own_blk (k := gI) rfl
            have q' := q.on hb
            refine ⟨by simpa using (hN2.on hb).cell 0, q'.frozen _, q'.frozen _, ?_, ?_⟩
            · exact ⟨_, (hb.cell (p := ⟨gI, i * 2, none⟩) q.lt).trans m0⟩
            · exact ⟨_, (hb.cell (p := ⟨gI, i * 2 + 1, none⟩) q.lt).trans m1⟩
          have p0 := (hIt W2 (Below.refl _ _)).1
          have p1 := hN2.cell 1
          have x02 : W2.cell? ⟨gK, i, none⟩ = some (.pointer (some ⟨c1.n, 0, none⟩)) := by rw [hW2]; exact x0
          simp only [List.getElem?_toArray, List.getElem?_cons_zero, List.getElem?_cons_succ] at p1
          have HCL := Lib.hid hcl
          have HIT := Lib.hid hIt
          have H2 := Lib.hid (And.intro hWT (And.intro hWa (And.intro hWc (And.intro hdr (And.intro hbw (And.intro hN2 hr2))))))
          have hil3 : i < d.its.length := HX.out.2.2.2
          clear hWT hWa hWc hN2 hr2 hdr hcl hIt hbw hW2 m0 m1 x0 x1 x0a x1a p1a p1b HSP1 HLF
          go_cut [1, 6] (fun s1 s6 wx => s1 = .pointer (some ⟨d.n, 0, none⟩) ∧ s6 = .int .i64 i ∧ ∃ yy r, flat h c1 = r ++ [yy] ∧ NbAt wx { d.nb with its := d.its.take i ++ yy :: d.its.drop (i + 1) } ∧ Fr (fun k => d.vi.ownBlock = some k) W2 wx)
          case first =>
            go_region_law (first
              | (go_simp; (with_reducible refine HCL.out.mono ?_); rintro e w4 ⟨yy, r, hfy, rfl, hb4⟩; dsimp only; clear HCL p0 p1; have hbb : Below W2.heap.size W2 w4 := H2.out.2.2.2.1.trans hb4; obtain ⟨p0, f0, f1, ⟨u0, g0⟩, ⟨u1, g1⟩⟩ := HIT.out _ hbb; obtain ⟨ny, hny⟩ : ∃ ny, ny = yy.k.length := ⟨_, rfl⟩; rw [← hny]; have H4 := Lib.hid (And.intro hbb (And.intro hfy hny)); clear hbb hfy hny hb4))
            all_goals
              go_wp2_with fail
              go_meet
              case rel =>
              have hst := stp_item (y := yy) (i1 := d.its.take i) (i2 := d.its.drop (i + 1)) (z := m) ((H2.out.2.1.at'.1.on0 H4.out.1).nb) (fun k => by have h1 := H2.out.2.1.sep k; have h2 := occ_own (h + 1) d k; exact Nat.le_trans h2 h1) HX.out.1 HV.out.1
              rw [HX.out.2.2.1, ← H4.out.2.2] at hst
              refine ⟨rfl, rfl, yy, r, H4.out.2.1, hst.at', ?_⟩
              exact Fr.set (S := fun k => d.vi.ownBlock = some k) (Fr.set (S := fun k => d.vi.ownBlock = some k) (Fr.of H4.out.1) (by rw [HV.out.1]; rfl) _) (by rw [HV.out.1]; rfl) _
          case rest =>
          obtain ⟨W3, hW3⟩ : ∃ W3 : World, W3 = wc := ⟨_, rfl⟩
          subst hW3
          obtain ⟨rfl, rfl, yy, r, hfy, hNb, hF⟩ := hcut
          clear HCL p0 p1 HIT x02
          have hyc : yy ∈ flat h c1 := by rw [hfy]; simp
          have hyd : yy ∈ flat (h + 1) d := by
            rw [flat_two HP.out.1.its HP.out.1.kids HP.out.1.len]
            simp [hyc]
          obtain ⟨hz0, hzc, hzo⟩ := swap_ts0 H2.out.2.1 HX.out.1 (c := c1) (by rw [HP.out.1.kids]; simp) hyc hyd hNb hF
          have bP := hNb.blk
          have bI := hNb.ri
          have bK := hNb.rk
          dsimp only [Nd.nb] at bP bI bK
          rw [HV.out.1, HV.out.2] at bP
          rw [HV.out.1] at bI
          rw [HV.out.2] at bK
          obtain ⟨gI', eI, m0, m1⟩ := bI.cellI (j := i) hil3
          obtain rfl : gI = gI' := by injection eI with eI; injection eI
          rw [show (d.its.take i ++ yy :: d.its.drop (i + 1)).getD i default = yy by have := getD_mid (d.its.take i) (d.its.drop (i + 1)) yy; rw [HX.out.2.2.1] at this; rw [List.getD_eq_getElem?_getD, this]; rfl] at m0 m1
          obtain ⟨gK', eK, x0⟩ := bK.cellP (j := i) (by omega)
          obtain rfl : gK = gK' := by injection eK with eK; injection eK
          rw [H5.out.1] at x0
          have p0 := bP.cell 0
          have p1 := bP.cell 1
          simp only [List.getElem?_toArray, List.getElem?_cons_zero, List.getElem?_cons_succ] at p0 p1
          obtain ⟨ny, hny⟩ : ∃ ny, ny = yy.k.length := ⟨_, rfl⟩
          rw [← hny] at m0
          have H3 := Lib.hid (And.intro hfy (And.intro hNb (And.intro hF (And.intro hyc (And.intro hz0 (And.intro hzc hny))))))
          clear hfy hNb hF hyc hyd hz0 hzc hzo bP bI bK eI eK hny
          go_upto_region 6 with fail
          go_still_tail 16, (by kernel_rfl)
          change wpList _ _ _ _ _ W3.drew
          go_wp2_with fail
          go_roundg h
          case measure => omega
          case rel =>
          have hdr3 : Below W3.heap.size W3 W3.drew := below_drewN (Below.refl _ _) 1
          have hzc := H3.out.2.2.2.2.2.1.on hdr3
          have hT3 : Blk W3.drew T 61 #[.int .i64 (s + 1 : Nat), y, z] := (H3.out.2.2.1.b H2.out.1 (fun hk => by
            obtain ⟨cs, q⟩ := H2.out.2.1.at'.1.its.own_blk hk
            exact absurd (blk_ty H2.out.1 q) (by decide))).on hdr3
          refine ⟨h, c1, yy.A, ny, yy.c, yy.k, rfl, rfl, Nat.le_refl _, Lib.hid ⟨hT3, hzc.keys yy H3.out.2.2.2.1, H3.out.2.2.2.2.2.2, hzc, get_of_last hzc H3.out.1, fun _ => by have := HL1.out; omega, fun w' d2 p => ?_⟩⟩
          have p' : RemPost (s + 1) h c1 yy.k W3 w' d2 := RemPost.before (Chg.below H3.out.2.2.2.2.2.1 hdr3) rfl p.len p
          obtain ⟨d3, q⟩ := rem_last H2.out.2.1 HP.out.1 H3.out.2.2.1 H3.out.2.2.2.2.1 H3.out.1 HL1.out p'
          rw [HX.out.2.1] at q
          exact HI.out.2.2.2.2.2.2 _ _ (RemPost.before HW.out.2.2.2.1 rfl q.len (RemPost.before (Chg.below HW.out.2.2.1 H2.out.2.2.2.2.1) rfl q.len q))
        · by_cases h2 : s + 1 ≤ c2.its.length
          · rw [show decide (s + 1 ≤ c1.its.length) = false from decide_eq_false h1] at hsp1
            rw [show decide (s + 1 ≤ c2.its.length) = true from decide_eq_true h2] at hsp2
            have HSP1 := Lib.hid hsp1
            have HSP2 := Lib.hid hsp2
            have HL1 := Lib.hid h2
            clear hsp1 hsp2 h1 h2
            go_upto_region 8 with (first
              | (go_at_call 30; (with_reducible refine HLF.out.mono ?_); rintro e w2 ⟨rfl, rfl⟩; dsimp only)
              | (go_at_call 39; (with_reducible refine (HSP1.out _ (by first | exact Below.refl _ _ | exact below_drewN (Below.refl _ _) _)).mono ?_); rintro e w2 ⟨rfl, m9, rfl⟩; dsimp only)
              | (go_at_call 39; (with_reducible refine (HSP2.out _ (by first | exact Below.refl _ _ | exact below_drewN (Below.refl _ _) _)).mono ?_); rintro e w2 ⟨rfl, m2, rfl⟩; dsimp only))
            obtain ⟨W2, hW2⟩ : ∃ W2, W2 = w1.drewN (m9 + m2) := ⟨_, rfl⟩
            rw [← hW2]
            have hbw : Below w1.heap.size w1 W2 := by rw [hW2]; exact below_drewN (Below.refl _ _) (m9 + m2)
            have hWT := HW.out.1.on hbw
            have hWa := HW.out.2.2.1.on hbw
            have hWc := HP.out.2.2.1.on hbw
            have hN2 := HNN.out.1.on hbw
            have hr2 := HNN.out.2.1.on hbw
            have hdr : Below W2.heap.size W2 W2.drew := below_drewN (Below.refl _ _) 1
            have hcl := first_any (s + 1) h c2 W2.drew (hWc.on hdr) (by have := HL1.out; omega) (by have := HS.out; omega)
            obtain ⟨gI, rfl, m0, m1⟩ := hr2.cellI (j := i) HX.out.2.2.2
            have hIt : ∀ W, Below W2.heap.size W2 W → W.cell? ⟨d.n, 0, none⟩ = some (.slice (some ⟨gI, 0, none⟩) d.its.length c) ∧ W.frozen? ⟨gI, i * 2, none⟩ = false ∧ W.frozen? ⟨gI, i * 2 + 1, none⟩ = false ∧ (∃ u, W.cell? ⟨gI, i * 2, none⟩ = some u) ∧ ∃ u, W.cell? ⟨gI, i * 2 + 1, none⟩ = some u := fun W hb => by
              obtain ⟨cs, q⟩ := hr2.own_blk (k := gI) rfl
              have q' := q.on hb
              refine ⟨by simpa using (hN2.on hb).cell 0, q'.frozen _, q'.frozen _, ?_, ?_⟩
              · exact ⟨_, (hb.cell (p := ⟨gI, i * 2, none⟩) q.lt).trans m0⟩
              · exact ⟨_, (hb.cell (p := ⟨gI, i * 2 + 1, none⟩) q.lt).trans m1⟩
            have p0 := (hIt W2 (Below.refl _ _)).1
            have p1 := hN2.cell 1
            have x12 : W2.cell? ⟨gK, i + 1, none⟩ = some (.pointer (some ⟨c2.n, 0, none⟩)) := by rw [hW2]; exact x1
            simp only [List.getElem?_toArray, List.getElem?_cons_zero, List.getElem?_cons_succ] at p1
            have HCL := Lib.hid hcl
            have HIT := Lib.hid hIt
            have H2 := Lib.hid (And.intro hWT (And.intro hWa (And.intro hWc (And.intro hdr (And.intro hbw (And.intro hN2 hr2))))))
            have hil3 : i < d.its.length := HX.out.2.2.2
            clear hWT hWa hWc hN2 hr2 hdr hcl hIt hbw hW2 m0 m1 x0 x1 x0a x1a p1a p1b HSP1 HLF
            go_cut [1, 6] (fun s1 s6 wx => s1 = .pointer (some ⟨d.n, 0, none⟩) ∧ s6 = .int .i64 i ∧ ∃ yy r, flat h c2 = yy :: r ∧ NbAt wx { d.nb with its := d.its.take i ++ yy :: d.its.drop (i + 1) } ∧ Fr (fun k => d.vi.ownBlock = some k) W2 wx)
            case first =>
              go_region_law (first
                | (go_simp; (with_reducible refine HCL.out.mono ?_); rintro e w4 ⟨yy, r, hfy, rfl, hb4⟩; dsimp only; clear HCL p0 p1; have hbb : Below W2.heap.size W2 w4 := H2.out.2.2.2.1.trans hb4; obtain ⟨p0, f0, f1, ⟨u0, g0⟩, ⟨u1, g1⟩⟩ := HIT.out _ hbb; obtain ⟨ny, hny⟩ : ∃ ny, ny = yy.k.length := ⟨_, rfl⟩; rw [← hny]; have H4 := Lib.hid (And.intro hbb (And.intro hfy hny)); clear hbb hfy hny hb4))
              all_goals
                go_wp2_with fail
                go_meet
                case rel =>
                have hst := stp_item (y := yy) (i1 := d.its.take i) (i2 := d.its.drop (i + 1)) (z := m) ((H2.out.2.1.at'.1.on0 H4.out.1).nb) (fun k => by have h1 := H2.out.2.1.sep k; have h2 := occ_own (h + 1) d k; exact Nat.le_trans h2 h1) HX.out.1 HV.out.1
                rw [HX.out.2.2.1, ← H4.out.2.2] at hst
                refine ⟨rfl, rfl, yy, r, H4.out.2.1, hst.at', ?_⟩
                exact Fr.set (S := fun k => d.vi.ownBlock = some k) (Fr.set (S := fun k => d.vi.ownBlock = some k) (Fr.of H4.out.1) (by rw [HV.out.1]; rfl) _) (by rw [HV.out.1]; rfl) _
            case rest =>
            obtain ⟨W3, hW3⟩ : ∃ W3 : World, W3 = wc := ⟨_, rfl⟩
            subst hW3
            obtain ⟨rfl, rfl, yy, r, hfy, hNb, hF⟩ := hcut
            clear HCL p0 p1 HIT x12
            have hyc : yy ∈ flat h c2 := by rw [hfy]; simp
            have hyd : yy ∈ flat (h + 1) d := by
              rw [flat_two HP.out.1.its HP.out.1.kids HP.out.1.len]
              simp [hyc]
            obtain ⟨hz0, hzc, hzo⟩ := swap_ts0 H2.out.2.1 HX.out.1 (c := c2) (by rw [HP.out.1.kids]; simp) hyc hyd hNb hF
            have bP := hNb.blk
            have bI := hNb.ri
            have bK := hNb.rk
            dsimp only [Nd.nb] at bP bI bK
            rw [HV.out.1, HV.out.2] at bP
            rw [HV.out.1] at bI
            rw [HV.out.2] at bK
            obtain ⟨gI', eI, m0, m1⟩ := bI.cellI (j := i) hil3
            obtain rfl : gI = gI' := by injection eI with eI; injection eI
            rw [show (d.its.take i ++ yy :: d.its.drop (i + 1)).getD i default = yy by have := getD_mid (d.its.take i) (d.its.drop (i + 1)) yy; rw [HX.out.2.2.1] at this; rw [List.getD_eq_getElem?_getD, this]; rfl] at m0 m1
            obtain ⟨gK', eK, x0⟩ := bK.cellP (j := i + 1) (by omega)
            obtain rfl : gK = gK' := by injection eK with eK; injection eK
            rw [H5.out.2] at x0
            have p0 := bP.cell 0
            have p1 := bP.cell 1
            simp only [List.getElem?_toArray, List.getElem?_cons_zero, List.getElem?_cons_succ] at p0 p1
            obtain ⟨ny, hny⟩ : ∃ ny, ny = yy.k.length := ⟨_, rfl⟩
            rw [← hny] at m0
            have H3 := Lib.hid (And.intro hfy (And.intro hNb (And.intro hF (And.intro hyc (And.intro hz0 (And.intro hzc hny))))))
            clear hfy hNb hF hyc hyd hz0 hzc hzo bP bI bK eI eK hny
            go_upto_region 9 with fail
            go_still_tail 17, (by kernel_rfl)
            change wpList _ _ _ _ _ W3.drew
            go_wp2_with fail
            go_roundg h
            case measure => omega
            case rel =>
            have hdr3 : Below W3.heap.size W3 W3.drew := below_drewN (Below.refl _ _) 1
            have hzc := H3.out.2.2.2.2.2.1.on hdr3
            have hT3 : Blk W3.drew T 61 #[.int .i64 (s + 1 : Nat), y, z] := (H3.out.2.2.1.b H2.out.1 (fun hk => by
              obtain ⟨cs, q⟩ := H2.out.2.1.at'.1.its.own_blk hk
              exact absurd (blk_ty H2.out.1 q) (by decide))).on hdr3
            refine ⟨h, c2, yy.A, ny, yy.c, yy.k, rfl, rfl, Nat.le_refl _, Lib.hid ⟨hT3, hzc.keys yy H3.out.2.2.2.1, H3.out.2.2.2.2.2.2, hzc, get_of_first hzc H3.out.1, fun _ => by have := HL1.out; omega, fun w' d2 p => ?_⟩⟩
            have p' : RemPost (s + 1) h c2 yy.k W3 w' d2 := RemPost.before (Chg.below H3.out.2.2.2.2.2.1 hdr3) rfl p.len p
            obtain ⟨d3, q⟩ := rem_first H2.out.2.1 HP.out.1 H3.out.2.2.1 H3.out.2.2.2.2.1 H3.out.1 HL1.out p'
            rw [HX.out.2.1] at q
            exact HI.out.2.2.2.2.2.2 _ _ (RemPost.before HW.out.2.2.2.1 rfl q.len (RemPost.before (Chg.below HW.out.2.2.1 H2.out.2.2.2.2.1) rfl q.len q))
          · rw [show decide (s + 1 ≤ c1.its.length) = false from decide_eq_false h1] at hsp1
            rw [show decide (s + 1 ≤ c2.its.length) = false from decide_eq_false h2] at hsp2
            have HSP1 := Lib.hid hsp1
            have HSP2 := Lib.hid hsp2
            have hjo : ∀ W, Below w1.heap.size w1 W → Calls Try.prog 42 #[.pointer (some ⟨T, 0, none⟩), .pointer (some ⟨d.n, 0, none⟩), .int .i64 i] W (JoChg (s + 1) h d (d.its.take i) (d.its.drop (i + 1)) m (d.kids.take i) c1 c2 k2 w1) := fun W hb => by
              have := (jo_chg (.pointer (some ⟨T, 0, none⟩)) (HW.out.2.2.1.on hb) HP.out.1 (by have := HS.out; omega) (by have := HP.out.2.2.2.2; omega)).mono fun e w' f => f.before HW.out.2.2.1 hb
              rw [HX.out.2.2.1] at this
              exact this
            have HJO := Lib.hid hjo
            have HLL := Lib.hid (And.intro h1 h2)
            clear hsp1 hsp2 h1 h2 hjo
            go_upto_region 12 with (first
              | (go_at_call 30; (with_reducible refine HLF.out.mono ?_); rintro e w2 ⟨rfl, rfl⟩; dsimp only)
              | (go_at_call 39; (with_reducible refine (HSP1.out _ (by first | exact Below.refl _ _ | exact below_drewN (Below.refl _ _) _)).mono ?_); rintro e w2 ⟨rfl, m9, rfl⟩; dsimp only)
              | (go_at_call 39; (with_reducible refine (HSP2.out _ (by first | exact Below.refl _ _ | exact below_drewN (Below.refl _ _) _)).mono ?_); rintro e w2 ⟨rfl, m2, rfl⟩; dsimp only)
              | (go_at_call 42; (with_reducible refine (HJO.out _ (by first | exact Below.refl _ _ | exact below_drewN (Below.refl _ _) _)).mono ?_); rintro e w3 ⟨rfl, f'⟩; dsimp only))
            have hcs := jo_cells (e := .returned (.tuple #[])) ⟨rfl, f'⟩
            obtain ⟨gX, nX, qX, y0, y1, y2⟩ := hcs
            rw [HX.out.2.2.1] at y1 y2
            have y3 : (i : Int) < (nX : Int) := by omega
            have HFF := Lib.hid f'
            clear f' p0 p1 x0 x1 p1a p1b x0a x1a HSP1 HSP2 HJO HLF
            go_wp2_with fail
            go_roundg h
            case measure => omega
            case rel =>
            obtain ⟨c1', d', q1, q2, q3, q4, q5⟩ := HFF.out
            have hlo : ∀ x ∈ d.its.take i, klt x.k key := HW.out.2.2.2.2.lo
            have hhi : ∀ x ∈ d.its.drop (i + 1), klt key x.k := fun x hx => by
              have hr := HW.out.2.2.1.rise
              rw [HX.out.1] at hr
              have := (List.pairwise_cons.1 (List.pairwise_append.1 hr).2.1).1 x hx
              rwa [HX.out.2.1] at this
            have ac := q4.ts.kid q1.its q1.kids q1.len
            have hT3 := q4.blk HW.out.2.2.1.at' HW.out.1 (by decide) (by decide) (by decide)
            refine ⟨h, c1', KA, nk, ck, key, by rw [q3], rfl, Nat.le_refl _, Lib.hid ⟨hT3, ?_, HI.out.2.2.1, ac, ?_, fun _ => by rw [q2]; simp; omega, fun w' d2 p => ?_⟩⟩
            · exact HW.out.2.1.fr q4.fr fun k _ hk => HW.out.2.2.1.at'.typed hk
            · have := get_lift q1 q4.ts hlo hhi
              rw [← this, q5]
              exact HI.out.2.2.2.2.1
            · obtain ⟨d3, q, hq⟩ := p.lift q1 q4.ts hlo hhi (by rw [q2]; have := HP.out.2.2.2.2; simp; omega)
              have hl : d.its.length ≤ d3.its.length + 1 := by
                rw [hq, q1.its]
                have := congrArg List.length HX.out.1
                simp at this ⊢
                omega
              exact HI.out.2.2.2.2.2.2 _ _ (RemPost.before HW.out.2.2.2.1 rfl hl (RemPost.before q4 q5 hl q))
    | false =>
      have hlo := HW.out.2.2.2.2.lo
      have hhi := HW.out.2.2.2.2.no rfl
      have hle := HW.out.2.2.2.2.le
      cases h with
      | zero => exact absurd (get_none_of hlo hhi) HI.out.2.2.2.2.1
      | succ h =>
        obtain ⟨ch, k2, hpl, hki⟩ := place_at HW.out.2.2.1.bal hle
        have hfi := fill_any T s h y z d ch (d.its.take i) (d.its.drop i) (d.kids.take i) k2 key w1 HW.out.1 HW.out.2.2.1 HS.out hpl hlo hhi (HI.out.2.2.2.2.2.1 (by omega))
        rw [show (d.its.take i).length = i by simp; omega] at hfi
        have HFI := Lib.hid hfi
        clear hlo hhi hle hpl hki hfi hlf p0 p1
        go_wp2_with (go_at_call 43; (with_reducible refine HFI.out.mono ?_); rintro e w3 ⟨d', c', j1, j2, l1, l2, rfl, q1, q2, q3, q4, q5, q6, q7⟩; dsimp only)
        go_roundg h
        case measure => omega
        case rel =>
        have ac := q1.ts.kid q3.its q3.kids q3.len
        have hT3 := q1.blk HW.out.2.2.1.at' HW.out.1 (by decide) (by decide) (by decide)
        refine ⟨h, c', KA, nk, ck, key, rfl, rfl, Nat.le_refl _, Lib.hid ⟨hT3, ?_, HI.out.2.2.1, ac, ?_, fun _ => by have := HS.out; omega, fun w' d2 p => ?_⟩⟩
        · exact HW.out.2.1.fr q1.fr fun k _ hk => HW.out.2.2.1.at'.typed hk
        · have := get_lift q3 q1.ts q4 q5
          rw [← this, q2]
          exact HI.out.2.2.2.2.1
        · obtain ⟨d3, q, hq⟩ := p.lift q3 q1.ts q4 q5 q6
          exact HI.out.2.2.2.2.2.2 _ _ (RemPost.before HW.out.2.2.2.1 rfl (by omega) (RemPost.before q1 q2 (by omega) q))
end Go.Proofs.Ytgjcomnljonffaa.Tlv
