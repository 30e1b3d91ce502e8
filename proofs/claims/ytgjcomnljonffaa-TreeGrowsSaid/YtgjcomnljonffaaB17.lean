/- put: an item under a node that is not full. -/
import Derived.Test.YtgjcomnljonffaaB16
namespace Go.Proofs.Ytgjcomnljonffaa.Tlv
open Go.RowKit
set_option maxRecDepth 100000
set_option linter.unusedVariables false
set_option linter.unusedSimpArgs false
/-- No child is full that a key goes to. -/
def Free (t h : Nat) (d : Nd) (key : Key) : Prop := ∀ i1 i2 k1 c k2, Place d i1 i2 k1 c k2 → (∀ x ∈ i1, klt x.k key) → (∀ x ∈ i2, klt key x.k) → c.its.length < 2 * t - 1
def PutOut (t h : Nat) (d : Nd) (key : Key) (v : Int) (w : World) (e : Ending) (w' : World) : Prop := ∃ d' old was, e = .returned (.tuple #[.int .i64 old, .bool was]) ∧ PutPost t h d key v w w' d' old was
theorem sortedKids_lt {t h : Nat} {w : World} {d : Nd} (a : TS t h w d) (ht : 2 ≤ t ∧ t ≤ 64) : d.its.length ≤ 127 := by have := a.bal.most; omega
theorem PutPost.after {t h : Nat} {d d' : Nd} {key : Key} {v old : Int} {was : Bool} {w w1 w' : World} (p : PutPost t h d key v w w1 d' old was) (hb : Below w1.heap.size w1 w') : PutPost t h d key v w w' d' old was :=
  ⟨p.chg.trans (Chg.below p.chg.ts hb), p.put, p.yes, p.no, p.len, p.ne⟩
theorem cut_at {l : List It} {i : Nat} (h : i < l.length) : l = l.take i ++ l.getD i default :: l.drop (i + 1) := by
  rw [List.getD_eq_getElem?_getD, List.getElem?_eq_getElem h, Option.getD_some]
  simp
theorem getD_mid {α : Type} [Inhabited α] (a b : List α) (x : α) : (a ++ x :: b)[a.length]? = some x := by simp
theorem free_split {t h : Nat} {d' c' R : Nd} {key : Key} {i1 i2 : List It} {m : It} {k1 k2 : List Nd} (hi : d'.its = i1 ++ m :: i2) (hk : d'.kids = k1 ++ c' :: R :: k2) (hl : i1.length = k1.length) (h1 : ∀ x ∈ i1, klt x.k key) (h2 : ∀ x ∈ i2, klt key x.k)
    (hc : c'.its.length < 2 * t - 1) (hR : R.its.length < 2 * t - 1) : Free t h d' key := fun j1 j2 l1 c l2 pl lo hi' => by
  have e1 : j1 ++ j2 = i1 ++ m :: i2 := pl.its.symm.trans hi
  have e2 : l1 ++ c :: l2 = k1 ++ c' :: R :: k2 := pl.kids.symm.trans hk
  have e3 := pl.len
  have hc' : (k1 ++ c' :: R :: k2)[j1.length]? = some c := by rw [← e2, e3]; simp
  have ge : i1.length ≤ j1.length := by
    rcases Nat.lt_or_ge j1.length i1.length with h | h
    · exfalso
      have q1 : (i1 ++ m :: i2)[j1.length]? = some i1[j1.length] := by rw [List.getElem?_append_left h, List.getElem?_eq_getElem h]
      rw [← e1, List.getElem?_append_right (Nat.le_refl _), Nat.sub_self] at q1
      have q2 : i1[j1.length] ∈ j2 := List.mem_of_getElem? q1
      exact klt_asymm (hi' _ q2) (h1 _ (List.getElem_mem h))
    · exact h
  have le : j1.length ≤ i1.length + 1 := by
    rcases Nat.lt_or_ge (i1.length + 1) j1.length with h | h
    · exfalso
      have q0 : i1.length + 1 < (i1 ++ m :: i2).length := by rw [← e1]; simp; omega
      have hp : 0 < i2.length := by simp at q0; omega
      have q1 : (j1 ++ j2)[i1.length + 1]? = some j1[i1.length + 1] := by rw [List.getElem?_append_left h, List.getElem?_eq_getElem h]
      rw [e1, List.getElem?_append_right (by omega), show i1.length + 1 - i1.length = 1 by omega, List.getElem?_cons_succ] at q1
      have q2 : j1[i1.length + 1] ∈ i2 := List.mem_of_getElem? q1
      exact klt_asymm (h2 _ q2) (lo _ (List.getElem_mem h))
    · exact h
  rcases Nat.lt_or_ge i1.length j1.length with h | h
  · have e : j1.length = k1.length + 1 := by omega
    rw [e] at hc'
    simp at hc'
    rw [← hc']
    exact hR
  · have e : j1.length = k1.length := by omega
    rw [e] at hc'
    simp at hc'
    rw [← hc']
    exact hc
set_option maxHeartbeats 8000000 in
theorem put_any (T h0 s : Nat) (y z : Value) (d0 : Nd) (KA : Option Addr) (nk ck : Nat) (key : Key) (v : Int) (w : World) (hT : Blk w T 61 #[.int .i64 (s + 1 : Nat), y, z]) (a0 : TS (s + 1) h0 w d0) (hs : 1 ≤ s ∧ s ≤ 63)
    (hroom : d0.its.length < 2 * (s + 1) - 1) (hkey : KAt w KA key) (hnk : nk = key.length) :
    Calls Try.prog 27 #[.pointer (some ⟨T, 0, none⟩), .pointer (some ⟨d0.n, 0, none⟩), .agg #[.slice KA nk ck, .int .i64 v]] w (PutOut (s + 1) h0 d0 key v w) := by
  have hb0 : Below w.heap.size w (w.alloc (.cells #[.slice KA nk ck, .int .i64 v] 69)) := (Below.refl _ _).alloc (Nat.le_refl _) _
  have HX0 := Lib.hid (Blk.new w 69 #[.slice KA nk ck, .int .i64 v])
  have hoX := own_zero_of a0.at' (k := w.heap.size) (by omega)
  have hall := And.intro (hT.on hb0) (And.intro (a0.on hb0) (And.intro (hkey.on hb0) (And.intro (Chg.below a0 hb0) (And.intro hroom hoX))))
  have H0 := Lib.hid hall
  have HS := Lib.hid (And.intro hs hnk)
  obtain ⟨X, hX⟩ : ∃ X, X = w.heap.size := ⟨_, rfl⟩
  clear hall
  rw [← hX] at HX0
  have hXo : occ h0 d0 X = 0 := by rw [hX]; exact hoX
  have HXO := Lib.hid hXo
  generalize hWW : w.alloc (.cells #[.slice KA nk ck, .int .i64 v] 69) = W0 at HX0 H0 hb0
  have HWW := Lib.hid hWW
  have HXX := Lib.hid hX
  clear hT a0 hs hkey hnk hb0 hroom hWW hX hoX hXo
  go_enter Try.func27, Try.ntmps27
  go_upto_region 1 with fail
  rw [HWW.out, ← HXX.out]
  go_loopg [1, 6] (2 * h0 + 1) (fun g s1 s6 wr => ∃ (h : Nat) (d : Nd) (b : Nat), s1 = .pointer (some ⟨d.n, 0, none⟩) ∧ s6 = .int .i64 0 ∧ 2 * h + b ≤ g ∧ Hid (Blk wr T 61 #[.int .i64 (s + 1 : Nat), y, z] ∧ Blk wr X 69 #[.slice KA nk ck, .int .i64 v] ∧ KAt wr KA key ∧ TS (s + 1) h wr d ∧
    (b = 0 → Free (s + 1) h d key) ∧ (b ≠ 0 → d.its.length < 2 * (s + 1) - 1) ∧ (h = 0 → d.its.length < 2 * (s + 1) - 1) ∧ occ h d X = 0 ∧ ∀ w' d' old was, PutPost (s + 1) h d key v wr w' d' old was → ∃ d1, PutPost (s + 1) h0 d0 key v w w' d1 old was))
  case atStart => exact ⟨h0, d0, 1, rfl, rfl, Nat.le_refl _, Lib.hid ⟨H0.out.1, HX0.out, H0.out.2.2.1, H0.out.2.1, (fun h => by cases h), (fun _ => H0.out.2.2.2.2.1), (fun _ => H0.out.2.2.2.2.1), HXO.out, fun w' d' old was p => ⟨d', p.before H0.out.2.2.2.1 rfl (Nat.le_refl _) (.inl rfl)⟩⟩⟩
  case round =>
    obtain ⟨h, d, b, rfl, rfl, hg, HI⟩ := hrel
    obtain ⟨A, c, B, e, e1, e2⟩ := HI.out.2.2.2.1.at'.node.form
    have HV := Lib.hid (And.intro e1 e2)
    have hN := HI.out.2.2.2.1.at'.node.blk
    rw [e1, e2] at hN
    have hri := HI.out.2.2.2.1.at'.node.its
    rw [e1] at hri
    obtain ⟨A', c', e3, _, hrd⟩ := hri.rd0
    have e4 : A' = A := by injection e3 with e3 _ _; exact e3.symm
    rw [e4] at hrd
    have HF := Lib.hid (find_any d.n A KA d.its.length c nk ck (.slice B d.kids.length e) d.its key wr hN hrd rfl (by have := HI.out.2.2.2.1.bal.most; have := HS.out.1; omega) HI.out.2.2.2.1.rise HI.out.2.2.2.1.itsKeys HI.out.2.2.1 HS.out.2)
    have x0 := HI.out.2.1.cell 0
    simp only [List.getElem?_toArray, List.getElem?_cons_zero, List.getElem?_cons_succ] at x0
    clear hrd hri e3 e4 e1 e2 hN
    go_upto_region 3 with (go_at_call 35; (with_reducible refine HF.out.mono ?_); rintro e w1 ⟨i, is, rfl, hf, hb1⟩; dsimp only)
    clear HF x0
    have hb1' := hb1.mono (Nat.le_refl _)
    have HW := Lib.hid (And.intro (HI.out.1.on hb1) (And.intro (HI.out.2.1.on hb1) (And.intro (HI.out.2.2.1.on hb1) (And.intro (HI.out.2.2.2.1.on hb1) (And.intro (Chg.below HI.out.2.2.2.1 hb1) hf)))))
    have hN := HW.out.2.2.2.1.at'.node.blk
    rw [HV.out.1, HV.out.2] at hN
    have p0 := hN.cell 0
    have p1 := hN.cell 1
    have x0 := HW.out.2.1.cell 0
    have x1 := HW.out.2.1.cell 1
    have hri := HW.out.2.2.2.1.at'.node.its
    rw [HV.out.1] at hri
    have hrk := HW.out.2.2.2.1.at'.node.kids
    rw [HV.out.2] at hrk
    simp only [List.getElem?_toArray, List.getElem?_cons_zero, List.getElem?_cons_succ] at p0 p1 x0 x1
    have HNN := Lib.hid (And.intro hN (And.intro hri hrk))
    clear hf hb1 hb1' hN hri hrk
    cases is with
    | true =>
      obtain ⟨hil, hkk⟩ := HW.out.2.2.2.2.2.yes rfl
      obtain ⟨g, rfl, _, cv⟩ := HNN.out.2.1.cellI hil
      obtain ⟨cs, qg⟩ := HNN.out.2.1.own_blk (k := g) rfl
      have cf := qg.frozen (i * 2 + 1)
      have hii : (i : Int) < (d.its.length : Int) := by omega
      generalize hx : d.its.getD i default = x at cv hkk
      have HXC := Lib.hid (And.intro hx hkk)
      have HIL := Lib.hid hil
      clear hx hkk qg p1
      go_upto_region 4 with fail
      go_still_tail 16, (by kernel_rfl)
      change wpList _ _ _ _ _ w1.drew
      go_wp2
      go_ret2
      have hcut := cut_at HIL.out
      rw [HXC.out.1] at hcut
      have hput := put_found (v := v) HW.out.2.2.2.1 hcut HV.out.1 _ rfl
      rw [show (d.its.take i).length = i by simp; have := HIL.out; omega, HXC.out.2] at hput
      obtain ⟨d', p⟩ := hput
      obtain ⟨d1, q⟩ := HI.out.2.2.2.2.2.2.2.2 _ _ _ _ ((p.before HW.out.2.2.2.2.1 rfl (Nat.le_refl _) (.inl rfl)).after (below_drew (Below.refl _ _)))
      exact ⟨d1, _, _, rfl, q⟩
    | false =>
      have hlo := HW.out.2.2.2.2.2.lo
      have hhi := HW.out.2.2.2.2.2.no rfl
      have hle := HW.out.2.2.2.2.2.le
      have HLH := Lib.hid (And.intro hlo (And.intro hhi hle))
      clear hlo hhi hle
      have hlf := leaf_any d.n d.kids.length e _ B w1 HNN.out.1
      cases h with
      | zero =>
        have hk0 : d.kids = [] := HW.out.2.2.2.1.bal.1
        rw [show decide (d.kids.length = 0) = true by rw [hk0]; rfl] at hlf
        have HLF := Lib.hid hlf
        clear hlf hk0
        go_upto_region 7 with (go_at_call 30; (with_reducible refine HLF.out.mono ?_); rintro e w2 ⟨rfl, rfl⟩; dsimp only)
        clear p0 p1 x0 x1
        have p0 := HNN.out.1.cell 0
        have q0 := (HNN.out.1.alloc (.cells #[.slice KA nk ck, .int .i64 v] 69)).cell 0
        have q1 := (HNN.out.1.alloc (.cells #[.slice KA nk ck, .int .i64 v] 69)).drew.cell 0
        have m0 := HW.out.2.1.cell 0
        have m1 := HW.out.2.1.cell 1
        simp only [List.getElem?_toArray, List.getElem?_cons_zero, List.getElem?_cons_succ] at p0 q0 q1 m0 m1
        have hsplit : d.its.take i ++ d.its.drop i = d.its := List.take_append_drop _ _
        have hjt : (d.its.take i).length = i := by have := HLH.out.2.2; simp; omega
        have hrow : RowK kI (w1.alloc (.cells #[.slice KA nk ck, .int .i64 v] 69)).drew 0 (.slice A d.its.length c) (d.its.take i ++ d.its.drop i) := by rw [hsplit]; exact (HNN.out.2.1.alloc _).drew
        have hC0 := ins_I 0 d.its.length c A (d.its.take i) (d.its.drop i) ⟨KA, ck, key, v⟩ w1.heap.size (w1.alloc (.cells #[.slice KA nk ck, .int .i64 v] 69)).drew hrow (by rw [HS.out.2]; exact (Blk.new w1 69 _).drew) (fun e => by
          obtain ⟨cs, q⟩ := HNN.out.2.1.own_blk e
          exact absurd q.lt (by omega)) (by have := HW.out.2.2.2.1.bal.most; have := HS.out.1; omega) (Nat.zero_le _)
        rw [hjt] at hC0
        have HC := Lib.hid hC0
        have HPP := Lib.hid ((HNN.out.1.alloc (.cells #[.slice KA nk ck, .int .i64 v] 69)).drew)
        have HPO := Lib.hid (own_ne ((HNN.out.2.1.alloc (.cells #[.slice KA nk ck, .int .i64 v] 69)).drew) HPP.out (by decide))
        clear hC0 hrow hsplit hjt
        go_cut [6] (fun s6 wx => s6 = .int .i64 0 ∧ ∃ A' c' n', Fr (fun k => k = d.n ∨ (Value.slice A d.its.length c).ownBlock = some k) w1 wx ∧ Blk wx d.n 59 #[.slice A' n' c', .slice B d.kids.length e] ∧ RowK kI wx 0 (.slice A' n' c') (d.its.take i ++ ⟨KA, ck, key, v⟩ :: d.its.drop i) ∧ ((Value.slice A' n' c').ownBlock = (Value.slice A d.its.length c).ownBlock ∨ ∃ k, (Value.slice A' n' c').ownBlock = some k ∧ w1.heap.size ≤ k))
        case first =>
          go_region_law (first
            | (go_simp; (with_reducible refine HC.out.mono ?_); rintro e w4 ⟨v', rfl, hr4, hg4, ho4⟩; dsimp only; clear HC p0 q0 q1 m0 m1; obtain ⟨A6, c6, n6, hn6, rfl, _, _⟩ := hr4.rdn; have kP4 := Lib.hid (HPP.out.grown hg4 (fun e => HPO.out e.symm)); have p0 := kP4.out.cell 0; have p0f := kP4.out.frozen 0; simp only [List.getElem?_toArray, List.getElem?_cons_zero, List.getElem?_cons_succ] at p0; have H4 := Lib.hid (And.intro hr4 (And.intro hg4 ho4)); clear hr4 hg4 ho4 hn6))
          all_goals
            go_wp2_with fail
            go_meet
            case rel =>
            have k := kP4.out.set_ 0 (.slice A6 n6 c6)
            refine ⟨rfl, A6, c6, n6, ?_, by simpa using k, ?_, ?_⟩
            · refine Fr.set (Fr.grown (w' := (w1.alloc (.cells #[.slice KA nk ck, .int .i64 v] 69)).drew) ((Fr.refl w1).alloc _).drew H4.out.2.1 (fun k hk _ => .inr hk)) (.inl rfl) _
            · exact H4.out.1.kept' fun k hk => Below.heap_setCell _ _ _ _ (fun e => by
                obtain ⟨cs, q⟩ := H4.out.1.own_blk hk
                rw [e] at q
                exact absurd (blk_ty kP4.out q) (by decide))
            · rcases H4.out.2.2 with h | ⟨k, h1, h2⟩
              · exact .inl h
              · exact .inr ⟨k, h1, by simp at h2; omega⟩
        case rest =>
        obtain ⟨wg, hwg⟩ : ∃ wg : World, wg = wc := ⟨_, rfl⟩
        subst hwg
        obtain ⟨rfl, A6, c6, n6, F9, kP9, r9, o9⟩ := hcut
        clear HC HPP p0 q0 q1 m0 m1 HPO
        go_wp2
        go_ret2
        rw [← HV.out.1] at F9 o9
        rw [← HV.out.2] at kP9
        have hkat : KAt wg KA key := HW.out.2.2.1.fr F9 fun k _ hk => HW.out.2.2.2.1.at'.typed (k := k) (Nat.lt_of_lt_of_le (by
          rcases hk with h | h
          · exact own_pos.2 (.inl h.symm)
          · exact own_pos.2 (.inr (.inl h))) (occ_own 0 d k))
        obtain ⟨d', p⟩ := put_leaf (it := ⟨KA, ck, key, v⟩) HW.out.2.2.2.1 (List.take_append_drop i d.its).symm HLH.out.1 HLH.out.2.1 (HI.out.2.2.2.2.2.2.1 (by simp)) F9 kP9 r9 o9 hkat
        obtain ⟨d1, q⟩ := HI.out.2.2.2.2.2.2.2.2 _ _ _ _ (p.before HW.out.2.2.2.2.1 rfl (Nat.le_refl _) (.inl rfl))
        exact ⟨d1, _, _, rfl, q⟩
      | succ h' =>
        have hbal : d.kids.length = d.its.length + 1 := HW.out.2.2.2.1.bal.1
        rw [show decide (d.kids.length = 0) = false from decide_eq_false (by omega)] at hlf
        have HLF := Lib.hid hlf
        obtain ⟨ch, k2, hpl, hki⟩ := place_at HW.out.2.2.2.1.bal HLH.out.2.2
        have hik : i < d.kids.length := by have := HLH.out.2.2; omega
        obtain ⟨gK, rfl, ck0⟩ := HNN.out.2.2.cellP hik
        have hcn : (d.kids.map Nd.n).getD i 0 = ch.n := by rw [List.getD_eq_getElem?_getD, List.getElem?_map, hki]; rfl
        rw [hcn] at ck0
        have hiki : (i : Int) < (d.kids.length : Int) := by omega
        have ac := HW.out.2.2.2.1.kid hpl.its hpl.kids hpl.len
        obtain ⟨A2, c2, B2, e2, f1, f2⟩ := ac.at'.node.form
        have hcb := ac.at'.node.blk
        rw [f1, f2] at hcb
        have HFU := Lib.hid (full_any T ch.n ch.its.length c2 (s + 1) A2 y z _ w1 HW.out.1 hcb (by have := HS.out.1; omega) (by have := ac.bal.most; have := HS.out.1; omega))
        have HPL := Lib.hid (And.intro hpl (And.intro hki ac))
        clear hlf hbal hpl hki hcn ac f1 f2 hcb x0 x1
        have hmv : 2 * h' + 2 ≤ gk := by omega
        by_cases hfull : ch.its.length = 2 * (s + 1) - 1
        · rw [show decide (ch.its.length = 2 * (s + 1) - 1) = true by simpa using hfull] at HFU
          go_upto_region 10 with (first
            | (go_at_call 30; (with_reducible refine HLF.out.mono ?_); rintro e w2 ⟨rfl, rfl⟩; dsimp only)
            | (go_at_call 26; (with_reducible refine HFU.out.mono ?_); rintro e w2 ⟨rfl, m, rfl⟩; dsimp only))
          obtain ⟨W2, hW2⟩ : ∃ W2, W2 = w1.drewN m := ⟨_, rfl⟩
          rw [← hW2]
          have hbw : Below w1.heap.size w1 W2 := by rw [hW2]; exact below_drewN (Below.refl _ _) m
          have hb0 : d.its.length < 2 * (s + 1) - 1 := HI.out.2.2.2.2.2.1 (fun hb => by
            have := HI.out.2.2.2.2.1 hb _ _ _ _ _ HPL.out.1 HLH.out.1 HLH.out.2.1
            omega)
          have hbz : b ≠ 0 := fun hb => by
            have := HI.out.2.2.2.2.1 hb _ _ _ _ _ HPL.out.1 HLH.out.1 HLH.out.2.1
            omega
          have hti : (d.its.take i).length = i := by have := HLH.out.2.2; simp; omega
          have hsp := split_chg T h' s y z d ch (d.its.take i) (d.its.drop i) (d.kids.take i) k2 W2 (HW.out.1.on hbw) (HW.out.2.2.2.1.on hbw) HPL.out.1.its HPL.out.1.kids HPL.out.1.len HS.out.1 hfull hb0
          rw [hti] at hsp
          have HSP := Lib.hid hsp
          have HW2 := Lib.hid hbw
          have HZ := Lib.hid (And.intro hb0 hbz)
          clear hsp hti hbw hb0 hbz hW2 HFU HLF hfull p0 p1 ck0
          go_wp2_with (go_at_call 37; (with_reducible refine HSP.out.mono ?_); rintro e w3 ⟨l, mm, r, c', R, d', rfl, q1, q2, q3, q4, q5, q6, q7, q8, q9⟩; dsimp only)
          have hb7 := HZ.out.2
          go_roundg (2 * h' + 2)
          case measure => omega
          case rel =>
          have hc0 := (HW.out.2.2.2.2.1).trans (Chg.below HW.out.2.2.2.1 HW2.out)
          have hfl : kvs (flat (h' + 1) d') = kvs (flat (h' + 1) d) := by rw [q9]
          have hty : ∀ k, 0 < occ (h' + 1) d k → ∃ t cs, Blk W2 k t cs ∧ (t = 59 ∨ t = 69 ∨ t = 55) := fun k hk => (HW.out.2.2.2.1.on HW2.out).at'.typed3 hk
          refine ⟨h' + 1, d', 0, by rw [q8.n], rfl, Nat.le_refl _, Lib.hid ⟨q8.blk (HW.out.2.2.2.1.on HW2.out).at' (HW.out.1.on HW2.out) (by decide) (by decide) (by decide), ?_, ?_, q8.ts, fun _ => ?_, (fun h => absurd rfl h), (fun h => by omega), ?_, ?_⟩⟩
          · -- X is not of the tree
            refine q8.fr.b (HW.out.2.1.on HW2.out) fun hk => ?_
            have := HI.out.2.2.2.2.2.2.2.1
            omega
          · exact (HW.out.2.2.1.on HW2.out).fr q8.fr fun k _ hk => (HW.out.2.2.2.1.on HW2.out).at'.typed hk
          · exact free_split q4 q5 (by have := HPL.out.1.len; exact this) HLH.out.1 HLH.out.2.1 (by rw [q6]; omega) (by rw [q7]; omega)
          · have h1 := q8.old X (HW.out.2.1.on HW2.out).lt
            have h2 := HI.out.2.2.2.2.2.2.2.1
            omega
          · intro w' d2 old was p
            exact HI.out.2.2.2.2.2.2.2.2 _ _ _ _ ((p.before q8 hfl (by rw [q4]; have := HLH.out.2.2; simp; omega) (.inr (by rw [q4]; simp; omega))).before hc0 rfl (Nat.le_refl _) (.inl rfl))
        · rw [show decide (ch.its.length = 2 * (s + 1) - 1) = false by simpa using hfull] at HFU
          go_upto_region 2 with (first
            | (go_at_call 30; (with_reducible refine HLF.out.mono ?_); rintro e w2 ⟨rfl, rfl⟩; dsimp only)
            | (go_at_call 26; (with_reducible refine HFU.out.mono ?_); rintro e w2 ⟨rfl, m, rfl⟩; dsimp only))
          obtain ⟨W2, hW2⟩ : ∃ W2, W2 = w1.drewN m := ⟨_, rfl⟩
          rw [← hW2]
          have hbw : Below w1.heap.size w1 W2 := by rw [hW2]; exact below_drewN (Below.refl _ _) m
          have p1 := (HNN.out.1.on hbw).cell 1
          have ck2 : W2.cell? ⟨gK, i, none⟩ = some (.pointer (some ⟨ch.n, 0, none⟩)) := by rw [hW2]; exact ck0
          simp only [List.getElem?_toArray, List.getElem?_cons_zero, List.getElem?_cons_succ] at p1
          have HW2 := Lib.hid hbw
          have HFL := Lib.hid hfull
          clear hbw hW2 HFU HLF hfull p0 ck0
          go_wp2_with fail
          go_roundg (2 * h' + 1)
          case measure => omega
          case rel =>
          have hc0 := (HW.out.2.2.2.2.1).trans (Chg.below HW.out.2.2.2.1 HW2.out)
          have ac := HPL.out.2.2
          have hlt : ch.its.length < 2 * (s + 1) - 1 := by have := ac.bal.most; have := HFL.out; omega
          refine ⟨h', ch, 1, rfl, rfl, Nat.le_refl _, Lib.hid ⟨HW.out.1.on HW2.out, HW.out.2.1.on HW2.out, HW.out.2.2.1.on HW2.out, ac.on HW2.out, (fun h => by cases h), (fun _ => hlt), (fun _ => hlt), ?_, ?_⟩⟩
          · have h2 := HI.out.2.2.2.2.2.2.2.1
            have h3 := occ_mem (h := h') (k := X) (show ch ∈ d.kids by rw [HPL.out.1.kids]; simp)
            rw [occ_succ] at h2
            omega
          intro w' d2 old was p
          obtain ⟨d3, q⟩ := p.lift HPL.out.1 (HW.out.2.2.2.1.on HW2.out) HLH.out.1 HLH.out.2.1 HFL.out
          exact HI.out.2.2.2.2.2.2.2.2 _ _ _ _ (q.before hc0 rfl (Nat.le_refl _) (.inl rfl))
end Go.Proofs.Ytgjcomnljonffaa.Tlv
