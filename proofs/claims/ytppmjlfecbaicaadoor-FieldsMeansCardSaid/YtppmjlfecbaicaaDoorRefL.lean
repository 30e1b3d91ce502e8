/- The document's lines. -/
import Derived.Test.YtppmjlfecbaicaaDoorAllI
namespace Go.Proofs.YtppmjlfecbaicaaDoor
open Go.RowKit
set_option linter.unusedVariables false
set_option linter.unusedSimpArgs false

/-- A line: its number, a slice of its fields. -/
structure Rec where
  n : Nat
  A : Option Addr
  c : Nat
  fs : List ByteArray
deriving Inhabited
def Rec.it (h : Rec) : Nat × List ByteArray := (h.n, h.fs)
abbrev Rec.v (h : Rec) : Value := .slice h.A h.fs.length h.c
def Rec.cells (h : Rec) : List Value := [.int .i64 (h.n : Int), h.v]
theorem info42 : ∃ (i : TypeInfo) (z : Value), Tryd.prog.info? 42 = some i ∧ i.zero = some z ∧ i.size = 2 ∧ i.bytes = 32 ∧ z.cells.size = 2 := by
  have h : (Tryd.prog.info? 42).map (fun i => (i.zero, i.size, i.bytes)) = some (some (.agg #[.int .i64 0, .slice none 0 0]), 2, 32) := by kernel_rfl
  obtain ⟨i, hi, h0, h1, h2⟩ := info_parts h
  exact ⟨i, _, hi, h0, h1, h2, rfl⟩
def kL : Kind Rec where
  e := 42
  st := 23
  size := 2
  bytes := 32
  cs := Rec.cells
  len := fun _ => rfl
  one := fun x u hu => by simp [Rec.cells] at hu; rcases hu with rfl | rfl <;> rfl
  pos := by decide
  sl := Tryd.underlying23
  zero := info42
  small := by decide
/-- The fields of each line are slices of their own. -/
def GoodL (w : World) (base : Nat) (hs : List Rec) : Prop := ∀ x ∈ hs, RowK kS w base x.v x.fs
theorem GoodL.on {w w' : World} {base : Nat} {hs : List Rec} (h : GoodL w base hs) (hb : Below w.heap.size w w') : GoodL w' base hs := fun x hx => (h x hx).on hb
theorem row_app {w w' : World} {base b2 : Nat} {v u : Value} {hs : List Rec} {fs : List ByteArray} (hout : RowK kL w base v hs) (hg : w.grownBy w' v.ownBlock) (h : RowK kS w b2 u fs) : RowK kS w' b2 u fs := by
  refine World.ownsRow.kept h hg ?_
  cases hu : u.ownBlock with
  | none => exact .inl rfl
  | some k =>
    refine .inr fun e => ?_
    rcases h.2 with ⟨rfl, _⟩ | ⟨g, cap, cur, rfl, _, hh, _⟩
    · simp [Value.ownBlock] at hu
    · rcases hout.2 with ⟨rfl, _⟩ | ⟨g', cap', cur', rfl, _, hh', _⟩
      · simp [Value.ownBlock] at e
      · simp only [Value.ownBlock, Option.some.injEq] at hu e
        subst hu
        subst e
        rw [hh] at hh'
        injection hh' with hh'
        injection hh' with _ h2
        cases h2
theorem GoodL.app {w w' : World} {base b2 : Nat} {v : Value} {hs hs2 : List Rec} (h : GoodL w b2 hs2) (hout : RowK kL w base v hs) (hg : w.grownBy w' v.ownBlock) : GoodL w' b2 hs2 := fun x hx => row_app hout hg (h x hx)
theorem rowS_setC {w : World} {base G n c : Nat} {l : List ByteArray} (h : RowK kS w base (.slice (some ⟨G, 0, none⟩) n c) l) (hn : l.length = n) (i : Nat) (x : ByteArray) :
    RowK kS (w.setCell ⟨G, i, none⟩ (.string x)) base (.slice (some ⟨G, 0, none⟩) n c) (l.set i x) ∧ w.grownBy (w.setCell ⟨G, i, none⟩ (.string x)) (some G) := by
  subst hn
  have h2 := World.ownsRow.stored h i (.string x)
  refine ⟨?_, h2.2⟩
  unfold RowK
  have e : flatK kS (l.set i x) = (flatK kS l).set i (.string x) := by rw [flat_kS, flat_kS, List.map_set]
  rw [e, List.length_set]
  exact h2.1
theorem row_some {w : World} {base : Nat} {v : Value} {l : List ByteArray} (h : RowK kS w base v l) (hl : l ≠ []) : ∃ g c, v = .slice (some ⟨g, 0, none⟩) l.length c ∧ base ≤ g ∧ c ≤ 9223372036854775807 := by
  rcases h.2 with ⟨_, h0⟩ | ⟨g, cap, cur, hv, hg, _, _, hc, _⟩
  · exact absurd (List.eq_nil_of_length_eq_zero h0) hl
  · exact ⟨g, cap, hv, hg, hc⟩
theorem row_at {w : World} {base G n c : Nat} {l : List ByteArray} (h : RowK kS w base (.slice (some ⟨G, 0, none⟩) n c) l) (hn : l.length = n) (k : Nat) (hk : k < n) (x : ByteArray) (hx : l[k]? = some x) :
    w.cell? ⟨G, k, none⟩ = some (.string x) ∧ w.frozen? ⟨G, k, none⟩ = false := by
  subst hn
  have h2 : w.ownsRow base 9 1 (.slice (some ⟨G, 0, none⟩) l.length c) l.length (flatK kS l) := h
  exact ⟨(h2.cellAt k (by omega)).trans (by rw [flat_kS, List.getElem?_map, hx]; rfl), h2.frozenAt k⟩
def LV (n : Nat) (P : List (List UInt8)) : List (Nat × List ByteArray) := (linesF n P).map fun x => (x.1, x.2.map mk)
theorem LV_none {P : List (List UInt8)} {k : Nat} (hk : k < P.length) (h : tl (sayL (P[k]'hk)) = []) : LV 1 (P.take (k + 1)) = LV 1 (P.take k) := by
  unfold LV
  rw [List.take_add_one, List.getElem?_eq_getElem hk, show (some (P[k]'hk)).toList = [P[k]'hk] from rfl, linesF_app, linesF_cons]
  unfold lineL
  rw [if_pos h]
  simp [linesF]
theorem LV_some {P : List (List UInt8)} {k : Nat} (hk : k < P.length) (h : tl (sayL (P[k]'hk)) ≠ []) : LV 1 (P.take (k + 1)) = LV 1 (P.take k) ++ [(k + 1, fieldsV (sayL (P[k]'hk)))] := by
  unfold LV
  rw [List.take_add_one, List.getElem?_eq_getElem hk, show (some (P[k]'hk)).toList = [P[k]'hk] from rfl, linesF_app, linesF_cons]
  unfold lineL
  rw [if_neg h]
  simp [linesF, fieldsV]
  omega
theorem LV_len (n : Nat) (P : List (List UInt8)) : (LV n P).length ≤ P.length := by
  unfold LV
  rw [List.length_map]
  exact lines_len n P

set_option maxHeartbeats 8000000 in
set_option maxRecDepth 100000 in
theorem refLines_any (l : List UInt8) (w : World) (hs : l.length ≤ 1000000) : Calls Tryd.prog 7 #[.string (mk l)] w fun e w' => ∃ v hs, e = .returned v ∧ hs.map Rec.it = (linesL l).map (fun x => (x.1, x.2.map mk)) ∧ RowK kL w' w.heap.size v hs ∧ GoodL w' w.heap.size hs ∧ Below w.heap.size w w' := by
  have HS1 := Lib.hid (refSplit_any (mk l) 10 w (by rw [mk_size]; exact hs))
  obtain ⟨P, hP⟩ : ∃ P, partsL 10 l = P := ⟨_, rfl⟩
  have hpl := parts_len_le 10 l
  have hpm := parts_mem_le 10 l
  rw [hP] at hpl hpm
  have HLV : Hid ((linesL l).map (fun x => (x.1, x.2.map mk)) = LV 1 P) := Lib.hid (by unfold LV linesL; rw [hP])
  have HPM : Hid (∀ x ∈ P, x.length ≤ l.length) := Lib.hid hpm
  have HSP : Hid (splitV (mk l) 10 = P.map mk) := Lib.hid (by have := splitV_parts (mk l) 10; rw [mk_data, hP] at this; exact this)
  clear hP hpm
  go_enter Tryd.func7, Tryd.ntmps7
  go_wp2_with (go_at_call 21; refine HS1.out.mono ?_; rintro e w1 ⟨v1, rfl, hr1, hb1⟩)
  rw [HSP.out] at hr1
  obtain ⟨A1, c1, n, HN, rfl, _, hd1⟩ := hr1.rdn
  rw [List.length_map] at HN
  have HD1 := Lib.hid hd1
  have HB1 := Lib.hid hb1
  clear hr1 hd1 hb1 HS1 HSP
  have hnl : n ≤ l.length + 1 := by rw [HN.out]; exact hpl
  have hle1 := HB1.out.size
  go_loopw [3, 5] (fun v i wr => ∃ (k : Nat) (hs : List Rec), i = .int .i64 k ∧ k ≤ n ∧ hs.length ≤ k ∧ Hid (hs.map Rec.it = LV 1 (P.take k)) ∧ Hid (RowK kL wr w1.heap.size v hs) ∧ Hid (GoodL wr w1.heap.size hs) ∧ Hid (Below w1.heap.size w1 wr)) (fun _ i _ => n - (intOf i).toNat)
  case atStart => exact ⟨0, [], rfl, Nat.zero_le _, Nat.le_refl _, Lib.hid rfl, Lib.hid (nil_row _ _ _), Lib.hid (fun x hx => by cases hx), Lib.hid (Below.refl _ _)⟩
  case round =>
    obtain ⟨k, hs, rfl, hk, hhs, HV, HR, HG, HW⟩ := hrel
    have hle := HW.out.size
    by_cases hlt : k < n
    · have hkP : k < P.length := by rw [← HN.out]; exact hlt
      obtain ⟨b, off, rfl, hb, x0⟩ := str_cell HD1.out HW.out (k := k) (by rw [List.length_map]; exact hkP)
      rw [List.getD_eq_getElem?_getD, List.getElem?_map, List.getElem?_eq_getElem hkP, show (Option.map mk (some (P[k]'hkP))).getD default = mk (P[k]'hkP) from rfl] at x0
      have hxs : (P[k]'hkP).length ≤ l.length := HPM.out _ (List.getElem_mem hkP)
      have HN1 := Lib.hid (LV_none hkP)
      have HN2 := Lib.hid (LV_some hkP)
      rw [HV.out.symm] at HN1 HN2
      generalize P[k]'hkP = x at *
      have HS2 : Hid (∀ W, Calls Tryd.prog 21 #[.string (mk x), .int .u8 35] W fun e w' => ∃ v, e = .returned v ∧ RowK kS w' W.heap.size v ((partsL 35 x).map mk) ∧ Below W.heap.size W w') := Lib.hid fun W => by
        have h := refSplit_any (mk x) 35 W (by rw [mk_size]; omega)
        have h2 := splitV_parts (mk x) 35
        rw [mk_data] at h2
        rw [show (35 : Int) = ((35 : UInt8).toNat : Int) from rfl, h2] at h
        exact h
      obtain ⟨q, hq⟩ : ∃ q, partsL 35 x = sayL x :: q := by
        unfold sayL
        cases hq : partsL 35 x with
        | nil => exact absurd hq (parts_ne _ _)
        | cons y q => exact ⟨q, rfl⟩
      have hys : (sayL x).length ≤ x.length := parts_mem_le 35 x _ (by rw [hq]; exact List.mem_cons_self ..)
      rw [hq, List.map_cons] at HS2
      generalize sayL x = y at *
      have HT : Hid (∀ W, Calls Tryd.prog 22 #[.string (mk y)] W fun e w' => e = .returned (.string (mk (tl y))) ∧ W = w') := Lib.hid fun W => by
        have h := refTrim_any (mk y) W (by rw [mk_size]; omega)
        rwa [trim_mk, mk_data] at h
      clear hq HV
      by_cases hte : tl y = []
      · have HV1 := Lib.hid (HN1.out hte).symm
        rw [hte, show mk [] = (⟨#[]⟩ : ByteArray) from rfl] at HT
        clear hte HN1 HN2
        go_wp2_with (first
          | (go_at_call 21; (with_reducible refine (HS2.out _).mono ?_); rintro e w2 ⟨v2, rfl, hr2, hb2⟩; obtain ⟨A2, c2, rfl, _, hd2⟩ := hr2.rd0; obtain ⟨b2, off2, rfl, _, x2⟩ := str_cell hd2 (Below.refl _ _) (k := 0) (Nat.succ_pos _); have hnz : 0 < (mk y :: List.map mk q).length := Nat.succ_pos _; have HB2 := Lib.hid (HW.out.trans (hb2.mono hle)); have HR2 := Lib.hid (HR.out.on hb2); have HG2 := Lib.hid (HG.out.on hb2); clear hr2 hb2 hd2; simp only [Nat.add_zero, List.getD_cons_zero] at x2; generalize (mk y :: List.map mk q).length = n2 at *)
          | (go_at_call 22; (with_reducible refine (HT.out _).mono ?_); rintro e w' ⟨rfl, rfl⟩))
        go_roundw
        case rel => exact ⟨k + 1, hs, by go_num, by omega, by omega, HV1, HR2, HG2, HB2⟩
        case measure => simp [intOf]; omega
      · have HV2 := Lib.hid (HN2.out hte)
        have hne : ¬ (mk (tl y)).toList = [] := by rw [mk_empty]; exact hte
        have hne2 : (mk (tl y)).toList.isEmpty = false := by simpa using hne
        have hty : (tl y).length ≤ y.length := Nat.le_trans (dr_len _) (drop_len _)
        have HS3 : Hid (∀ W, Calls Tryd.prog 21 #[.string (mk (tl y)), .int .u8 59] W fun e w' => ∃ v, e = .returned v ∧ RowK kS w' W.heap.size v ((partsL 59 (tl y)).map mk) ∧ Below W.heap.size W w') := Lib.hid fun W => by
          have h := refSplit_any (mk (tl y)) 59 W (by rw [mk_size]; omega)
          have h2 := splitV_parts (mk (tl y)) 59
          rw [mk_data] at h2
          rw [show (59 : Int) = ((59 : UInt8).toNat : Int) from rfl, h2] at h
          exact h
        have hql := parts_len_le 59 (tl y)
        have hqm := Lib.hid (parts_mem_le 59 (tl y))
        have HF : Hid (((partsL 59 (tl y)).map tl).map mk = fieldsV y) := Lib.hid (by
          have h := fields_tl (blank_ne (c := 59) (by decide)) y
          unfold fieldsV
          rw [← h]
          rfl)
        have hQne : (partsL 59 (tl y)).map mk ≠ [] := fun e => parts_ne 59 (tl y) (List.map_eq_nil_iff.1 e)
        have hFl : ((partsL 59 (tl y)).map mk).length = (fieldsV y).length := by rw [← HF.out, List.length_map, List.length_map, List.length_map]
        have HFL := Lib.hid hFl
        have HQNE := Lib.hid hQne
        rw [← List.length_map (f := mk), hFl] at hql
        clear hQne hFl
        generalize partsL 59 (tl y) = Q at *
        generalize fieldsV y = F at *
        generalize tl y = z at *
        clear hte HN1 HN2
        go_wp2_with (first
          | (go_at_call 21; (with_reducible refine (HS2.out _).mono ?_); rintro e w2 ⟨v2, rfl, hr2, hb2⟩; obtain ⟨A2, c2, rfl, _, hd2⟩ := hr2.rd0; obtain ⟨b2, off2, rfl, _, x2⟩ := str_cell hd2 (Below.refl _ _) (k := 0) (Nat.succ_pos _); have hnz : 0 < (mk y :: List.map mk q).length := Nat.succ_pos _; have HB2 := Lib.hid (HW.out.trans (hb2.mono hle)); have HR2 := Lib.hid (HR.out.on hb2); have HG2 := Lib.hid (HG.out.on hb2); clear hr2 hb2 hd2; simp only [Nat.add_zero, List.getD_cons_zero] at x2; generalize (mk y :: List.map mk q).length = n2 at *)
          | (go_at_call 22; (with_reducible refine (HT.out _).mono ?_); rintro e w' ⟨rfl, rfl⟩)
          | (go_at_call 21; (with_reducible refine (HS3.out _).mono ?_); rintro e w3 ⟨v3, rfl, hr3, hb3⟩; have HB3 := Lib.hid (HB2.out.trans (hb3.mono HB2.out.size)); have HR3 := Lib.hid (HR2.out.on hb3); have HG3 := Lib.hid (HG2.out.on hb3); have HW3 := Lib.hid hb3; have HQ3 := Lib.hid hr3; clear hb3 hr3))
        obtain ⟨g, c3, hv3, hg3, hc3⟩ := row_some HQ3.out HQNE.out
        rw [HFL.out] at hv3
        subst hv3
        have HFN : Hid (F.length = F.length) := Lib.hid rfl
        obtain ⟨n3, hn3⟩ : ∃ n3, F.length = n3 := ⟨_, rfl⟩
        rw [hn3] at HQ3 hql HFL
        have hn3' := Lib.hid hn3
        rw [hn3]
        clear hn3
        have hz2 := HB2.out.size
        go_loopw [8] (fun i wx => ∃ (j : Nat) (R : List ByteArray), i = .int .i64 j ∧ j ≤ n3 ∧ R.length = n3 ∧ Hid (R.take j = F.take j) ∧ Hid (R.drop j = (Q.map mk).drop j) ∧ Hid (RowK kS wx w2.heap.size (.slice (some ⟨g, 0, none⟩) n3 c3) R) ∧ Hid (Below w2.heap.size w2 wx)) (fun i _ => n3 - (intOf i).toNat)
        case atStart => exact ⟨0, Q.map mk, rfl, Nat.zero_le _, HFL.out, Lib.hid rfl, Lib.hid rfl, HQ3, HW3⟩
        case round =>
          obtain ⟨j, R, rfl, hj, hRn, HT4, HD4, HR4, HW4⟩ := hrel
          by_cases hjn : j < n3
          · have hQl : Q.length = n3 := by rw [← HFL.out, List.length_map]
            have hjQ : j < Q.length := by omega
            have hRj : R[j]? = some (mk (Q[j]'hjQ)) := by
              have h := congrArg (fun z => z[0]?) HD4.out
              simp only [List.getElem?_drop, Nat.add_zero, List.getElem?_map, List.getElem?_eq_getElem hjQ] at h
              exact h
            have hps : (Q[j]'hjQ).length ≤ 9223372036854775807 := by have := hqm.out _ (List.getElem_mem hjQ); omega
            have HX : Hid (F[j]? = some (mk (tl (Q[j]'hjQ)))) := Lib.hid (by rw [← HF.out, List.getElem?_map, List.getElem?_map, List.getElem?_eq_getElem hjQ]; rfl)
            have HT5 : Hid (∀ W, Calls Tryd.prog 22 #[.string (mk (Q[j]'hjQ))] W fun e w' => e = .returned (.string (mk (tl (Q[j]'hjQ)))) ∧ W = w') := Lib.hid fun W => by
              have h := refTrim_any (mk (Q[j]'hjQ)) W (by rw [mk_size]; exact hps)
              rwa [trim_mk, mk_data] at h
            generalize Q[j]'hjQ = p at *
            obtain ⟨hcA, hfA⟩ := row_at HR4.out hRn j hjn _ hRj
            have HS6 := Lib.hid (rowS_setC HR4.out hRn j (mk (tl p)))
            have hRl : j < R.length := by omega
            clear hQl hjQ hRj
            go_wp2_with (go_at_call 22; (with_reducible refine (HT5.out _).mono ?_); rintro e w' ⟨rfl, rfl⟩)
            go_roundw
            case rel => exact ⟨j + 1, R.set j (mk (tl p)), by go_num, by omega, by rw [List.length_set]; exact hRn, Lib.hid (take_set HT4.out hRl HX.out), Lib.hid (by rw [List.drop_set_of_lt (by omega), ← List.drop_drop, ← List.drop_drop, HD4.out]), Lib.hid HS6.out.1, Lib.hid (HW4.out.grown HS6.out.2 HW4.out.size (fun k hk => by cases hk; exact hg3))⟩
            case measure => simp [intOf]; omega
          · have hj2 : j = n3 := by omega
            have HE : Hid (R = F) := Lib.hid (by
              have h := HT4.out
              rwa [List.take_of_length_le (by omega), List.take_of_length_le (by rw [hn3'.out]; omega)] at h)
            have hln : hs.length + [(⟨k + 1, some ⟨g, 0, none⟩, c3, F⟩ : Rec)].length ≤ 1000000000 := by simp; omega
            have HR7 := Lib.hid (HR2.out.on HW4.out)
            have HG7 := Lib.hid (HG2.out.on HW4.out)
            have HB7 := Lib.hid (HB2.out.trans (HW4.out.mono hz2))
            have HR8 : Hid (RowK kS wr w2.heap.size (.slice (some ⟨g, 0, none⟩) F.length c3) F) := Lib.hid (by rw [hn3'.out, ← HE.out]; exact HR4.out)
            have hle7 := HB7.out.size
            have hvl := hn3'.out
            subst hvl
            clear HT4 HD4 HR4 HE
            go_wp2_with (at_builtin; refine wpList_app kL rfl _ _ rfl [(⟨k + 1, some ⟨g, 0, none⟩, c3, F⟩ : Rec)] rfl (HR7.out.alloc _) rfl (rd_block (K := kL) (l := [(⟨k + 1, some ⟨g, 0, none⟩, c3, F⟩ : Rec)]) (Blk.new _ _ _) rfl) (fun e => by cases e) hln (le_alloc hle7) ?_; intro v' w' hrow' hg'; have HB8 := Lib.hid ((HB7.out.alloc hle7 _).trans (row_below (HR7.out.alloc _) hg' (le_alloc hle7))); have HR9 := Lib.hid hrow'; have HG9 := Lib.hid ((HG7.out.on ((Below.refl _ _).alloc (Nat.le_refl _) _)).app (HR7.out.alloc _) hg'); have HX9 := Lib.hid (row_app (HR7.out.alloc _) hg' (HR8.out.alloc _)); clear hrow' hg')
            go_roundw
            case rel => exact ⟨k + 1, _, by go_num, by omega, by simp; omega, Lib.hid (by rw [List.map_append, HV2.out]; rfl), HR9, Lib.hid (fun x hx => (List.mem_append.1 hx).elim (HG9.out x) (fun h => by obtain rfl := List.mem_singleton.1 h; exact HX9.out.low hz2)), HB8⟩
            case measure => simp [intOf]; omega
    · have hk2 : k = n := by omega
      have HE : Hid (hs.map Rec.it = LV 1 P) := Lib.hid (by rw [HV.out, List.take_of_length_le (by rw [← HN.out]; omega)])
      clear HV
      go_wp2
      go_ret
      exact ⟨_, hs, rfl, by rw [HLV.out]; exact HE.out, HR.out.low hle1, fun x hx => (HG.out x hx).low hle1, HB1.out.trans (HW.out.mono hle1)⟩
end Go.Proofs.YtppmjlfecbaicaaDoor
