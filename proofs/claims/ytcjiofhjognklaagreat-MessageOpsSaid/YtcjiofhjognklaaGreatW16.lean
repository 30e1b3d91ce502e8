/- Attributes put into a writer. -/
import Derived.Test.YtcjiofhjognklaaGreatW15
import Derived.Defers
import Derived.Recover
import Derived.Deep.RegionHeld3
import Derived.Deep.RegionLaw

namespace Go.Proofs.YtcjiofhjognklaaGreat.Tlv
open Go.RowKit
set_option maxRecDepth 100000
set_option linter.unusedVariables false
set_option linter.unusedSimpArgs false
def itemI (a : At) (k : Nat) : List Int := if k = 0 then valB 1 (bytesOf (sx a.t)) else valB 2 (bytesOf (sx a.v))
/-- An attribute's bytes. -/
def atB (a : At) : List Int := valB 3 (valB 1 (bytesOf (sx a.t)) ++ valB 2 (bytesOf (sx a.v)))
def itemO (l : List At) (i : Nat) : List Int := atB (l.getD i default)
/-- Attributes' bytes. -/
def atsB (l : List At) : List Int := l.flatMap atB
theorem allI_inner (a : At) : allI (itemI a) 2 = valB 1 (bytesOf (sx a.t)) ++ valB 2 (bytesOf (sx a.v)) := by
  unfold allI itemI
  simp [List.range_succ]
theorem allI_outer (l : List At) : allI (itemO l) l.length = atsB l := by
  have h : ∀ k, k ≤ l.length → allI (itemO l) k = atsB (l.take k) := by
    intro k
    induction k with
    | zero => intro _; rfl
    | succ k ih =>
      intro hk
      rw [allI_succ, ih (by omega), take_snoc l k (by omega)]
      unfold atsB itemO
      rw [List.flatMap_append]
      simp
  rw [h l.length (Nat.le_refl _), List.take_length]
def sumA (l : List At) : Nat := (l.map fun a => a.t.length + a.v.length).sum
structure FewA (l : List At) : Prop where
  many : l.length ≤ 200
  sum : sumA l ≤ 100000
theorem bytes_sx (l : List UInt8) : (bytesOf (sx l)).length = l.length := by rw [bytesOf_length, sx_size]
theorem atB_len (a : At) : (atB a).length = 15 + (a.t.length + a.v.length) := by
  unfold atB
  rw [valB_length, List.length_append, valB_length, valB_length, bytes_sx, bytes_sx]
  omega
theorem sumA_take : ∀ (l : List At) (k : Nat), sumA (l.take k) ≤ sumA l
  | [], k => by simp [sumA]
  | x :: l, 0 => by simp [sumA]
  | x :: l, k + 1 => by
    have := sumA_take l k
    simp only [sumA, List.take_succ_cons, List.map_cons, List.sum_cons] at *
    omega
theorem atsB_len (l : List At) : (atsB l).length = 15 * l.length + sumA l := by
  induction l with
  | nil => rfl
  | cons x l ih =>
    have h : (atsB (x :: l)).length = (atB x).length + (atsB l).length := by unfold atsB; rw [List.flatMap_cons, List.length_append]
    rw [h, ih, atB_len]
    simp only [sumA, List.map_cons, List.sum_cons, List.length_cons]
    omega
theorem sumA_mem {l : List At} {x : At} (h : x ∈ l) : x.t.length + x.v.length ≤ sumA l := by
  induction l with
  | nil => cases h
  | cons y l ih =>
    simp only [sumA, List.map_cons, List.sum_cons]
    rcases List.mem_cons.1 h with rfl | h
    · omega
    · have := ih h
      unfold sumA at this
      omega
theorem allI_le (l : List At) (hf : FewA l) (k : Nat) (hk : k ≤ l.length) : (allI (itemO l) k).length ≤ 4000000 := by
  have h : ∀ k, k ≤ l.length → allI (itemO l) k = atsB (l.take k) := by
    intro k
    induction k with
    | zero => intro _; rfl
    | succ k ih =>
      intro hk
      rw [allI_succ, ih (by omega), take_snoc l k (by omega)]
      unfold atsB itemO
      rw [List.flatMap_append]
      simp
  rw [h k hk, atsB_len]
  have h1 := sumA_take l k
  have h2 := hf.many
  have h3 := hf.sum
  rw [List.length_take]
  omega
set_option maxHeartbeats 2000000 in
theorem putI_any (g B5 B4 base n c m k i : Nat) (A : Option Addr) (l : List At) (q : List Int) (w : World) (hs : WS w base g (some q) m) (hb : base ≤ w.heap.size) (h5 : Blk w B5 23 #[.slice A n c]) (h4 : Blk w B4 3 #[.int .i64 (i : Int)])
    (hr : YtcjiofhjognklaaGreat.RdK kA w w.heap.size A l) (hnl : n = l.length) (hi : i < l.length) (hf : FewA l) (hk : k < 2) (hq : q.length ≤ 4000000) (hm : m ≤ 1000000) (hgb : base ≤ g) :
    Calls Tryz.prog 113 #[.pointer (some ⟨g, 0, none⟩), .int .i64 (k : Int), .pointer (some ⟨B5, 0, none⟩), .pointer (some ⟨B4, 0, none⟩)] w fun e w' => (∃ v, e = .returned v) ∧ WS w' base g (some (q ++ itemI (l.getD i default) k)) (m + 1) ∧ WB base w w' := by
  obtain ⟨b, off, rfl, _, c0, c1⟩ := at_cells hr (Below.refl _ _) hi
  have hmem : l.getD i default ∈ l := by rw [getD_at l i hi]; exact List.getElem_mem _
  have hsz := sumA_mem hmem
  have hf2 := hf.sum
  have hin : i < n := by omega
  have hml := hf.many
  have hn2 : n ≤ 200 := by omega
  generalize l.getD i default = a at c0 c1 hsz ⊢
  have d5 := h5.cell 0
  have d4 := h4.cell 0
  have ht := Lib.hid (text_any g (some q) m 1 (sx a.t) base w hs hb (by decide) (by decide) (by rw [sx_size]; omega) (fun l' e => by injection e with e; subst e; omega) hm hgb)
  have hv := Lib.hid (text_any g (some q) m 2 (sx a.v) base w hs hb (by decide) (by decide) (by rw [sx_size]; omega) (fun l' e => by injection e with e; subst e; omega) hm hgb)
  clear hs hr h5 h4 hmem hsz hf2 hf hi hnl hml
  have hk2 : k = 0 ∨ k = 1 := by omega
  rcases hk2 with rfl | rfl
  · go_enter Tryz.func113, Tryz.ntmps113
    go_wp2_with (go_at_call 46; (with_reducible refine ht.out.mono ?_); rintro e w1 ⟨rfl, h1, h2⟩)
    go_end0
    exact ⟨⟨_, rfl⟩, by simpa [putS, cntS, itemI, valB] using h1, h2⟩
  · go_enter Tryz.func113, Tryz.ntmps113
    go_wp2_with (go_at_call 46; (with_reducible refine hv.out.mono ?_); rintro e w1 ⟨rfl, h1, h2⟩)
    go_end0
    exact ⟨⟨_, rfl⟩, by simpa [putS, cntS, itemI, valB] using h1, h2⟩
set_option maxHeartbeats 2000000 in
theorem putO_any (g B5 base n c m i : Nat) (A : Option Addr) (l : List At) (q : List Int) (w : World) (hs : WS w base g (some q) m) (hb : base ≤ w.heap.size) (h5 : Blk w B5 23 #[.slice A n c])
    (hr : YtcjiofhjognklaaGreat.RdK kA w w.heap.size A l) (hnl : n = l.length) (hi : i < l.length) (hf : FewA l) (hq : q.length ≤ 4000000) (hm : m ≤ 1000000) (hgb : base ≤ g) :
    Calls Tryz.prog 112 #[.pointer (some ⟨g, 0, none⟩), .int .i64 (i : Int), .pointer (some ⟨B5, 0, none⟩)] w fun e w' => (∃ v, e = .returned v) ∧ WS w' base g (some (q ++ itemO l i)) (m + 1) ∧ WB base w w' := by
  have hb1 : Below w.heap.size w (w.alloc (.cells #[.int .i64 (i : Int)] 3)) := (Below.refl _ _).alloc (Nat.le_refl _) _
  have h4 := Blk.new w 3 #[.int .i64 (i : Int)]
  have h5' := h5.on hb1
  have hs' := WS.on (s := some q) hs hb1
  have hr' := hr.on hb1
  have hmem : l.getD i default ∈ l := by rw [getD_at l i hi]; exact List.getElem_mem _
  have hsz := sumA_mem hmem
  have hf2 := hf.sum
  generalize hW : w.alloc (.cells #[.int .i64 (i : Int)] 3) = W at hb1 h4 h5' hs' hr'
  have hl := listI_any g B5 w.heap.size base (some q) m 2 (itemI (l.getD i default)) 3 W hs' (Nat.le_trans hb hb1.size) (by decide)
    (fun k q2 m2 W2 hk hs2 hwb hq2 hm2 => by
      have hW2 : Below W.heap.size W W2 := ((Below.refl _ _).alloc (Nat.le_refl _) _).trans hwb.bel
      exact putI_any W.heap.size B5 w.heap.size W.heap.size n c m2 k i A l q2 W2 hs2 hW2.size (h5'.on hW2) (h4.on hW2) (hr'.on hW2) hnl hi hf hk hq2 hm2 (Nat.le_refl _))
    (fun k hk => by
      have hk3 : k = 0 ∨ k = 1 ∨ k = 2 := by omega
      have e2 : (allI (itemI (l.getD i default)) 2).length = 10 + ((l.getD i default).t.length + (l.getD i default).v.length) := by
        rw [allI_inner, List.length_append, valB_length, valB_length, bytes_sx, bytes_sx]
        omega
      rcases hk3 with rfl | rfl | rfl
      · simp [allI]
      · have : (allI (itemI (l.getD i default)) 2).length = (allI (itemI (l.getD i default)) 1).length + (itemI (l.getD i default) 1).length := by rw [allI_succ, List.length_append]
        omega
      · omega)
    hgb (by decide) (by decide) (fun l' e => by injection e with e; subst e; omega) hm
  have hput : putS (some q) 3 (allI (itemI (l.getD i default)) 2) = some (q ++ itemO l i) := by
    rw [allI_inner]
    simp [putS, itemO, atB, valB]
  rw [hput, show ((2 : Nat) : Int) = 2 from rfl] at hl
  have HL := Lib.hid hl
  have HB := Lib.hid (WB.of hb1 hb)
  subst hW
  clear hl hb1 h4 h5 h5' hs hs' hr hr' hmem hsz hf2 hput hnl
  go_enter Tryz.func112, Tryz.ntmps112
  go_wp2_with (go_at_call 48; (with_reducible refine HL.out.mono ?_); rintro e w1 ⟨rfl, h1, h2⟩)
  go_end0
  exact ⟨⟨_, rfl⟩, by simpa [cntS] using h1, HB.out.trans h2⟩
set_option maxHeartbeats 2000000 in
/-- entry.Put. -/
theorem put_any (g base m : Nat) (s : Option (List Int)) (tag : Int) (l : List At) (v : Value) (w : World) (hs : WS w base g s m) (hb : base ≤ w.heap.size) (hv : RdV w v l) (hf : FewA l) (hgb : base ≤ g) (ht : 0 ≤ tag) (ht2 : tag ≤ 255) (hl : ∀ q, s = some q → q.length ≤ 100000000) (hm : m ≤ 1000000) :
    Calls Tryz.prog 47 #[.pointer (some ⟨g, 0, none⟩), .int .u8 tag, v] w fun e w' => (∃ u, e = .returned u) ∧ WS w' base g (putS s tag (atsB l)) (cntS s tag m) ∧ WB base w w' := by
  obtain ⟨A, c, rfl, _, hr⟩ := hv
  obtain ⟨n, hn⟩ : ∃ n, n = l.length := ⟨_, rfl⟩
  rw [← hn]
  have hb1 : Below w.heap.size w (w.alloc (.cells #[.slice A n c] 23)) := (Below.refl _ _).alloc (Nat.le_refl _) _
  have h5 := Blk.new w 23 #[.slice A n c]
  have hs' := WS.on hs hb1
  have hr' := hr.on hb1
  have hn2 := hf.many
  generalize hW : w.alloc (.cells #[.slice A n c] 23) = W at hb1 h5 hs' hr'
  have hll := listO_any g w.heap.size base s m n (itemO l) tag W hs' (Nat.le_trans hb hb1.size) (by omega)
    (fun k q2 m2 W2 hk hs2 hwb hq2 hm2 => by
      have hW2 : Below W.heap.size W W2 := ((Below.refl _ _).alloc (Nat.le_refl _) _).trans hwb.bel
      exact putO_any W.heap.size w.heap.size W.heap.size n c m2 k A l q2 W2 hs2 hW2.size (h5.on hW2) (hr'.on hW2) hn (by omega) hf hq2 hm2 (Nat.le_refl _))
    (fun k hk => allI_le l hf k (by omega)) hgb ht ht2 hl hm
  rw [hn, allI_outer] at hll
  rw [← hn] at hll
  have HL := Lib.hid hll
  have HB := Lib.hid (WB.of hb1 hb)
  have c5 := h5.cell 0
  subst hW
  clear hll hb1 h5 hs hs' hr hr' hn
  go_enter Tryz.func47, Tryz.ntmps47
  go_wp2_with (go_at_call 48; (with_reducible refine HL.out.mono ?_); rintro e w1 ⟨rfl, h1, h2⟩)
  go_end0
  exact ⟨⟨_, rfl⟩, h1, HB.out.trans h2⟩
end Go.Proofs.YtcjiofhjognklaaGreat.Tlv

namespace Go.Proofs.YtcjiofhjognklaaGreat.Tlv
open Go.RowKit
set_option maxRecDepth 100000
set_option linter.unusedVariables false
set_option linter.unusedSimpArgs false
theorem mayA_len {a : At} (h : mayA a = true) : a.t.length ≤ 32 ∧ a.v.length ≤ 1000 := by
  unfold mayA at h
  obtain ⟨h1, h2⟩ := Bool.and_eq_true_iff.1 h
  unfold mayT at h1
  unfold mayN at h2
  simp at h1 h2
  exact ⟨by omega, by omega⟩
theorem mayN_len {n : List UInt8} (h : mayN n = true) : n.length ≤ 1000 := by
  unfold mayN at h
  simp at h
  omega
end Go.Proofs.YtcjiofhjognklaaGreat.Tlv

namespace Go.Proofs.YtcjiofhjognklaaGreat.Tlv
open Go.RowKit
set_option maxRecDepth 100000
set_option linter.unusedVariables false
set_option linter.unusedSimpArgs false
/-- A text's bytes. -/
def u8s (l : List Int) : List UInt8 := (mkS l).data.toList
theorem sx_u8s (l : List Int) : sx (u8s l) = mkS l := data_sx _
theorem u8s_bytes (l : List UInt8) : u8s (bytesOf (sx l)) = l := by unfold u8s; rw [mkS_bytesOf, sx_data]
theorem bytes_u8s {l : List Int} (h : Byt l) : bytesOf (sx (u8s l)) = l := by rw [sx_u8s, bytesOf_mkS h]
/-- What is taken off an attribute's bytes. -/
def inA (bs : List Int) : Option (List Int) × (Bool × List Int) := tk false bs 1
def inB (bs : List Int) : Option (List Int) × (Bool × List Int) := tk (inA bs).2.1 (inA bs).2.2 2
def mkAt (bs : List Int) : At := ⟨u8s ((inA bs).1.getD []), u8s ((inB bs).1.getD [])⟩
def okAt (bs : List Int) : Bool := decide ((inB bs).2 = (false, []))
def SmA (a : At) : Prop := a.t.length + a.v.length ≤ 4194294
theorem okAt_put (a : At) (h : SmA a) : okAt (valB 1 (bytesOf (sx a.t)) ++ valB 2 (bytesOf (sx a.v))) = true ∧ mkAt (valB 1 (bytesOf (sx a.t)) ++ valB 2 (bytesOf (sx a.v))) = a := by
  unfold SmA at h
  have h1 : inA (valB 1 (bytesOf (sx a.t)) ++ valB 2 (bytesOf (sx a.v))) = (some (bytesOf (sx a.t)), (false, valB 2 (bytesOf (sx a.v)))) := tk_put (by decide) (by rw [bytes_sx]; omega)
  have h2 : inB (valB 1 (bytesOf (sx a.t)) ++ valB 2 (bytesOf (sx a.v))) = (some (bytesOf (sx a.v)), (false, [])) := by
    unfold inB
    rw [h1]
    have := tk_put (tag := 2) (xs := bytesOf (sx a.v)) (r := []) (by decide) (by rw [bytes_sx]; omega)
    rwa [List.append_nil] at this
  refine ⟨by unfold okAt; rw [h2]; rfl, ?_⟩
  unfold mkAt
  rw [h1, h2]
  show (⟨u8s (bytesOf (sx a.t)), u8s (bytesOf (sx a.v))⟩ : At) = a
  rw [u8s_bytes, u8s_bytes]
theorem okAt_inv {bs : List Int} (hb : Byt bs) (h : okAt bs = true) : bs = valB 1 (bytesOf (sx (mkAt bs).t)) ++ valB 2 (bytesOf (sx (mkAt bs).v)) := by
  have h2 : (inB bs).2 = (false, []) := of_decide_eq_true h
  unfold mkAt
  cases hA : inA bs with
  | mk oA qA =>
    obtain ⟨fA, rA⟩ := qA
    cases hB : inB bs with
    | mk oB qB =>
      rw [hB] at h2
      simp only at h2
      subst h2
      have hB' : tk fA rA 2 = (oB, (false, [])) := by
        have := hB
        unfold inB at this
        rw [hA] at this
        exact this
      cases oA with
      | none =>
        exfalso
        obtain ⟨x1, x2⟩ := tk_none hA
        subst x1
        simp [tk] at hB'
      | some vA =>
        obtain ⟨_, y2, _, y4, y5⟩ := tk_some hb hA
        subst y2
        have hbA : Byt vA := fun x hx => hb x (by rw [y4]; simp [valB, hx])
        have hbr : Byt rA := fun x hx => hb x (by rw [y4]; simp [hx])
        cases oB with
        | none =>
          exfalso
          obtain ⟨x1, x2⟩ := tk_none hB'
          cases x1
        | some vB =>
          obtain ⟨_, _, _, z4, z5⟩ := tk_some hbr hB'
          have hbB : Byt vB := fun x hx => hbr x (by rw [z4]; simp [valB, hx])
          show bs = valB 1 (bytesOf (sx (u8s vA))) ++ valB 2 (bytesOf (sx (u8s vB)))
          rw [bytes_u8s hbA, bytes_u8s hbB, y4, z4, List.append_nil]
theorem atB_cancel {a a' : At} {x y : List Int} (ha : SmA a) (ha' : SmA a') (h : atB a ++ x = atB a' ++ y) : a = a' ∧ x = y := by
  unfold SmA at ha ha'
  have e1 : tk false (atB a ++ x) 3 = (some (valB 1 (bytesOf (sx a.t)) ++ valB 2 (bytesOf (sx a.v))), (false, x)) := tk_put (by decide) (by rw [List.length_append, valB_length, valB_length, bytes_sx, bytes_sx]; omega)
  have e2 : tk false (atB a' ++ y) 3 = (some (valB 1 (bytesOf (sx a'.t)) ++ valB 2 (bytesOf (sx a'.v))), (false, y)) := tk_put (by decide) (by rw [List.length_append, valB_length, valB_length, bytes_sx, bytes_sx]; omega)
  rw [h, e2] at e1
  simp only [Prod.mk.injEq, Option.some.injEq, true_and] at e1
  obtain ⟨e3, e4⟩ := e1
  refine ⟨?_, e4.symm⟩
  have h1 := (okAt_put a ha).2
  have h2 := (okAt_put a' ha').2
  rw [← e3, h2] at h1
  exact h1.symm
theorem atsB_cons (a : At) (l : List At) : atsB (a :: l) = atB a ++ atsB l := by unfold atsB; rw [List.flatMap_cons]
/-- A round of each: an attribute is taken off, or the bytes are no attributes'. -/
theorem step_at {r : List Int} (hb : Byt r) (hst : stands r = true) :
    (okAt ((tk false r 3).1.getD []) = true ∧ (tk false r 3).2.1 = false ∧ r = atB (mkAt ((tk false r 3).1.getD [])) ++ (tk false r 3).2.2 ∧ (tk false r 3).2.2.length < r.length ∧ SmA (mkAt ((tk false r 3).1.getD []))) ∨
    ((okAt ((tk false r 3).1.getD []) = false ∨ (tk false r 3).2.2.length = r.length) ∧ ∀ l, (∀ a ∈ l, SmA a) → r ≠ atsB l) := by
  have hput : ∀ l, (∀ a ∈ l, SmA a) → r = atsB l → ∃ a l', l = a :: l' ∧ tk false r 3 = (some (valB 1 (bytesOf (sx a.t)) ++ valB 2 (bytesOf (sx a.v))), (false, atsB l')) ∧ SmA a := fun l hl e => by
    cases l with
    | nil => rw [e] at hst; simp [atsB, stands] at hst
    | cons a l' =>
      have ha := hl a (List.mem_cons_self ..)
      refine ⟨a, l', rfl, ?_, ha⟩
      rw [e, atsB_cons]
      unfold SmA at ha
      exact tk_put (by decide) (by rw [List.length_append, valB_length, valB_length, bytes_sx, bytes_sx]; omega)
  cases htk : tk false r 3 with
  | mk o q =>
    obtain ⟨f1, r1⟩ := q
    rw [htk] at hput
    cases o with
    | none =>
      obtain ⟨x1, x2⟩ := tk_none htk
      refine .inr ⟨.inr (by show r1.length = _; rw [x2]), fun l hl e => ?_⟩
      obtain ⟨a, l', _, h2, _⟩ := hput l hl e
      simp at h2
    | some bs =>
      obtain ⟨_, h2, _, h4, h5⟩ := tk_some hb htk
      have hbs : Byt bs := fun x hx => hb x (by rw [h4]; simp [valB, hx])
      show (okAt bs = true ∧ f1 = false ∧ r = atB (mkAt bs) ++ r1 ∧ r1.length < r.length ∧ SmA (mkAt bs)) ∨ ((okAt bs = false ∨ r1.length = r.length) ∧ _)
      cases hok : okAt bs with
      | true =>
        have hi := okAt_inv hbs hok
        have hl := congrArg List.length hi
        rw [List.length_append, valB_length, valB_length, bytes_sx, bytes_sx] at hl
        refine .inl ⟨rfl, h2, ?_, ?_, ?_⟩
        · unfold atB
          rw [← hi]
          exact h4
        · have := congrArg List.length h4
          rw [List.length_append, valB_length] at this
          omega
        · unfold SmA
          omega
      | false =>
        refine .inr ⟨.inl rfl, fun l hl e => ?_⟩
        obtain ⟨a, l', _, h6, h7⟩ := hput l hl e
        simp only [Prod.mk.injEq, Option.some.injEq] at h6
        have := (okAt_put a h7).1
        rw [← h6.1, hok] at this
        cases this
end Go.Proofs.YtcjiofhjognklaaGreat.Tlv

namespace Go.Proofs.YtcjiofhjognklaaGreat.Tlv
open Go.RowKit
set_option maxRecDepth 100000
set_option linter.unusedVariables false
set_option linter.unusedSimpArgs false
theorem Row.rdc {w : World} {base : Nat} {v : Value} {l : List Int} (h : Row w base v l) : ∃ A cap, v = .slice A l.length cap ∧ l.length ≤ cap ∧ cap ≤ 9223372036854775807 ∧ Rd w w.heap.size A l := by
  obtain ⟨A, cap, rfl, h1, h2⟩ := h.rd
  refine ⟨A, cap, rfl, h1, ?_, h2⟩
  rcases h.2 with ⟨e, _⟩ | ⟨g, cap', cur, e, _, _, _, h5, _⟩
  · injection e with _ _ e3
    omega
  · injection e with _ _ e3
    subst e3
    exact h5

set_option maxHeartbeats 1000000 in
theorem read_any (A : Option Addr) (c : Nat) (l : List Int) (w : World) (hr : Rd w w.heap.size A l) (hby : Byt l) (hn : l.length ≤ 100000000) :
    Calls Tryz.prog 52 #[.slice A l.length c] w fun e w' => ∃ g, e = .returned (.pointer (some ⟨g, 0, none⟩)) ∧ RS w' g g false l ∧ w.heap.size ≤ g ∧ Below w.heap.size w w' := by
  have HC := Lib.hid (clone_any A c l w hr (by omega))
  have HY := Lib.hid hby
  clear hr hby
  go_enter Tryz.func52, Tryz.ntmps52
  go_wp2_with fail
  refine HC.out.mono ?_
  rintro e w1 ⟨v, rfl, hrow, hb⟩
  obtain ⟨A', c', rfl, h1, h2, h3⟩ := hrow.rdc
  have hB := Blk.new w1 160 #[.slice A' l.length c', .bool true, .bool false]
  have hb1 : Below w1.heap.size w1 (w1.alloc (.cells #[.slice A' l.length c', .bool true, .bool false] 160)) := (Below.refl _ _).alloc (Nat.le_refl _) _
  have hr1 := h3.below hb1
  have hb2 : Below w.heap.size w (w1.alloc (.cells #[.slice A' l.length c', .bool true, .bool false] 160)) := hb.trans (hb1.mono hb.size)
  clear hrow h3 hb1
  have H := Lib.hid (And.intro hB (And.intro hr1 hb2))
  have hs := hb.size
  clear hB hr1 hb2 hb
  go_wp2
  go_ret
  exact ⟨_, rfl, ⟨Nat.le_refl _, _, _, H.out.1, H.out.2.1, HY.out, h1, h2, hn⟩, hs, H.out.2.2⟩

set_option maxHeartbeats 1000000 in
theorem rendB_any (g : Nat) (A : Option Addr) (c : Nat) (f : Bool) (r : List Int) (w : World) (hblk : Blk w g 160 #[.slice A r.length c, .bool true, .bool f]) :
    Calls Tryz.prog 59 #[.pointer (some ⟨g, 0, none⟩)] w fun e w' => (∃ n, e = .returned (.int .i64 n) ∧ (n = 0 ↔ (f = false ∧ r = []))) ∧ w' = w := by
  have c0 := hblk.cell 0
  have c1 := hblk.cell 1
  have c2 := hblk.cell 2
  clear hblk
  cases f with
  | true =>
    go_enter Tryz.func59, Tryz.ntmps59
    go_wp2
    go_ret
    exact ⟨⟨4, rfl, by simp⟩, rfl⟩
  | false =>
    cases r with
    | nil =>
      go_enter Tryz.func59, Tryz.ntmps59
      go_wp2
      go_ret
      exact ⟨⟨0, rfl, by simp⟩, rfl⟩
    | cons x t =>
      have hd : decide ((0 : Int) < ((x :: t).length : Int)) = true := by simp
      generalize hl : (x :: t).length = n at *
      have hn : 0 < n := by rw [← hl]; simp
      go_enter Tryz.func59, Tryz.ntmps59
      go_wp2
      go_ret
      exact ⟨⟨4, rfl, by simp⟩, rfl⟩
/-- The reader's block, the row's variable, rows of attributes alone were written. -/
structure CE (n0 a b : Nat) (w w' : World) : Prop where
  os : w'.os = w.os
  tape : w'.tape = w.tape
  output : w'.output = w.output
  size : w.heap.size ≤ w'.heap.size
  low : ∀ k, k < n0 → k ≠ a → k ≠ b → w'.heap[k]? = w.heap[k]?
  kp : ∀ g t cs, t ≠ 67 → g ≠ a → g ≠ b → Blk w g t cs → Blk w' g t cs
section
variable {n0 a b : Nat} {w w1 w2 : World}
theorem CE.refl (n0 a b : Nat) (w : World) : CE n0 a b w w := ⟨rfl, rfl, rfl, Nat.le_refl _, fun _ _ _ _ => rfl, fun _ _ _ _ _ _ h => h⟩
theorem CE.trans (h : CE n0 a b w w1) (k : CE n0 a b w1 w2) : CE n0 a b w w2 := ⟨k.os.trans h.os, k.tape.trans h.tape, k.output.trans h.output, Nat.le_trans h.size k.size, fun i hi h1 h2 => (k.low i hi h1 h2).trans (h.low i hi h1 h2), fun g t cs h1 h2 h3 hb => k.kp g t cs h1 h2 h3 (h.kp g t cs h1 h2 h3 hb)⟩
theorem CE.of (h : w.grownBy w1 (some a)) (hn : n0 ≤ w.heap.size) : CE n0 a b w w1 := ⟨h.os, h.tape, h.output, h.size, fun k hk h1 _ => h.block k (by omega) (fun e => by injection e with e; exact h1 e), fun g t cs _ h2 _ hb => hb.grown h (fun e => by injection e with e; exact h2 e)⟩
theorem CE.bel (h : Below w.heap.size w w1) (hn : n0 ≤ w.heap.size) : CE n0 a b w w1 := ⟨h.os, h.tape, h.output, h.size, fun k hk _ _ => h.block k (by omega), fun g t cs _ _ _ hb => hb.on h⟩
theorem CE.setB (w : World) (i : Nat) (v : Value) : CE n0 a b w (w.setCell ⟨b, i, none⟩ v) := ⟨rfl, rfl, rfl, by simp, fun k _ _ h2 => Below.heap_setCell w ⟨b, i, none⟩ v k h2, fun g t cs _ _ h3 hb => hb.far (p := ⟨b, i, none⟩) h3 v⟩
theorem CE.mono {n1 : Nat} (h : CE n0 a b w w1) (hn : n1 ≤ n0) : CE n1 a b w w1 := ⟨h.os, h.tape, h.output, h.size, fun k hk h1 h2 => h.low k (by omega) h1 h2, h.kp⟩
theorem CE.cell (h : CE n0 a b w w1) {p : Addr} (hp : p.block < n0) (h1 : p.block ≠ a) (h2 : p.block ≠ b) : w1.cell? p = w.cell? p := by
  have := h.low p.block hp h1 h2
  unfold World.cell?
  rw [this]
theorem CE.rs (h : CE n0 a b w w1) {D g : Nat} {f : Bool} {r : List Int} (hs : RS w D g f r) (h1 : g ≠ a) (h2 : g ≠ b) (h3 : D ≤ a) (h4 : D ≤ b) (h5 : D ≤ n0) : RS w1 D g f r := by
  obtain ⟨h0, A, c, x1, x2, x3⟩ := hs
  refine ⟨h0, A, c, h.kp g 160 _ (by decide) h1 h2 x1, fun hp => ?_, x3⟩
  obtain ⟨bb, off, e, hl, hc⟩ := x2 hp
  exact ⟨bb, off, e, hl, fun j hj => (h.cell (p := ⟨bb, off + j, none⟩) (show bb < n0 by omega) (show bb ≠ a by omega) (show bb ≠ b by omega)).trans (hc j hj)⟩
end
theorem CE.under {n0 a b g : Nat} {w w1 : World} (h : CE n0 g b w w1) (hg : w.heap.size ≤ g) (hn : n0 ≤ w.heap.size) : CE n0 a b w w1 :=
  ⟨h.os, h.tape, h.output, h.size, fun k hk _ h2 => h.low k hk (by omega) h2, fun k t cs h1 _ h3 hb => h.kp k t cs h1 (by have := hb.lt; omega) h3 hb⟩
/-- The append's doing. -/
theorem CE.row {n0 a b n1 : Nat} {w w1 : World} {v : Value} {l : List At} (h : w.grownBy w1 v.ownBlock) (hr : YtcjiofhjognklaaGreat.RowK kA w n1 v l) (hn : n0 ≤ n1) (hn2 : n0 ≤ w.heap.size) : CE n0 a b w w1 := by
  refine ⟨h.os, h.tape, h.output, h.size, fun k hk _ _ => h.block k (by omega) (fun e => ?_), fun g t cs h1 _ _ hb => hb.grown h (fun e => ?_)⟩
  · have := (World.ownsRow.lt hr k e.symm).1
    omega
  · rcases hr.2 with ⟨e2, _⟩ | ⟨g', cap, cur, e2, _, hh, _⟩
    · rw [e2] at e; simp [Value.ownBlock] at e
    · rw [e2] at e
      have e3 : g' = g := by simpa [Value.ownBlock] using e.symm
      subst e3
      unfold Blk at hb
      rw [hh] at hb
      injection hb with hb
      injection hb with _ ht
      exact h1 ht.symm
theorem RowK.fit {w w' : World} {base : Nat} {v : Value} {l : List At} (h : YtcjiofhjognklaaGreat.RowK kA w base v l) (hk : ∀ g, v.ownBlock = some g → w'.heap[g]? = w.heap[g]?) : YtcjiofhjognklaaGreat.RowK kA w' base v l := by
  refine ⟨h.1, ?_⟩
  rcases h.2 with h0 | ⟨g, cap, cur, hv, hg, hh, rest⟩
  · exact .inl h0
  · exact .inr ⟨g, cap, cur, hv, hg, (hk g (by rw [hv]; rfl)).trans hh, rest⟩
theorem own_at {w : World} {base : Nat} {v : Value} {l : List At} (h : YtcjiofhjognklaaGreat.RowK kA w base v l) {g : Nat} (e : v.ownBlock = some g) : base ≤ g ∧ g < w.heap.size ∧ ∃ cs, Blk w g 67 cs := by
  rcases h.2 with ⟨e2, _⟩ | ⟨g', cap, cur, e2, hg, hh, _⟩
  · rw [e2] at e; simp [Value.ownBlock] at e
  · rw [e2] at e
    have e3 : g' = g := by simpa [Value.ownBlock] using e
    subst e3
    exact ⟨hg, (Array.getElem?_eq_some_iff.1 hh).1, cur, hh⟩
theorem blk_ne {w : World} {g g' : Nat} {t t' : TypeId} {cs cs' : Array Value} (h : Blk w g t cs) (h' : Blk w g' t' cs') (hne : t ≠ t') : g ≠ g' := fun e => by
  subst e
  unfold Blk at h h'
  rw [h] at h'
  injection h' with h'
  injection h' with _ ht
  exact hne ht
end Go.Proofs.YtcjiofhjognklaaGreat.Tlv
