/- Attributes' bytes are read but in one way. -/
import Derived.Test.YtlhbnmaalhainaaTBytes
namespace Go.Proofs.Ytlhbnmaalhainaa.Tlv
open Go.RowKit
set_option maxRecDepth 100000
set_option linter.unusedVariables false
set_option linter.unusedSimpArgs false

/-- A text's bytes. -/
def u8s (l : List Int) : List UInt8 := (mkS l).data.toList
theorem sx_u8s (l : List Int) : sx (u8s l) = mkS l := data_sx _
theorem u8s_bytes (l : List UInt8) : u8s (bytesOf (sx l)) = l := by unfold u8s; rw [mkS_bytesOf, sx_data]
theorem bytes_u8s {l : List Int} (h : Byt l) : bytesOf (sx (u8s l)) = l := by rw [sx_u8s, bytesOf_mkS h]
/-- What is taken off an attribute's bytes. -/
def inA (bs : List Int) : Option (List Int) × (Bool × List Int) := tk false bs 1
def inB (bs : List Int) : Option (List Int) × (Bool × List Int) := tk (inA bs).2.1 (inA bs).2.2 2
def mkAt (bs : List Int) : At := ⟨u8s ((inA bs).1.getD []), u8s ((inB bs).1.getD [])⟩
def okAt (bs : List Int) : Bool := decide ((inB bs).2 = (false, []))
def SmA (a : At) : Prop := a.t.length + a.v.length ≤ 4194294
theorem okAt_put (a : At) (h : SmA a) : okAt (valB 1 (bytesOf (sx a.t)) ++ valB 2 (bytesOf (sx a.v))) = true ∧ mkAt (valB 1 (bytesOf (sx a.t)) ++ valB 2 (bytesOf (sx a.v))) = a := by
  unfold SmA at h
  have h1 : inA (valB 1 (bytesOf (sx a.t)) ++ valB 2 (bytesOf (sx a.v))) = (some (bytesOf (sx a.t)), (false, valB 2 (bytesOf (sx a.v)))) := tk_put (by decide) (by rw [bytes_sx]; omega)
  have h2 : inB (valB 1 (bytesOf (sx a.t)) ++ valB 2 (bytesOf (sx a.v))) = (some (bytesOf (sx a.v)), (false, [])) := by
    unfold inB
    rw [h1]
    have := tk_put (tag := 2) (xs := bytesOf (sx a.v)) (r := []) (by decide) (by rw [bytes_sx]; omega)
    rwa [List.append_nil] at this
  refine ⟨by unfold okAt; rw [h2]; rfl, ?_⟩
  unfold mkAt
  rw [h1, h2]
  show (⟨u8s (bytesOf (sx a.t)), u8s (bytesOf (sx a.v))⟩ : At) = a
  rw [u8s_bytes, u8s_bytes]
theorem okAt_inv {bs : List Int} (hb : Byt bs) (h : okAt bs = true) : bs = valB 1 (bytesOf (sx (mkAt bs).t)) ++ valB 2 (bytesOf (sx (mkAt bs).v)) := by
  have h2 : (inB bs).2 = (false, []) := of_decide_eq_true h
  unfold mkAt
  cases hA : inA bs with
  | mk oA qA =>
    obtain ⟨fA, rA⟩ := qA
    cases hB : inB bs with
    | mk oB qB =>
      rw [hB] at h2
      simp only at h2
      subst h2
      have hB' : tk fA rA 2 = (oB, (false, [])) := by
        have := hB
        unfold inB at this
        rw [hA] at this
        exact this
      cases oA with
      | none =>
        exfalso
        obtain ⟨x1, x2⟩ := tk_none hA
        subst x1
        simp [tk] at hB'
      | some vA =>
        obtain ⟨_, y2, _, y4, y5⟩ := tk_some hb hA
        subst y2
        have hbA : Byt vA := fun x hx => hb x (by rw [y4]; simp [valB, hx])
        have hbr : Byt rA := fun x hx => hb x (by rw [y4]; simp [hx])
        cases oB with
        | none =>
          exfalso
          obtain ⟨x1, x2⟩ := tk_none hB'
          cases x1
        | some vB =>
          obtain ⟨_, _, _, z4, z5⟩ := tk_some hbr hB'
          have hbB : Byt vB := fun x hx => hbr x (by rw [z4]; simp [valB, hx])
          show bs = valB 1 (bytesOf (sx (u8s vA))) ++ valB 2 (bytesOf (sx (u8s vB)))
          rw [bytes_u8s hbA, bytes_u8s hbB, y4, z4, List.append_nil]
theorem atB_cancel {a a' : At} {x y : List Int} (ha : SmA a) (ha' : SmA a') (h : atB a ++ x = atB a' ++ y) : a = a' ∧ x = y := by
  unfold SmA at ha ha'
  have e1 : tk false (atB a ++ x) 3 = (some (valB 1 (bytesOf (sx a.t)) ++ valB 2 (bytesOf (sx a.v))), (false, x)) := tk_put (by decide) (by rw [List.length_append, valB_length, valB_length, bytes_sx, bytes_sx]; omega)
  have e2 : tk false (atB a' ++ y) 3 = (some (valB 1 (bytesOf (sx a'.t)) ++ valB 2 (bytesOf (sx a'.v))), (false, y)) := tk_put (by decide) (by rw [List.length_append, valB_length, valB_length, bytes_sx, bytes_sx]; omega)
  rw [h, e2] at e1
  simp only [Prod.mk.injEq, Option.some.injEq, true_and] at e1
  obtain ⟨e3, e4⟩ := e1
  refine ⟨?_, e4.symm⟩
  have h1 := (okAt_put a ha).2
  have h2 := (okAt_put a' ha').2
  rw [← e3, h2] at h1
  exact h1.symm
theorem atsB_cons (a : At) (l : List At) : atsB (a :: l) = atB a ++ atsB l := by unfold atsB; rw [List.flatMap_cons]
theorem atsB_append (a l : List At) : atsB (a ++ l) = atsB a ++ atsB l := by unfold atsB; rw [List.flatMap_append]
/-- What begins with some attributes' bytes begins so in no other way. -/
theorem atsB_prefix : ∀ (acc l : List At) (r : List Int), (∀ a ∈ acc, SmA a) → (∀ a ∈ l, SmA a) → atsB acc ++ r = atsB l → ∃ l', l = acc ++ l' ∧ r = atsB l'
  | [], l, r, _, _, h => ⟨l, rfl, h⟩
  | a :: acc, [], r, _, _, h => by
    rw [atsB_cons] at h
    have := congrArg List.length h
    rw [List.length_append, List.length_append, atB_len] at this
    simp [atsB] at this
  | a :: acc, a' :: l, r, h1, h2, h => by
    rw [atsB_cons, atsB_cons, List.append_assoc] at h
    obtain ⟨e1, e2⟩ := atB_cancel (h1 a (List.mem_cons_self ..)) (h2 a' (List.mem_cons_self ..)) h
    obtain ⟨l', e3, e4⟩ := atsB_prefix acc l r (fun x hx => h1 x (List.mem_cons_of_mem _ hx)) (fun x hx => h2 x (List.mem_cons_of_mem _ hx)) e2
    exact ⟨l', by rw [e1, e3]; rfl, e4⟩
/-- A round of each: an attribute is taken off, or the bytes are no attributes'. -/
theorem step_at {r : List Int} (hb : Byt r) (hst : stands r = true) :
    (okAt ((tk false r 3).1.getD []) = true ∧ (tk false r 3).2.1 = false ∧ r = atB (mkAt ((tk false r 3).1.getD [])) ++ (tk false r 3).2.2 ∧ (tk false r 3).2.2.length < r.length ∧ SmA (mkAt ((tk false r 3).1.getD []))) ∨
    ((okAt ((tk false r 3).1.getD []) = false ∨ (tk false r 3).2.2.length = r.length) ∧ ∀ l, (∀ a ∈ l, SmA a) → r ≠ atsB l) := by
  have hput : ∀ l, (∀ a ∈ l, SmA a) → r = atsB l → ∃ a l', l = a :: l' ∧ tk false r 3 = (some (valB 1 (bytesOf (sx a.t)) ++ valB 2 (bytesOf (sx a.v))), (false, atsB l')) ∧ SmA a := fun l hl e => by
    cases l with
    | nil => rw [e] at hst; simp [atsB, stands] at hst
    | cons a l' =>
      have ha := hl a (List.mem_cons_self ..)
      refine ⟨a, l', rfl, ?_, ha⟩
      rw [e, atsB_cons]
      unfold SmA at ha
      exact tk_put (by decide) (by rw [List.length_append, valB_length, valB_length, bytes_sx, bytes_sx]; omega)
  cases htk : tk false r 3 with
  | mk o q =>
    obtain ⟨f1, r1⟩ := q
    rw [htk] at hput
    cases o with
    | none =>
      obtain ⟨x1, x2⟩ := tk_none htk
      refine .inr ⟨.inr (by show r1.length = _; rw [x2]), fun l hl e => ?_⟩
      obtain ⟨a, l', _, h2, _⟩ := hput l hl e
      simp at h2
    | some bs =>
      obtain ⟨_, h2, _, h4, h5⟩ := tk_some hb htk
      have hbs : Byt bs := fun x hx => hb x (by rw [h4]; simp [valB, hx])
      show (okAt bs = true ∧ f1 = false ∧ r = atB (mkAt bs) ++ r1 ∧ r1.length < r.length ∧ SmA (mkAt bs)) ∨ ((okAt bs = false ∨ r1.length = r.length) ∧ _)
      cases hok : okAt bs with
      | true =>
        have hi := okAt_inv hbs hok
        have hl := congrArg List.length hi
        rw [List.length_append, valB_length, valB_length, bytes_sx, bytes_sx] at hl
        refine .inl ⟨rfl, h2, ?_, ?_, ?_⟩
        · unfold atB
          rw [← hi]
          exact h4
        · have := congrArg List.length h4
          rw [List.length_append, valB_length] at this
          omega
        · unfold SmA
          omega
      | false =>
        refine .inr ⟨.inl rfl, fun l hl e => ?_⟩
        obtain ⟨a, l', _, h6, h7⟩ := hput l hl e
        simp only [Prod.mk.injEq, Option.some.injEq] at h6
        have := (okAt_put a h7).1
        rw [← h6.1, hok] at this
        cases this
end Go.Proofs.Ytlhbnmaalhainaa.Tlv
