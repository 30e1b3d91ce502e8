/- A row is read from its text. -/
import Derived.Test.YtppmjlfecbaicaaDoorBack
import Derived.Test.YtppmjlfecbaicaaDoorRowTx
import Derived.Test.YtppmjlfecbaicaaDoorRowP
import Derived.Test.YtppmjlfecbaicaaDoorParts
import Derived.Test.YtppmjlfecbaicaaDoorRowTP
namespace Go.Proofs.YtppmjlfecbaicaaDoor
open Go.RowKit
set_option linter.unusedVariables false
set_option linter.unusedSimpArgs false

/-- The parts between blanks, empty ones too. -/
def partsB : List UInt8 → List (List UInt8)
  | [] => [[]]
  | b :: t => if bB b = true then [] :: partsB t else match partsB t with
    | [] => [[b]]
    | h :: r => (b :: h) :: r
theorem partsB_ne : ∀ l, partsB l ≠ []
  | [] => by simp [partsB]
  | b :: t => by
    unfold partsB
    split
    · simp
    · cases partsB t <;> simp
theorem partsB_cons {b : UInt8} {t : List UInt8} (h : bB b = false) : ∃ x r, partsB t = x :: r ∧ partsB (b :: t) = (b :: x) :: r := by
  cases e : partsB t with
  | nil => exact absurd e (partsB_ne t)
  | cons x r => exact ⟨x, r, rfl, by unfold partsB; rw [h, e]; rfl⟩
theorem partsB_none : ∀ l : List UInt8, (∀ b ∈ l, bB b = false) → partsB l = [l]
  | [], _ => rfl
  | b :: t, h => by
    obtain ⟨x, r, h1, h2⟩ := partsB_cons (t := t) (h b (List.mem_cons_self ..))
    rw [partsB_none t fun y hy => h y (List.mem_cons_of_mem _ hy)] at h1
    injection h1 with h3 h4
    subst h3 h4
    exact h2
theorem partsB_app {c : UInt8} (hc : bB c = true) (y : List UInt8) : ∀ l : List UInt8, partsB (l ++ c :: y) = partsB l ++ partsB y
  | [] => by simp [partsB, hc]
  | b :: t => by
    have ih := partsB_app hc y t
    cases hb : bB b with
    | true => simp [partsB, hb, ih]
    | false =>
      obtain ⟨x, r, h1, h2⟩ := partsB_cons (t := t) hb
      obtain ⟨x', r', h3, h4⟩ := partsB_cons (t := t ++ c :: y) hb
      rw [ih, h1] at h3
      injection h3 with h5 h6
      rw [List.cons_append, h4, h2, ← h5, ← h6]
      rfl
def full (l : List UInt8) : Bool := !l.isEmpty
theorem spans_parts (s : ByteArray) : ∀ k, k ≤ s.size → (partsB s.data.toList).filter full = (exts s (pcs s k).1).map (·.data.toList) ++ (partsB (s.data.toList.drop (pcs s k).2)).filter full ∧
    ∀ b ∈ (s.data.toList.take k).drop (pcs s k).2, bB b = false := by
  intro k
  have hl := size_list s
  induction k with
  | zero => intro _; exact ⟨rfl, fun b hb => by simp at hb⟩
  | succ k ih =>
    intro hk
    obtain ⟨h1, h2⟩ := ih (by omega)
    have hle := (pcs_le s k).1
    have hkl : k < s.data.toList.length := by omega
    have hgk : s.data.toList[k]'hkl = s[k]'(by omega) := rfl
    have htk : s.data.toList.take (k + 1) = s.data.toList.take k ++ [s[k]'(by omega)] := by rw [List.take_add_one, List.getElem?_eq_getElem hkl]; rfl
    cases hb : bB (s[k]'(by omega)) with
    | false =>
      have hb2 : isB ((bl s).getD k 0) = false := by rw [bl_get s k (by omega)]; exact hb
      rw [pcs_stay (by omega) hb2]
      refine ⟨h1, fun b hbb => ?_⟩
      rw [htk, List.drop_append_of_le_length (by rw [List.length_take]; omega)] at hbb
      rcases List.mem_append.1 hbb with h | h
      · exact h2 b h
      · simp at h; subst h; exact hb
    | true =>
      have hnb : ¬ (k < s.size ∧ isB ((bl s).getD k 0) = false) := fun h => by
        have h3 := h.2
        rw [bl_get s k (by omega)] at h3
        have : bB (s[k]'(by omega)) = false := h3
        rw [hb] at this
        cases this
      have hd : s.data.toList.drop (pcs s k).2 = (s.data.toList.take k).drop (pcs s k).2 ++ (s[k]'(by omega)) :: s.data.toList.drop (k + 1) := by
        conv => lhs; rw [← List.take_append_drop k s.data.toList]
        rw [List.drop_append_of_le_length (by rw [List.length_take]; omega), List.drop_eq_getElem_cons hkl, hgk]
      rw [h1, hd, partsB_app hb, partsB_none _ h2, List.filter_append]
      by_cases hlt : (pcs s k).2 < k
      · rw [pcs_cut hnb hlt]
        refine ⟨?_, fun b hbb => ?_⟩
        · rw [exts_app, List.map_append, List.append_assoc]
          congr 1
          have hf : full ((s.data.toList.take k).drop (pcs s k).2) = true := by
            unfold full
            rw [Bool.not_eq_true', List.isEmpty_eq_false_iff]
            intro e
            have := congrArg List.length e
            rw [List.length_drop, List.length_take] at this
            simp at this
            omega
          rw [List.filter_cons, hf]
          simp only [if_true, List.filter_nil]
          show [_] ++ _ = [_] ++ _
          congr 1
          show [(s.data.toList.take k).drop (pcs s k).2] = [(s.extract (pcs s k).2 k).data.toList]
          rw [ext_list]
        · rw [List.drop_eq_nil_of_le (by rw [List.length_take]; simp; omega)] at hbb
          cases hbb
      · rw [pcs_skip hnb hlt]
        refine ⟨?_, fun b hbb => ?_⟩
        · congr 1
          have hf : full ((s.data.toList.take k).drop (pcs s k).2) = false := by
            rw [List.drop_eq_nil_of_le (by rw [List.length_take]; omega)]
            rfl
          rw [List.filter_cons, hf]
          rfl
        · rw [List.drop_eq_nil_of_le (by rw [List.length_take]; simp; omega)] at hbb
          cases hbb
theorem exts_parts (s : ByteArray) : exts s (spans s) = ((partsB s.data.toList).filter full).map mk := by
  obtain ⟨h1, h2⟩ := spans_parts s s.size (Nat.le_refl _)
  have hl := size_list s
  rw [List.take_of_length_le (by omega)] at h2
  rw [h1, partsB_none _ h2, List.map_append, List.map_map]
  have e : (mk ∘ fun x : ByteArray => x.data.toList) = id := funext data_mk
  rw [e, List.map_id]
  unfold spans
  have hnb : ¬ (s.size < s.size ∧ isB ((bl s).getD s.size 0) = false) := fun h => by omega
  by_cases hlt : (pcs s s.size).2 < s.size
  · rw [pcs_cut hnb hlt, exts_app]
    congr 1
    have hf : full (s.data.toList.drop (pcs s s.size).2) = true := by
      unfold full
      rw [Bool.not_eq_true', List.isEmpty_eq_false_iff]
      intro e
      have := congrArg List.length e
      rw [List.length_drop] at this
      simp at this
      omega
    rw [List.filter_cons, hf]
    simp only [if_true, List.filter_nil, List.map_cons, List.map_nil]
    show [s.extract (pcs s s.size).2 s.size] = [mk (s.data.toList.drop (pcs s s.size).2)]
    congr 1
    rw [← data_mk (s.extract _ _), ext_list, List.take_of_length_le (by omega)]
  · rw [pcs_skip hnb hlt]
    have hf : full (s.data.toList.drop (pcs s s.size).2) = false := by
      rw [List.drop_eq_nil_of_le (by omega)]
      rfl
    rw [List.filter_cons, hf]
    simp

theorem step_dig {o : Option Int} {c v : Int} (h : stepV o c = some v) : ∃ d, dig c = some d := by
  unfold stepV at h
  cases o with
  | none => simp at h
  | some a => cases hd : dig c with
    | none => simp [hd] at h
    | some d => exact ⟨d, rfl⟩
theorem val_digs : ∀ (l : List Int) (o : Option Int) (v : Int), l.foldl stepV o = some v → ∀ c ∈ l, ∃ d, dig c = some d
  | [], _, _, _, c, hc => by cases hc
  | x :: l, o, v, h, c, hc => by
    rw [List.foldl_cons] at h
    rcases List.mem_cons.1 hc with rfl | hc
    · cases hs : stepV o c with
      | none => rw [hs, fold_none] at h; cases h
      | some y => exact step_dig hs
    · exact val_digs l _ v h c hc
theorem code_text {t : ByteArray} {r : Int} (h : codeV (bl t) = some r) : 4 ≤ t.size ∧ ∀ b ∈ t.data.toList, bB b = false := by
  unfold codeV at h
  rw [bl_len] at h
  by_cases hl : 4 ≤ t.size ∧ t.size ≤ 6
  · rw [if_pos hl] at h
    refine ⟨hl.1, fun b hb => ?_⟩
    cases hv : valV (bl t) with
    | none => rw [hv] at h; cases h
    | some v =>
      obtain ⟨d, hd⟩ := val_digs (bl t) (some 0) v hv (b.toNat : Int) (List.mem_map.2 ⟨b, hb, rfl⟩)
      have := dig_le hd
      unfold bB isB
      simp
      omega
  · rw [if_neg hl] at h; cases h
theorem codes_back : ∀ (l : List Int) (a : List Int), (∀ x ∈ l, 0 ≤ x ∧ x ≤ 1114111) → (l.map textV).foldl addC (some a) = some (a ++ l)
  | [], a, _ => by simp
  | x :: l, a, h => by
    rw [List.map_cons, List.foldl_cons]
    have hx := h x (List.mem_cons_self ..)
    have e : addC (some a) (textV x) = some (a ++ [x]) := by unfold addC; rw [code_back hx.1 hx.2]; rfl
    rw [e, codes_back l (a ++ [x]) fun y hy => h y (List.mem_cons_of_mem _ hy)]
    simp
theorem rtx_parts (l : List Int) (hl : ∀ x ∈ l, 0 ≤ x ∧ x ≤ 1114111) : ∀ k, k + 1 ≤ l.length → partsB (rtx l (k + 1)).data.toList = (l.take (k + 1)).map (fun x => (textV x).data.toList) ∧
    (∃ b t, (rtx l (k + 1)).data.toList = b :: t ∧ bB b = false) ∧ ∃ b t, (rtx l (k + 1)).data.toList = t ++ [b] ∧ bB b = false := by
  intro k
  have hx : ∀ j, j < l.length → 4 ≤ (textV (l.getD j default)).size ∧ ∀ b ∈ (textV (l.getD j default)).data.toList, bB b = false := fun j hj => by
    have hm : l.getD j default ∈ l := by rw [List.getD_eq_getElem?_getD, List.getElem?_eq_getElem hj]; exact List.getElem_mem hj
    have := hl _ hm
    exact code_text (code_back this.1 this.2)
  have tk : ∀ j, j < l.length → l.take (j + 1) = l.take j ++ [l.getD j default] := fun j hj => by
    rw [List.take_add_one, List.getElem?_eq_getElem hj, List.getD_eq_getElem?_getD, List.getElem?_eq_getElem hj]; rfl
  have ends : ∀ j, j < l.length → ∃ b t, (textV (l.getD j default)).data.toList = t ++ [b] ∧ bB b = false := fun j hj => by
    obtain ⟨h1, h2⟩ := hx j hj
    have hs := size_list (textV (l.getD j default))
    rcases List.eq_nil_or_concat (textV (l.getD j default)).data.toList with e | ⟨t, b, e⟩
    · rw [e, List.length_nil] at hs; omega
    · rw [List.concat_eq_append] at e
      exact ⟨b, t, e, h2 b (by rw [e]; simp)⟩
  induction k with
  | zero =>
    intro hk
    obtain ⟨h1, h2⟩ := hx 0 (by omega)
    have e : (rtx l 1).data.toList = (textV (l.getD 0 default)).data.toList := by
      rw [rtx_succ]
      unfold rst
      rw [if_neg (by omega), ba_append]
      rfl
    rw [e, tk 0 (by omega)]
    refine ⟨by rw [partsB_none _ h2]; rfl, ?_, ends 0 (by omega)⟩
    have hs := size_list (textV (l.getD 0 default))
    cases hd : (textV (l.getD 0 default)).data.toList with
    | nil => rw [hd, List.length_nil] at hs; omega
    | cons b t => exact ⟨b, t, rfl, h2 b (by rw [hd]; simp)⟩
  | succ k ih =>
    intro hk
    obtain ⟨i1, ⟨b0, t0, i2, i3⟩, _⟩ := ih (by omega)
    obtain ⟨h1, h2⟩ := hx (k + 1) (by omega)
    have e : (rtx l (k + 1 + 1)).data.toList = (rtx l (k + 1)).data.toList ++ 32 :: (textV (l.getD (k + 1) default)).data.toList := by
      rw [rtx_succ]
      unfold rst
      rw [if_pos (by omega), ba_append, ba_append]
      simp
    rw [e, tk (k + 1) (by omega), List.map_append]
    refine ⟨by rw [partsB_app (by decide), i1, partsB_none _ h2]; rfl, ⟨b0, t0 ++ 32 :: (textV (l.getD (k + 1) default)).data.toList, by rw [i2]; rfl, i3⟩, ?_⟩
    obtain ⟨b, t, h3, h4⟩ := ends (k + 1) (by omega)
    exact ⟨b, (rtx l (k + 1)).data.toList ++ 32 :: t, by rw [h3]; simp, h4⟩
/-- A row is read from its text. -/
theorem row_back {l : List Int} (h0 : l ≠ []) (hl : ∀ x ∈ l, 0 ≤ x ∧ x ≤ 1114111) : rowV (rowT l) = some l := by
  have hp : 0 < l.length := List.length_pos_iff.2 h0
  obtain ⟨h1, ⟨b, t, h2, h3⟩, b', t', h4, h5⟩ := rtx_parts l hl (l.length - 1) (by omega)
  rw [show l.length - 1 + 1 = l.length by omega] at h1 h2 h4
  rw [List.take_of_length_le (Nat.le_refl _)] at h1
  have hs := size_list (rtx l l.length)
  unfold rowV rowT
  have hsz : (rtx l l.length).size ≠ 0 := by rw [← hs, h2]; simp
  have e0 : (bl (rtx l l.length)).getD 0 0 = (b.toNat : Int) := by unfold bl; rw [h2]; rfl
  have e1 : (bl (rtx l l.length)).getD ((rtx l l.length).size - 1) 0 = (b'.toNat : Int) := by
    unfold bl
    rw [← hs, h4]
    simp
  have he : edgeB (rtx l l.length) = false := by
    unfold edgeB
    rw [e0, e1, Bool.or_eq_false_iff]
    exact ⟨h3, h5⟩
  rw [if_neg (by rw [he]; exact fun h => h.elim hsz (by decide)), exts_parts, h1]
  have hf : (l.map fun x => (textV x).data.toList).filter full = l.map fun x => (textV x).data.toList := by
    rw [List.filter_eq_self]
    intro x hx
    obtain ⟨y, hy, rfl⟩ := List.mem_map.1 hx
    have := code_text (code_back (hl y hy).1 (hl y hy).2)
    have hz := size_list (textV y)
    unfold full
    rw [Bool.not_eq_true', List.isEmpty_eq_false_iff]
    intro e
    rw [e, List.length_nil] at hz
    omega
  rw [hf, List.map_map]
  have e : (mk ∘ fun x => (textV x).data.toList) = textV := funext fun x => data_mk _
  rw [e]
  have := codes_back l [] hl
  simpa [codesV] using this
end Go.Proofs.YtppmjlfecbaicaaDoor
