/- Lines and their fields, as lists of bytes. -/
import Derived.Test.YtppmjlfecbaicaaDoorTrim2
import Derived.Test.YtppmjlfecbaicaaDoorSplit
import Derived.Lib.SplitLaws
import Derived.Lib.CountLaws
import Derived.Lib.IndexBytes
namespace Go.Proofs.YtppmjlfecbaicaaDoor
open Go.RowKit
set_option linter.unusedVariables false
set_option linter.unusedSimpArgs false

def mk (l : List UInt8) : ByteArray := ⟨l.toArray⟩
theorem mk_data (l : List UInt8) : (mk l).data.toList = l := by unfold mk; simp
theorem data_mk (s : ByteArray) : mk s.data.toList = s := by cases s; unfold mk; simp
theorem mk_size (l : List UInt8) : (mk l).size = l.length := by unfold mk; exact List.size_toArray
/-- The parts between a byte. -/
def partsL (c : UInt8) : List UInt8 → List (List UInt8)
  | [] => [[]]
  | b :: t => if b = c then [] :: partsL c t else match partsL c t with
    | [] => [[b]]
    | h :: r => (b :: h) :: r
theorem parts_ne (c : UInt8) : ∀ l, partsL c l ≠ []
  | [] => by simp [partsL]
  | b :: t => by
    unfold partsL
    split
    · simp
    · cases partsL c t <;> simp
theorem parts_cons {c b : UInt8} {t : List UInt8} (h : b ≠ c) : ∃ x r, partsL c t = x :: r ∧ partsL c (b :: t) = (b :: x) :: r := by
  cases e : partsL c t with
  | nil => exact absurd e (parts_ne c t)
  | cons x r => exact ⟨x, r, rfl, by unfold partsL; rw [if_neg h, e]⟩
theorem parts_none {c : UInt8} : ∀ l : List UInt8, (∀ b ∈ l, b ≠ c) → partsL c l = [l]
  | [], _ => rfl
  | b :: t, h => by
    obtain ⟨x, r, h1, h2⟩ := parts_cons (t := t) (h b (List.mem_cons_self ..))
    rw [parts_none t fun y hy => h y (List.mem_cons_of_mem _ hy)] at h1
    injection h1 with h3 h4
    subst h3 h4
    exact h2
theorem parts_app {c : UInt8} (y : List UInt8) : ∀ l : List UInt8, partsL c (l ++ c :: y) = partsL c l ++ partsL c y
  | [] => by simp [partsL]
  | b :: t => by
    have ih := parts_app (c := c) y t
    by_cases hb : b = c
    · subst hb
      simp [partsL, ih]
    · obtain ⟨x, r, h1, h2⟩ := parts_cons (t := t) hb
      obtain ⟨x', r', h3, h4⟩ := parts_cons (t := t ++ c :: y) hb
      rw [ih, h1] at h3
      injection h3 with h5 h6
      rw [List.cons_append, h4, h2, ← h5, ← h6]
      rfl
theorem parts_first {c : UInt8} {x : List UInt8} (y : List UInt8) (h : ∀ b ∈ x, b ≠ c) : partsL c (x ++ c :: y) = x :: partsL c y := by
  rw [parts_app, parts_none x h]
  rfl
theorem parts_snoc {c b : UInt8} (hb : b ≠ c) : ∀ l : List UInt8, ∃ p x, partsL c l = p ++ [x] ∧ partsL c (l ++ [b]) = p ++ [x ++ [b]]
  | [] => ⟨[], [], rfl, by simp [partsL, hb]⟩
  | a :: t => by
    obtain ⟨p, x, h1, h2⟩ := parts_snoc hb t
    by_cases ha : a = c
    · subst ha
      exact ⟨[] :: p, x, by simp [partsL, h1], by simp [partsL, h2]⟩
    · obtain ⟨y, r, h3, h4⟩ := parts_cons (t := t) ha
      obtain ⟨y', r', h5, h6⟩ := parts_cons (t := t ++ [b]) ha
      rw [List.cons_append, h4, h6]
      rw [h1] at h3
      rw [h2] at h5
      cases p with
      | nil =>
        simp at h3 h5
        obtain ⟨rfl, rfl⟩ := h3
        obtain ⟨rfl, rfl⟩ := h5
        exact ⟨[], a :: x, rfl, rfl⟩
      | cons q p =>
        simp at h3 h5
        obtain ⟨rfl, rfl⟩ := h3
        obtain ⟨rfl, rfl⟩ := h5
        exact ⟨(a :: q) :: p, x, rfl, rfl⟩
theorem parts_len_le (c : UInt8) : ∀ l : List UInt8, (partsL c l).length ≤ l.length + 1
  | [] => Nat.le_refl _
  | b :: t => by
    have ih := parts_len_le c t
    by_cases hb : b = c
    · simp [partsL, hb]; exact ih
    · obtain ⟨x, r, h1, h2⟩ := parts_cons (t := t) hb
      rw [h2]
      rw [h1] at ih
      simp at ih ⊢
      omega
theorem parts_mem_le (c : UInt8) : ∀ (l x : List UInt8), x ∈ partsL c l → x.length ≤ l.length
  | [], x, h => by simp [partsL] at h; subst h; exact Nat.le_refl _
  | b :: t, x, h => by
    by_cases hb : b = c
    · simp [partsL, hb] at h
      rcases h with rfl | h
      · exact Nat.zero_le _
      · have := parts_mem_le c t x h; simp; omega
    · obtain ⟨y, r, h1, h2⟩ := parts_cons (t := t) hb
      rw [h2] at h
      rcases List.mem_cons.1 h with rfl | h
      · have := parts_mem_le c t y (by rw [h1]; exact List.mem_cons_self ..); simp; omega
      · have := parts_mem_le c t x (by rw [h1]; exact List.mem_cons_of_mem _ h); simp; omega

theorem idx_split (c : UInt8) : ∀ l : List UInt8, (Lib.indexByte l c = -1 ∧ ∀ b ∈ l, b ≠ c) ∨ ∃ x y : List UInt8, l = x ++ c :: y ∧ (∀ b ∈ x, b ≠ c) ∧ Lib.indexByte l c = (x.length : Int)
  | [] => .inl ⟨rfl, fun b h => by cases h⟩
  | b :: t => by
    by_cases hb : b = c
    · subst hb
      exact .inr ⟨[], t, rfl, fun b h => (by cases h), by simp [Lib.indexByte]⟩
    · have hbc : (b == c) = false := by simpa using hb
      rcases idx_split c t with ⟨h1, h2⟩ | ⟨x, y, rfl, h2, h3⟩
      · exact .inl ⟨by simp [Lib.indexByte, hbc, h1], fun a ha => (List.mem_cons.1 ha).elim (fun e => e ▸ hb) (h2 a)⟩
      · refine .inr ⟨b :: x, y, rfl, fun a ha => (List.mem_cons.1 ha).elim (fun e => e ▸ hb) (h2 a), ?_⟩
        have hn : (Lib.indexByte (x ++ c :: y) c == -1) = false := by rw [h3, beq_eq_false_iff_ne]; omega
        simp only [Lib.indexByte, hbc, hn, h3]
        simp
/-- strings.Cut at one byte. -/
theorem cut_parts (c : UInt8) (l : List UInt8) : ∃ r, (Lib.cut l [c]).1 :: r = partsL c l ∧ (r = [] → (Lib.cut l [c]).2.1 = []) ∧ (r ≠ [] → r = partsL c (Lib.cut l [c]).2.1 ∧ (Lib.cut l [c]).2.1.length < l.length) := by
  unfold Lib.cut
  rw [Lib.index_one]
  rcases idx_split c l with ⟨h1, h2⟩ | ⟨x, y, rfl, h2, h3⟩
  · rw [h1]
    exact ⟨[], (parts_none l h2).symm, fun _ => rfl, fun h => absurd rfl h⟩
  · rw [h3]
    have e : ((x.length : Int)).toNat = x.length := by omega
    simp only [e, show (0 : Int) ≤ (x.length : Int) from by omega, if_true]
    refine ⟨partsL c y, ?_, fun h => absurd h (parts_ne c y), fun _ => ⟨?_, ?_⟩⟩
    · rw [parts_first y h2]; simp
    · simp
    · simp; omega
/-- strings.Split at one byte. -/
theorem splitK_parts (c : UInt8) : ∀ (n : Nat) (l : List UInt8), l.length ≤ n → Lib.splitK [c] 0 (Lib.count l [c]) l = partsL c l
  | n, l, hn => by
    rcases idx_split c l with ⟨h1, h2⟩ | ⟨x, y, rfl, h2, h3⟩
    · rw [parts_none l h2]
      have hi : Lib.index l [c] = -1 := by rw [Lib.index_one]; exact h1
      rw [Lib.count_miss hi]
      rfl
    · have hi : Lib.index (x ++ c :: y) [c] = (x.length : Int) := by rw [Lib.index_one]; exact h3
      have hy : (x ++ c :: y).drop (x.length + [c].length) = y := by simp
      rw [Lib.count_hit (by simp) hi, hy, parts_first y h2, Nat.add_comm 1]
      unfold Lib.splitK
      have hn1 : (Lib.index (x ++ c :: y) [c] == -1) = false := by rw [hi]; rw [beq_eq_false_iff_ne]; omega
      rw [hn1, hi]
      have e : ((x.length : Int)).toNat = x.length := by omega
      simp only [Bool.false_eq_true, if_false, e, hy]
      cases n with
      | zero => simp at hn
      | succ n => rw [splitK_parts c n y (by simp at hn; omega)]; simp
theorem splitB_parts (c : UInt8) (s : ByteArray) : Lib.splitB ⟨#[c]⟩ 0 (Lib.countB s ⟨#[c]⟩) s = (partsL c s.data.toList).map mk := by
  have h := Lib.splitB_data ⟨#[c]⟩ 0 (Lib.countB s ⟨#[c]⟩) s
  rw [show ((⟨#[c]⟩ : ByteArray).data.toList) = [c] from rfl, show Lib.countB s ⟨#[c]⟩ = Lib.count s.data.toList [c] from rfl, splitK_parts c _ _ (Nat.le_refl _)] at h
  rw [← h, List.map_map]
  have e : (mk ∘ fun x : ByteArray => x.data.toList) = id := funext data_mk
  rw [e, List.map_id]
/-- The document's split. -/
theorem spl_parts (s : ByteArray) (c : UInt8) : ∀ k, k ≤ s.size → partsL c s.data.toList = (spl s (c.toNat : Int) k).1.map (·.data.toList) ++ partsL c (s.data.toList.drop (spl s (c.toNat : Int) k).2) ∧
    ∀ b ∈ (s.data.toList.take k).drop (spl s (c.toNat : Int) k).2, b ≠ c := by
  intro k
  have hl := size_list s
  induction k with
  | zero => intro _; exact ⟨rfl, fun b hb => by simp at hb⟩
  | succ k ih =>
    intro hk
    obtain ⟨h1, h2⟩ := ih (by omega)
    have hle := (spl_le s (c.toNat : Int) k).1
    rw [spl_succ]
    unfold stp
    rw [bl_get s k (by omega)]
    generalize spl s (c.toNat : Int) k = st at *
    have hkl : k < s.data.toList.length := by omega
    have hgk : s.data.toList[k]'hkl = s[k]'(by omega) := rfl
    have htk : s.data.toList.take (k + 1) = s.data.toList.take k ++ [s[k]'(by omega)] := by rw [List.take_add_one, List.getElem?_eq_getElem hkl]; rfl
    by_cases hc : s[k]'(by omega) = c
    · rw [if_pos (by rw [hc])]
      refine ⟨?_, fun b hb => ?_⟩
      · rw [h1, List.map_append, List.append_assoc]
        congr 1
        have hd : s.data.toList.drop st.2 = (s.data.toList.take k).drop st.2 ++ c :: s.data.toList.drop (k + 1) := by
          conv => lhs; rw [← List.take_append_drop k s.data.toList]
          rw [List.drop_append_of_le_length (by rw [List.length_take]; omega), List.drop_eq_getElem_cons hkl, hgk, hc]
        rw [hd, parts_first _ h2]
        simp only [List.map_cons, List.map_nil, List.singleton_append]
        rw [ext_list]
      · rw [htk, List.drop_append] at hb
        rw [List.drop_eq_nil_of_le (by rw [List.length_take]; omega), List.drop_eq_nil_of_le (by rw [List.length_take]; simp; omega)] at hb
        cases hb
    · rw [if_neg (by intro e; apply hc; exact UInt8.toNat_inj.1 (by exact_mod_cast e))]
      refine ⟨h1, fun b hb => ?_⟩
      rw [htk, List.drop_append_of_le_length (by rw [List.length_take]; omega)] at hb
      rcases List.mem_append.1 hb with h | h
      · exact h2 b h
      · simp at h; subst h; exact hc
theorem splitV_parts (s : ByteArray) (c : UInt8) : splitV s (c.toNat : Int) = (partsL c s.data.toList).map mk := by
  obtain ⟨h1, h2⟩ := spl_parts s c s.size (Nat.le_refl _)
  have hl := size_list s
  rw [List.take_of_length_le (by omega)] at h2
  rw [h1, parts_none _ h2, List.map_append, List.map_map]
  have e : (mk ∘ fun x : ByteArray => x.data.toList) = id := funext data_mk
  rw [e, List.map_id]
  unfold splitV
  congr 1
  simp only [List.map_cons, List.map_nil]
  congr 1
  rw [← data_mk (s.extract _ _), ext_list, List.take_of_length_le (by omega)]
end Go.Proofs.YtppmjlfecbaicaaDoor
