/- There and back: runes from their bytes, bytes from their runes, and how both stand: plain facts. -/
import Derived.Test.YtnokocaodnanoaaJoinFns
import Derived.Test.YtnokocaodnanoaaEnc
namespace Go.Proofs.Ytnokocaodnanoaa
open Go.RowKit
set_option linter.unusedVariables false

/-- The bytes that a rune is read from are its bytes. -/
theorem next_put {f : Nat → Int} {L : Nat} (hlo : ∀ i, 0 ≤ f i) (h : nxN f L ≠ 0) : ∀ (i : Nat) (hi : i < (putI (nxR f L)).length), (putI (nxR f L))[i] = f i := by
  have h0 := hlo 0
  rcases nx_cases h with ⟨n, l, a⟩ | ⟨n, l, a, a', c1, z⟩ | ⟨n, l, a, a', c1, c2, z⟩ | ⟨n, l, a, a', c1, c2, c3, z⟩
  · have e : putI (nxR f L) = [f 0] := by rw [nxR_1 n]; unfold putI; rw [if_pos a]
    rw [e]
    intro i hi
    obtain rfl : i = 0 := by simp at hi; omega
    rfl
  · have hm := may_of_size (r := v2 f) (by omega)
    have hb : 128 ≤ v2 f ∧ v2 f ≤ 2047 := by
      unfold sizeI at z; rw [if_neg (by rw [hm]; simp)] at z
      repeat' split at z
      all_goals omega
    have hv : v2 f = f 0 % 32 * 64 + f 1 % 64 := rfl
    have e : putI (nxR f L) = [f 0, f 1] := by
      rw [nxR_2 n, q2_eq]; unfold putI; rw [if_neg (by omega), if_pos (by omega)]
      congr 1
      · omega
      · congr 1; omega
    rw [e]
    intro i hi
    have : i = 0 ∨ i = 1 := by simp at hi; omega
    rcases this with rfl | rfl <;> rfl
  · have hm := may_of_size (r := v3 f) (by omega)
    have hb : 2048 ≤ v3 f ∧ v3 f ≤ 65535 := by
      unfold sizeI at z; rw [if_neg (by rw [hm]; simp)] at z
      repeat' split at z
      all_goals omega
    have hv : v3 f = (f 0 % 16 * 64 + f 1 % 64) * 64 + f 2 % 64 := rfl
    have e : putI (nxR f L) = [f 0, f 1, f 2] := by
      rw [nxR_3 n, q3_eq]; unfold putI; rw [if_neg (by omega), if_neg (by omega), if_pos (by omega)]
      congr 1
      · omega
      · congr 1
        · omega
        · congr 1; omega
    rw [e]
    intro i hi
    have : i = 0 ∨ i = 1 ∨ i = 2 := by simp at hi; omega
    rcases this with rfl | rfl | rfl <;> rfl
  · have hm := may_of_size (r := v4 f) (by omega)
    have hb : 65536 ≤ v4 f := by
      unfold sizeI at z; rw [if_neg (by rw [hm]; simp)] at z
      repeat' split at z
      all_goals omega
    have hv : v4 f = ((f 0 % 8 * 64 + f 1 % 64) * 64 + f 2 % 64) * 64 + f 3 % 64 := rfl
    have e : putI (nxR f L) = [f 0, f 1, f 2, f 3] := by
      rw [nxR_4 n, q4_eq]; unfold putI; rw [if_neg (by omega), if_neg (by omega), if_neg (by omega)]
      congr 1
      · omega
      · congr 1
        · omega
        · congr 1
          · omega
          · congr 1; omega
    rw [e]
    intro i hi
    have : i = 0 ∨ i = 1 ∨ i = 2 ∨ i = 3 := by simp at hi; omega
    rcases this with rfl | rfl | rfl | rfl <;> rfl

/-- A rune is read from its bytes. -/
theorem put_next {f : Nat → Int} {L : Nat} {z : Int} (hm : mayB z = true) (hf : ∀ (i : Nat) (hi : i < (putI z).length), f i = (putI z)[i]) (hL : (putI z).length ≤ L) :
    nxN f L = ((putI z).length : Int) ∧ nxR f L = z := by
  have hr : 0 ≤ z ∧ z ≤ 1114111 := by unfold mayB at hm; simp at hm; omega
  have hz := putI_len hm
  by_cases a1 : z ≤ 127
  · have e : putI z = [z] := by unfold putI; rw [if_pos a1]
    rw [e] at hf hL ⊢
    have f0 : f 0 = z := hf 0 (by simp)
    simp only [List.length_cons, List.length_nil] at hL
    have hn : nxN f L = 1 := by unfold nxN; rw [if_neg (by omega), if_pos (by omega)]
    exact ⟨hn, by rw [nxR_1 hn, f0]⟩
  by_cases a2 : z ≤ 2047
  · have e : putI z = [192 + z / 64, 128 + z % 64] := by unfold putI; rw [if_neg a1, if_pos a2]
    have hs : sizeI z = 2 := by rw [← hz, e]; rfl
    rw [e] at hf hL ⊢
    have f0 : f 0 = 192 + z / 64 := hf 0 (by simp)
    have f1 : f 1 = 128 + z % 64 := hf 1 (by simp)
    have hv : v2 f = z := by unfold v2; omega
    simp only [List.length_cons, List.length_nil] at hL
    have hn : nxN f L = 2 := by unfold nxN; rw [if_neg (by omega), if_neg (by omega), if_neg (by omega), if_pos (by omega), if_pos ⟨by omega, ⟨by omega, by omega⟩, by rw [hv]; exact hs⟩]
    exact ⟨hn, by rw [nxR_2 hn, q2_eq, hv]⟩
  by_cases a3 : z ≤ 65535
  · have e : putI z = [224 + z / 4096, 128 + z / 64 % 64, 128 + z % 64] := by unfold putI; rw [if_neg a1, if_neg a2, if_pos a3]
    have hs : sizeI z = 3 := by rw [← hz, e]; rfl
    rw [e] at hf hL ⊢
    have f0 : f 0 = 224 + z / 4096 := hf 0 (by simp)
    have f1 : f 1 = 128 + z / 64 % 64 := hf 1 (by simp)
    have f2 : f 2 = 128 + z % 64 := hf 2 (by simp)
    have hv : v3 f = z := by unfold v3; omega
    simp only [List.length_cons, List.length_nil] at hL
    have hn : nxN f L = 3 := by unfold nxN; rw [if_neg (by omega), if_neg (by omega), if_neg (by omega), if_neg (by omega), if_pos (by omega), if_pos ⟨by omega, ⟨by omega, by omega⟩, ⟨by omega, by omega⟩, by rw [hv]; exact hs⟩]
    exact ⟨hn, by rw [nxR_3 hn, q3_eq, hv]⟩
  · have e : putI z = [240 + z / 262144, 128 + z / 4096 % 64, 128 + z / 64 % 64, 128 + z % 64] := by unfold putI; rw [if_neg a1, if_neg a2, if_neg a3]
    have hs : sizeI z = 4 := by rw [← hz, e]; rfl
    rw [e] at hf hL ⊢
    have f0 : f 0 = 240 + z / 262144 := hf 0 (by simp)
    have f1 : f 1 = 128 + z / 4096 % 64 := hf 1 (by simp)
    have f2 : f 2 = 128 + z / 64 % 64 := hf 2 (by simp)
    have f3 : f 3 = 128 + z % 64 := hf 3 (by simp)
    have hv : v4 f = z := by unfold v4; omega
    simp only [List.length_cons, List.length_nil] at hL
    have hn : nxN f L = 4 := by unfold nxN; rw [if_neg (by omega), if_neg (by omega), if_neg (by omega), if_neg (by omega), if_neg (by omega), if_pos (by omega), if_pos ⟨by omega, ⟨by omega, by omega⟩, ⟨by omega, by omega⟩, ⟨by omega, by omega⟩, by rw [hv]; exact hs⟩]
    exact ⟨hn, by rw [nxR_4 hn, q4_eq, hv]⟩

theorem encI_range {zs : List Int} (hm : ∀ z ∈ zs, mayB z = true) : ∀ x ∈ encI zs, 0 ≤ x ∧ x ≤ 255 := by
  intro x hx
  obtain ⟨z, hz, hx⟩ := List.mem_flatMap.1 hx
  exact putI_range (hm z hz) x hx
theorem putI_pos (z : Int) : 0 < (putI z).length := by unfold putI; (repeat' split) <;> simp

/-- Decoding a text that holds the bytes of runes from a place on to its end. -/
theorem dec_enc (s : ByteArray) : ∀ (zs : List Int) (a : Nat), (∀ z ∈ zs, mayB z = true) → a + (encI zs).length = s.size →
    (∀ (i : Nat) (hi : i < (encI zs).length), bt s (a + i) = (encI zs)[i]) → dec s a = (zs, s.size) := by
  intro zs
  induction zs with
  | nil =>
    intro a _ hl _
    have : a = s.size := by simpa [encI] using hl
    rw [dec_stop (NN_zero_past s a (by omega)), this]
  | cons z t ih =>
    intro a hm hl hb
    have e : encI (z :: t) = putI z ++ encI t := by simp [encI]
    rw [e] at hl hb
    rw [List.length_append] at hl
    have hmz := hm z (by simp)
    obtain ⟨h1, h2⟩ := put_next (f := fun i => bt s (a + i)) (L := s.size - a) hmz (fun i hi => by
      have := hb i (by rw [List.length_append]; omega)
      rw [List.getElem_append_left hi] at this
      exact this) (by omega)
    have hn : NN s a = ((putI z).length : Int) := h1
    have hr : RR s a = z := h2
    have hp := putI_pos z
    rw [dec_step (by rw [hn]; omega), hn, hr, Int.toNat_natCast, ih (a + (putI z).length) (fun x hx => hm x (by simp [hx])) (by omega) (fun i hi => by
      have := hb ((putI z).length + i) (by rw [List.length_append]; omega)
      rw [List.getElem_append_right (by omega)] at this
      simp only [Nat.add_sub_cancel_left] at this
      rw [Nat.add_assoc]; exact this)]
theorem enc_back (zs : List Int) (hm : ∀ z ∈ zs, mayB z = true) : runes (mkS (encI zs)) = zs ∧ upto (mkS (encI zs)) = (mkS (encI zs)).size := by
  have := dec_enc (mkS (encI zs)) zs 0 hm (by rw [mkS_size]; omega) (fun i hi => by rw [Nat.zero_add]; exact bt_mkS _ (encI_range hm) i hi)
  unfold runes upto
  rw [this]
  exact ⟨rfl, rfl⟩

/-- The runes of a text have its bytes, up to where it is well made. -/
theorem dec_bytes (s : ByteArray) : ∀ (f a : Nat), s.size - a ≤ f → a ≤ s.size →
    a + (encI (dec s a).1).length = (dec s a).2 ∧ (∀ (i : Nat) (hi : i < (encI (dec s a).1).length), (encI (dec s a).1)[i] = bt s (a + i)) ∧ (∀ z ∈ (dec s a).1, mayB z = true) := by
  intro f
  induction f with
  | zero =>
    intro a hf ha
    rw [dec_stop (NN_zero_past s a (by omega))]
    exact ⟨by simp [encI], fun i hi => by simp [encI] at hi, by simp⟩
  | succ f ih =>
    intro a hf ha
    by_cases hn : NN s a = 0
    · rw [dec_stop hn]
      exact ⟨by simp [encI], fun i hi => by simp [encI] at hi, by simp⟩
    · have hr := NN_range s a
      obtain ⟨hm, hl⟩ := NN_size hn
      obtain ⟨g1, g2, g3⟩ := ih (a + (NN s a).toNat) (by omega) (by omega)
      have hb := next_put (f := fun i => bt s (a + i)) (L := s.size - a) (fun i => bt_lo _ _) hn
      rw [dec_step hn]
      have e : encI (RR s a :: (dec s (a + (NN s a).toNat)).1) = putI (RR s a) ++ encI (dec s (a + (NN s a).toNat)).1 := by simp [encI]
      simp only
      refine ⟨by rw [e, List.length_append]; omega, fun i hi => ?_, fun z hz => ?_⟩
      · simp only [e] at hi ⊢
        by_cases hi2 : i < (putI (RR s a)).length
        · rw [List.getElem_append_left hi2]; exact hb i hi2
        · rw [List.getElem_append_right (by omega)]
          rw [List.length_append] at hi
          rw [g2 _ (by omega)]
          congr 1
          omega
      · rcases List.mem_cons.1 hz with rfl | hz
        · exact hm
        · exact g3 z hz
theorem runes_may (s : ByteArray) : ∀ z ∈ runes s, mayB z = true := (dec_bytes s s.size 0 (by omega) (by omega)).2.2
theorem dec_back (s : ByteArray) (hv : upto s = s.size) : mkS (encI (runes s)) = s := by
  obtain ⟨g1, g2, g3⟩ := dec_bytes s s.size 0 (by omega) (by omega)
  have hl : (encI (runes s)).length = s.size := by unfold runes; unfold upto at hv; omega
  refine ba_ext (by rw [mkS_size, hl]) fun i hi => ?_
  rw [mkS_size] at hi
  rw [bt_mkS (encI (runes s)) (encI_range (runes_may s)) i hi]
  have := g2 i hi
  rw [Nat.zero_add] at this
  exact this

/-- How two lists of numbers stand. -/
def lessI : List Int → List Int → Bool
  | _, [] => false
  | [], _ :: _ => true
  | a :: x, b :: y => decide (a < b) || (decide (a = b) && lessI x y)
theorem less_put {z z' : Int} (hm : mayB z = true) (hm' : mayB z' = true) (hne : z ≠ z') (x y : List Int) : lessI (putI z ++ x) (putI z' ++ y) = decide (z < z') := by
  have hr : 0 ≤ z ∧ z ≤ 1114111 := by unfold mayB at hm; simp at hm; omega
  have hr' : 0 ≤ z' ∧ z' ≤ 1114111 := by unfold mayB at hm'; simp at hm'; omega
  unfold putI
  repeat' split
  all_goals
    simp only [List.cons_append, List.nil_append, lessI]
    rw [Bool.eq_iff_iff]
    simp only [Bool.or_eq_true, Bool.and_eq_true, decide_eq_true_eq]
    omega
theorem less_same (p x y : List Int) : lessI (p ++ x) (p ++ y) = lessI x y := by
  induction p with
  | nil => rfl
  | cons a t ih => simp [lessI, ih]
theorem less_enc : ∀ (a b : List Int), (∀ z ∈ a, mayB z = true) → (∀ z ∈ b, mayB z = true) → lessI (encI a) (encI b) = lessI a b := by
  intro a
  induction a with
  | nil =>
    intro b _ hb
    cases b with
    | nil => rfl
    | cons z t =>
      have e : encI (z :: t) = putI z ++ encI t := by simp [encI]
      have hp := putI_pos z
      rw [e]
      cases hpz : putI z with
      | nil => rw [hpz] at hp; simp at hp
      | cons u v => rfl
  | cons z t ih =>
    intro b ha hb
    cases b with
    | nil => simp [encI, lessI]
    | cons z' t' =>
      have e : encI (z :: t) = putI z ++ encI t := by simp [encI]
      have e' : encI (z' :: t') = putI z' ++ encI t' := by simp [encI]
      rw [e, e', lessI]
      by_cases h : z = z'
      · subst h
        rw [less_same, ih t' (fun x hx => ha x (by simp [hx])) (fun x hx => hb x (by simp [hx]))]
        simp
      · rw [less_put (ha z (by simp)) (hb z' (by simp)) h, decide_eq_false h]
        simp
theorem less_bytes : ∀ (x y : List Int), (∀ u ∈ x, 0 ≤ u ∧ u ≤ 255) → (∀ u ∈ y, 0 ≤ u ∧ u ≤ 255) →
    Op.bytesLess (x.map (fun n => UInt8.ofNat n.toNat)) (y.map (fun n => UInt8.ofNat n.toNat)) = lessI x y := by
  intro x
  induction x with
  | nil =>
    intro y _ _
    cases y with
    | nil => rfl
    | cons b y => rfl
  | cons a x ih =>
    intro y hx hy
    cases y with
    | nil => rfl
    | cons b y =>
      have ha := hx a (by simp)
      have hb := hy b (by simp)
      have e1 : (UInt8.ofNat a.toNat < UInt8.ofNat b.toNat) = (a < b) := by
        apply propext
        rw [UInt8.lt_iff_toNat_lt, UInt8.toNat_ofNat', UInt8.toNat_ofNat']
        omega
      have e2 : (UInt8.ofNat a.toNat == UInt8.ofNat b.toNat) = decide (a = b) := by
        rw [Bool.eq_iff_iff, beq_iff_eq, decide_eq_true_iff, ← UInt8.toNat_inj, UInt8.toNat_ofNat', UInt8.toNat_ofNat']
        omega
      rw [List.map_cons, List.map_cons, Op.bytesLess, lessI, ih y (fun u hu => hx u (by simp [hu])) (fun u hu => hy u (by simp [hu])), e2]
      simp only [e1]
theorem less_text (a b : List Int) (ha : ∀ z ∈ a, mayB z = true) (hb : ∀ z ∈ b, mayB z = true) : Op.bytesLess (mkS (encI a)).toList (mkS (encI b)).toList = lessI a b := by
  rw [ByteArray.toList_eq, ByteArray.toList_eq, mkS_data, mkS_data, less_bytes _ _ (encI_range ha) (encI_range hb), less_enc a b ha hb]
end Go.Proofs.Ytnokocaodnanoaa
