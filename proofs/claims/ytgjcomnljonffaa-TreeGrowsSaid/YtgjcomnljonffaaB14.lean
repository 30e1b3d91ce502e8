/- A split, as a change of a tree. -/
import Derived.Test.YtgjcomnljonffaaB11
import Derived.Test.YtgjcomnljonffaaB13
namespace Go.Proofs.Ytgjcomnljonffaa.Tlv
open Go.RowKit
set_option maxRecDepth 100000
set_option linter.unusedVariables false
set_option linter.unusedSimpArgs false
def SplitChg (h s : Nat) (d c : Nd) (i1 i2 : List It) (k1 k2 : List Nd) (w : World) (e : Ending) (w' : World) : Prop :=
  ∃ l m r c' R d', e = .returned (.tuple #[]) ∧ c.its = l ++ m :: r ∧ l.length = s ∧ r.length = s ∧ d'.its = i1 ++ m :: i2 ∧ d'.kids = k1 ++ c' :: R :: k2 ∧ c'.its = l ∧ R.its = r ∧ Chg (s + 1) (h + 1) w d w' d' ∧ flat (h + 1) d' = flat (h + 1) d
theorem kidsOk_take {t h n m : Nat} {l : List Nd} (a : KidsOk t h n l) (hm : m + 1 ≤ n + 1) : KidsOk t h m (l.take (m + 1)) := by
  cases h with
  | zero => have : l = [] := a; subst this; rfl
  | succ h => exact ⟨by have := a.1; simp; omega, fun c hc => a.2 c (List.mem_of_mem_take hc)⟩
theorem kidsOk_drop {t h n m : Nat} {l : List Nd} (a : KidsOk t h n l) (hm : m + 1 ≤ n) : KidsOk t h (n - (m + 1)) (l.drop (m + 1)) := by
  cases h with
  | zero => have : l = [] := a; subst this; rfl
  | succ h => exact ⟨by have := a.1; simp; omega, fun c hc => a.2 c (List.mem_of_mem_drop hc)⟩
/-- The pure part: what a split's outcome is as a change. -/
theorem split_pure {h s : Nat} {d c : Nd} {i1 i2 l r : List It} {m : It} {k1 k2 : List Nd} {w w' : World} {A3 : Option Addr} {c3 R : Nat} {vi vk vR vkR vkC' : Value}
    (a : TS (s + 1) (h + 1) w d) (hi : d.its = i1 ++ i2) (hk : d.kids = k1 ++ c :: k2) (hl : i1.length = k1.length) (hs : 1 ≤ s ∧ s ≤ 63) (hroom : d.its.length < 2 * (s + 1) - 1)
    (hc : c.its = l ++ m :: r) (hll : l.length = s) (hrl : r.length = s) (hvi : (Value.slice A3 s c3).ownBlock = c.vi.ownBlock)
    (o1 : Blk w' d.n 59 #[vi, vk]) (o2 : RowK kI w' 0 vi (i1 ++ m :: i2)) (o3 : RowK kP w' 0 vk (k1.map Nd.n ++ c.n :: R :: k2.map Nd.n)) (o4 : Blk w' c.n 59 #[.slice A3 s c3, vkC'])
    (o5 : RowK kI w' 0 (.slice A3 s c3) l) (o6 : RowK kP w' 0 vkC' ((c.kids.take (s + 1)).map Nd.n)) (o7 : Blk w' R 59 #[vR, vkR]) (o8 : RowK kI w' w.heap.size vR r) (o9 : RowK kP w' w.heap.size vkR ((c.kids.drop (s + 1)).map Nd.n)) (o10 : w.heap.size ≤ R)
    (o11 : vi.ownBlock = d.vi.ownBlock ∨ ∃ k, vi.ownBlock = some k ∧ w.heap.size ≤ k) (o12 : vk.ownBlock = d.vk.ownBlock ∨ ∃ k, vk.ownBlock = some k ∧ w.heap.size ≤ k) (o13 : vkC'.ownBlock = c.vk.ownBlock)
    (o14 : Fr (fun k => k = d.n ∨ k = c.n ∨ d.vi.ownBlock = some k ∨ d.vk.ownBlock = some k ∨ c.vi.ownBlock = some k ∨ c.vk.ownBlock = some k) w w')
    (o15 : ∀ k, vi.ownBlock = some k → vR.ownBlock ≠ some k) (o16 : ∀ k, vk.ownBlock = some k → vkR.ownBlock ≠ some k) :
    ∃ c' R' d', d'.its = i1 ++ m :: i2 ∧ d'.kids = k1 ++ c' :: R' :: k2 ∧ c'.its = l ∧ R'.its = r ∧ Chg (s + 1) (h + 1) w d w' d' ∧ flat (h + 1) d' = flat (h + 1) d := by
  have hcm : c ∈ d.kids := by rw [hk]; simp
  have ac := a.at'.2 c hcm
  have hsep : ∀ k, own d.n d.vi d.vk k + (occs h k1 k + (occ h c k + occs h k2 k)) ≤ 1 := fun k => by
    have := a.sep k
    rw [occ_succ, hk] at this
    simpa using this
  have hS : ∀ k, (k = d.n ∨ k = c.n ∨ d.vi.ownBlock = some k ∨ d.vk.ownBlock = some k ∨ c.vi.ownBlock = some k ∨ c.vk.ownBlock = some k) → 0 < own d.n d.vi d.vk k + own c.n c.vi c.vk k := fun k hk => by
    rcases hk with h | h | h | h | h | h
    · have := own_pos.2 (.inl h.symm : d.n = k ∨ d.vi.ownBlock = some k ∨ d.vk.ownBlock = some k); omega
    · have := own_pos.2 (.inl h.symm : c.n = k ∨ c.vi.ownBlock = some k ∨ c.vk.ownBlock = some k); omega
    · have := own_pos.2 (.inr (.inl h) : d.n = k ∨ d.vi.ownBlock = some k ∨ d.vk.ownBlock = some k); omega
    · have := own_pos.2 (.inr (.inr h) : d.n = k ∨ d.vi.ownBlock = some k ∨ d.vk.ownBlock = some k); omega
    · have := own_pos.2 (.inr (.inl h) : c.n = k ∨ c.vi.ownBlock = some k ∨ c.vk.ownBlock = some k); omega
    · have := own_pos.2 (.inr (.inr h) : c.n = k ∨ c.vi.ownBlock = some k ∨ c.vk.ownBlock = some k); omega
  have hoc : ∀ k, own c.n c.vi c.vk k ≤ occ h c k := fun k => occ_own h c k
  have hkc : ∀ k, kocc h (c.kids.take (s + 1)) k + kocc h (c.kids.drop (s + 1)) k = kocc h c.kids k := fun k => by rw [← kocc_app, List.take_append_drop]
  have hco : ∀ k, occ h c k = own c.n c.vi c.vk k + kocc h c.kids k := fun k => occ_kocc h k c
  have hcd : ∀ k, kocc h c.kids k ≤ occ h c k := fun k => by rw [hco]; omega
  have hkids := (at_kids.1 ac).2
  have hcbal := (a.bal.2.2 c hcm).1
  have hflat : flat (h + 1) (.mk d.n vi vk (i1 ++ m :: i2) (k1 ++ .mk c.n (.slice A3 s c3) vkC' l (c.kids.take (s + 1)) :: .mk R vR vkR r (c.kids.drop (s + 1)) :: k2)) = flat (h + 1) d := by
    rw [flat_two (c' := .mk c.n (.slice A3 s c3) vkC' l (c.kids.take (s + 1))) (R := .mk R vR vkR r (c.kids.drop (s + 1))) rfl rfl hl, flat_mid hi hk hl]
    rw [← flat_cat (t := s + 1) hc (List.take_append_drop (s + 1) c.kids).symm]
    cases h with
    | zero => exact .inl rfl
    | succ h' =>
      have h1 : c.kids.length = c.its.length + 1 := hcbal.1
      rw [hc] at h1
      simp at h1
      exact .inr ⟨by simp; omega, by simp; omega⟩
  have hlt : ∀ k, 0 < own d.n d.vi d.vk k + own c.n c.vi c.vk k → k < w.heap.size := fun k hk => by
    by_cases h1 : 0 < own d.n d.vi d.vk k
    · exact a.at'.lt (Nat.lt_of_lt_of_le h1 (occ_own _ _ _))
    · exact ac.lt (h := h) (by have := hoc k; omega)
  have hkeep : ∀ k, k < w.heap.size → own d.n d.vi d.vk k + own c.n c.vi c.vk k = 0 → w'.heap[k]? = w.heap[k]? := fun k h1 h2 => o14.blk k h1 fun h3 => by have := hS k h3; omega
  refine ⟨_, _, .mk d.n vi vk (i1 ++ m :: i2) (k1 ++ .mk c.n (.slice A3 s c3) vkC' l (c.kids.take (s + 1)) :: .mk R vR vkR r (c.kids.drop (s + 1)) :: k2), rfl, rfl, rfl, rfl, ⟨⟨⟨⟨o1, o2, ?_⟩, ?_⟩, ?_, ?_, ?_, ?_⟩, rfl, ?_, ?_⟩, hflat⟩
  · simpa [Nd.kids, Nd.n, Nd.vk] using o3
  · intro x hx
    have hx' : x ∈ k1 ∨ x = .mk c.n (.slice A3 s c3) vkC' l (c.kids.take (s + 1)) ∨ x = .mk R vR vkR r (c.kids.drop (s + 1)) ∨ x ∈ k2 := by simpa [Nd.kids] using hx
    rcases hx' with h1 | rfl | rfl | h1
    · have ax := a.at'.2 x (by rw [hk]; simp [h1])
      exact ax.kept fun k hk3 => hkeep k (ax.lt hk3) (by have := hsep k; have := hoc k; have := occ_mem (h := h) (k := k) h1; omega)
    · refine at_kids.2 ⟨⟨o4, o5, o6⟩, ?_⟩
      exact (hkids.sub fun x hx => List.mem_of_mem_take hx).kept fun k hk3 => hkeep k (hkids.lt (k := k) (by have := hkc k; omega)) (by have := hsep k; have := hco k; have := hkc k; omega)
    · refine at_kids.2 ⟨⟨o7, o8.low (Nat.zero_le _), o9.low (Nat.zero_le _)⟩, ?_⟩
      exact (hkids.sub fun x hx => List.mem_of_mem_drop hx).kept fun k hk3 => hkeep k (hkids.lt (k := k) (by have := hkc k; omega)) (by have := hsep k; have := hco k; have := hkc k; omega)
    · have ax := a.at'.2 x (by rw [hk]; simp [h1])
      exact ax.kept fun k hk3 => hkeep k (ax.lt hk3) (by have := hsep k; have := hoc k; have := occ_mem (h := h) (k := k) h1; omega)
  · -- no block twice
    intro k
    rw [occ_succ]
    simp only [Nd.kids, occs_app, occs_cons]
    rw [occ_kocc h k (.mk c.n _ _ _ _), occ_kocc h k (.mk R _ _ _ _)]
    show own d.n vi vk k + (occs h k1 k + (own c.n (.slice A3 s c3) vkC' k + kocc h (c.kids.take (s + 1)) k + (own R vR vkR k + kocc h (c.kids.drop (s + 1)) k + occs h k2 k))) ≤ 1
    have e1 := hsep k
    have e2 := hco k
    have e3 := hkc k
    rw [own_eq d.n] at e1
    have e4 : own1 (.slice A3 s c3) k = own1 c.vi k := by unfold own1; rw [hvi]
    have e5 : own1 vkC' k = own1 c.vk k := by unfold own1; rw [o13]
    rw [own_eq d.n, own_eq c.n, own_eq R, e4, e5]
    rw [own_eq c.n] at e2
    by_cases hkw : k < w.heap.size
    · have e6 := own1_new o11 hkw
      have e7 := own1_new o12 hkw
      have e8 := own1_row o8 hkw
      have e9 := own1_row o9 hkw
      have e10 : ¬ R = k := by omega
      rw [if_neg e10, e8, e9]
      omega
    · have z1 := occs_zero (h := h) (l := k1) (w := w) (fun x hx => a.at'.2 x (by rw [hk]; simp [hx])) hkw
      have z2 := occs_zero (h := h) (l := k2) (w := w) (fun x hx => a.at'.2 x (by rw [hk]; simp [hx])) hkw
      have z3 := own_zero_of ac hkw
      have z4 : ¬ d.n = k := fun e => hkw (by rw [← e]; exact a.at'.1.blk.lt)
      rw [if_neg z4]
      have b1 : own1 vi k = 0 ∨ (own1 vi k = 1 ∧ vi.ownBlock = some k ∧ ∃ cs, Blk w' k 69 cs) := by
        rcases Nat.eq_zero_or_pos (own1 vi k) with h | h
        · exact .inl h
        · exact .inr ⟨by have := own1_le vi k; omega, own1_pos.1 h, o2.own_blk (own1_pos.1 h)⟩
      have b2 : own1 vk k = 0 ∨ (own1 vk k = 1 ∧ vk.ownBlock = some k ∧ ∃ cs, Blk w' k 55 cs) := by
        rcases Nat.eq_zero_or_pos (own1 vk k) with h | h
        · exact .inl h
        · exact .inr ⟨by have := own1_le vk k; omega, own1_pos.1 h, o3.own_blk (own1_pos.1 h)⟩
      have b3 : own1 vR k = 0 ∨ (own1 vR k = 1 ∧ vR.ownBlock = some k ∧ ∃ cs, Blk w' k 69 cs) := by
        rcases Nat.eq_zero_or_pos (own1 vR k) with h | h
        · exact .inl h
        · exact .inr ⟨by have := own1_le vR k; omega, own1_pos.1 h, o8.own_blk (own1_pos.1 h)⟩
      have b4 : own1 vkR k = 0 ∨ (own1 vkR k = 1 ∧ vkR.ownBlock = some k ∧ ∃ cs, Blk w' k 55 cs) := by
        rcases Nat.eq_zero_or_pos (own1 vkR k) with h | h
        · exact .inl h
        · exact .inr ⟨by have := own1_le vkR k; omega, own1_pos.1 h, o9.own_blk (own1_pos.1 h)⟩
      have b5 : (if R = k then 1 else 0) = 0 ∨ ((if R = k then 1 else 0) = 1 ∧ ∃ cs, Blk w' k 59 cs) := by
        by_cases h : R = k
        · exact .inr ⟨if_pos h, _, h ▸ o7⟩
        · exact .inl (if_neg h)
      have z5 := hcd k
      rcases b1 with b1 | ⟨b1, p1, cs1, q1⟩
      · rcases b2 with b2 | ⟨b2, p2, cs2, q2⟩
        · rcases b3 with b3 | ⟨b3, p3, cs3, q3⟩
          · rcases b4 with b4 | ⟨b4, p4, cs4, q4⟩
            · rcases b5 with b5 | ⟨b5, cs5, q5⟩ <;> omega
            · rcases b5 with b5 | ⟨b5, cs5, q5⟩
              · omega
              · exact absurd (blk_ty q4 q5) (by decide)
          · rcases b4 with b4 | ⟨b4, p4, cs4, q4⟩
            · rcases b5 with b5 | ⟨b5, cs5, q5⟩
              · omega
              · exact absurd (blk_ty q3 q5) (by decide)
            · exact absurd (blk_ty q3 q4) (by decide)
        · rcases b3 with b3 | ⟨b3, p3, cs3, q3⟩
          · rcases b4 with b4 | ⟨b4, p4, cs4, q4⟩
            · rcases b5 with b5 | ⟨b5, cs5, q5⟩
              · omega
              · exact absurd (blk_ty q2 q5) (by decide)
            · exact absurd p4 (o16 k p2)
          · exact absurd (blk_ty q2 q3) (by decide)
      · rcases b2 with b2 | ⟨b2, p2, cs2, q2⟩
        · rcases b3 with b3 | ⟨b3, p3, cs3, q3⟩
          · rcases b4 with b4 | ⟨b4, p4, cs4, q4⟩
            · rcases b5 with b5 | ⟨b5, cs5, q5⟩
              · omega
              · exact absurd (blk_ty q1 q5) (by decide)
            · exact absurd (blk_ty q1 q4) (by decide)
          · exact absurd p3 (o15 k p1)
        · exact absurd (blk_ty q1 q2) (by decide)
  · -- its shape
    have hb := a.bal
    have hlen : (k1 ++ c :: k2).length = (i1 ++ i2).length + 1 := by rw [← hk, ← hi]; exact hb.1
    rw [hi] at hroom
    simp at hlen hroom
    have hkb := (bal_kids.1 hcbal).1
    have hcl : c.its.length = s + (s + 1) := by rw [hc]; simp; omega
    refine ⟨by simp [Nd.kids, Nd.its]; omega, by simp [Nd.its]; omega, fun x hx => ?_⟩
    have hx' : x ∈ k1 ∨ x = .mk c.n (.slice A3 s c3) vkC' l (c.kids.take (s + 1)) ∨ x = .mk R vR vkR r (c.kids.drop (s + 1)) ∨ x ∈ k2 := by simpa [Nd.kids] using hx
    rcases hx' with h1 | rfl | rfl | h1
    · exact hb.2.2 x (by rw [hk]; simp [h1])
    · refine ⟨bal_kids.2 ⟨?_, by simp [Nd.its]; omega⟩, by simp [Nd.its]; omega⟩
      have := kidsOk_take (m := s) hkb (by omega)
      simpa [Nd.kids, Nd.its, hll] using this
    · refine ⟨bal_kids.2 ⟨?_, by simp [Nd.its]; omega⟩, by simp [Nd.its]; omega⟩
      have := kidsOk_drop (m := s) hkb (by omega)
      have e : c.its.length - (s + 1) = r.length := by omega
      rw [e] at this
      exact this
    · exact hb.2.2 x (by rw [hk]; simp [h1])
  · rw [hflat]
    refine a.keys.fr o14 fun k _ h1 => a.at'.typed (k := k) ?_
    have h2 := hS k h1
    have h3 := hoc k
    rw [occ_succ, hk]
    simp only [occs_app, occs_cons]
    omega
  · rw [hflat]; exact a.srt
  · refine o14.mono fun k _ h1 => ?_
    have h2 := hS k h1
    have h3 := hoc k
    rw [occ_succ, hk]
    simp only [occs_app, occs_cons]
    omega
  · intro k hkw
    rw [occ_succ, occ_succ, hk]
    simp only [Nd.kids, occs_app, occs_cons]
    rw [occ_kocc h k (.mk c.n _ _ _ _), occ_kocc h k (.mk R _ _ _ _)]
    show own d.n vi vk k + (occs h k1 k + (own c.n (.slice A3 s c3) vkC' k + kocc h (c.kids.take (s + 1)) k + (own R vR vkR k + kocc h (c.kids.drop (s + 1)) k + occs h k2 k))) ≤ _
    have e2 := hco k
    have e3 := hkc k
    have e4 : own1 (.slice A3 s c3) k = own1 c.vi k := by unfold own1; rw [hvi]
    have e5 : own1 vkC' k = own1 c.vk k := by unfold own1; rw [o13]
    have e6 := own1_new o11 hkw
    have e7 := own1_new o12 hkw
    have e8 := own1_row o8 hkw
    have e9 := own1_row o9 hkw
    have e10 : ¬ R = k := by omega
    rw [own_eq c.n] at e2
    rw [own_eq d.n, own_eq c.n, own_eq R, e4, e5, if_neg e10, e8, e9, own_eq d.n]
    omega
end Go.Proofs.Ytgjcomnljonffaa.Tlv
