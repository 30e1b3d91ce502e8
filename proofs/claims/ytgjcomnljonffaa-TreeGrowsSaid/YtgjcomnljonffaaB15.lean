/- split, of a tree. -/
import Derived.Test.YtgjcomnljonffaaB12
import Derived.Test.YtgjcomnljonffaaB14
namespace Go.Proofs.Ytgjcomnljonffaa.Tlv
open Go.RowKit
set_option maxRecDepth 100000
set_option linter.unusedVariables false
set_option linter.unusedSimpArgs false
theorem list_cut {α : Type} {l : List α} {s : Nat} (h : s < l.length) : ∃ a x b, l = a ++ x :: b ∧ a.length = s ∧ b.length = l.length - s - 1 :=
  ⟨l.take s, l[s], l.drop (s + 1), by simp, by simp; omega, by simp; omega⟩
theorem split_chg (T h s : Nat) (y z : Value) (d c : Nd) (i1 i2 : List It) (k1 k2 : List Nd) (w : World) (hT : Blk w T 61 #[.int .i64 (s + 1 : Nat), y, z]) (a : TS (s + 1) (h + 1) w d) (hi : d.its = i1 ++ i2) (hk : d.kids = k1 ++ c :: k2) (hl : i1.length = k1.length)
    (hs : 1 ≤ s ∧ s ≤ 63) (hfull : c.its.length = 2 * (s + 1) - 1) (hroom : d.its.length < 2 * (s + 1) - 1) :
    Calls Try.prog 37 #[.pointer (some ⟨T, 0, none⟩), .pointer (some ⟨d.n, 0, none⟩), .int .i64 i1.length] w (SplitChg h s d c i1 i2 k1 k2 w) := by
  have hcm : c ∈ d.kids := by rw [hk]; simp
  have ac := a.at'.2 c hcm
  obtain ⟨l, m, r, hc, hll, hrl⟩ := list_cut (show s < c.its.length by omega)
  have hrl' : r.length = s := by omega
  obtain ⟨A1, c1, A2, c2, e1, e2⟩ := a.at'.1.form
  obtain ⟨A3, c3, A4, c4, e3, e4⟩ := ac.node.form
  have hsep : ∀ k, own d.n d.vi d.vk k + own c.n c.vi c.vk k ≤ 1 := fun k => by
    have h1 := a.sep k
    rw [occ_succ] at h1
    have h2 := occ_mem (h := h) (k := k) hcm
    have h3 := occ_own h c k
    omega
  have hP := a.at'.1.blk
  have hri := a.at'.1.its
  have hrp := a.at'.1.kids
  have hC := ac.node.blk
  have hci := ac.node.its
  have hcp := ac.node.kids
  rw [e1, e2] at hP
  rw [e1] at hri
  rw [e2] at hrp
  rw [e3, e4] at hC
  rw [e3] at hci
  rw [e4] at hcp
  have hbal : d.kids.length = d.its.length + 1 := a.bal.1
  have hlk : k1.length < d.kids.length := by rw [hk]; simp
  have hS : Sp T d.n c.n s y z (.slice A1 d.its.length c1) (.slice A2 d.kids.length c2) (.slice A3 c.its.length c3) (.slice A4 c.kids.length c4) d.its (l ++ m :: r) (d.kids.map Nd.n) (c.kids.map Nd.n) w := ⟨hT, hP, hC, hri, hrp, by rw [← hc]; exact hci, hcp⟩
  have hjC : (d.kids.map Nd.n).getD i1.length 0 = c.n := by rw [hk, hl]; simp [List.getD_eq_getElem?_getD]
  have hPC : d.n ≠ c.n := fun e => by
    have h1 := hsep d.n
    have h2 := own_pos.2 (.inl rfl : d.n = d.n ∨ d.vi.ownBlock = some d.n ∨ d.vk.ownBlock = some d.n)
    have h3 := own_pos.2 (.inl e.symm : c.n = d.n ∨ c.vi.ownBlock = some d.n ∨ c.vk.ownBlock = some d.n)
    omega
  have hne1 : ∀ k, (Value.slice A1 d.its.length c1).ownBlock = some k → (Value.slice A3 c.its.length c3).ownBlock ≠ some k := fun k h1 h2 => by
    rw [← e1] at h1
    rw [← e3] at h2
    have h0 := hsep k
    have h3 := own_pos.2 (.inr (.inl h1) : d.n = k ∨ d.vi.ownBlock = some k ∨ d.vk.ownBlock = some k)
    have h4 := own_pos.2 (.inr (.inl h2) : c.n = k ∨ c.vi.ownBlock = some k ∨ c.vk.ownBlock = some k)
    omega
  have hne2 : ∀ k, (Value.slice A2 d.kids.length c2).ownBlock = some k → (Value.slice A4 c.kids.length c4).ownBlock ≠ some k := fun k h1 h2 => by
    rw [← e2] at h1
    rw [← e4] at h2
    have h0 := hsep k
    have h3 := own_pos.2 (.inr (.inr h1) : d.n = k ∨ d.vi.ownBlock = some k ∨ d.vk.ownBlock = some k)
    have h4 := own_pos.2 (.inr (.inr h2) : c.n = k ∨ c.vi.ownBlock = some k ∨ c.vk.ownBlock = some k)
    omega
  have hcall : Calls Try.prog 37 #[.pointer (some ⟨T, 0, none⟩), .pointer (some ⟨d.n, 0, none⟩), .int .i64 i1.length] w (SplitOut T d.n c.n s i1.length y z (.slice A1 d.its.length c1) (.slice A2 d.kids.length c2) (.slice A4 c.kids.length c4) A3 c3 d.its l r m (d.kids.map Nd.n) (c.kids.map Nd.n) w) := by
    have hjl : i1.length ≤ d.its.length := by rw [hi]; simp
    cases h with
    | zero =>
      have hb : c.kids = [] := (a.bal.2.2 c hcm).1.1
      exact split_leaf T d.n c.n s i1.length d.its.length c1 d.kids.length c2 c.its.length c3 c.kids.length c4 A1 A2 A3 A4 y z d.its l r m (d.kids.map Nd.n) (c.kids.map Nd.n) w hS hll hrl' hs (by omega) hjC hjl hbal (by omega) hPC hne1 hne2 (by rw [hb]; exact ⟨rfl, rfl⟩)
    | succ h' =>
      have hb : c.kids.length = c.its.length + 1 := (a.bal.2.2 c hcm).1.1
      exact split_inner T d.n c.n s i1.length d.its.length c1 d.kids.length c2 c.its.length c3 c.kids.length c4 A1 A2 A3 A4 y z d.its l r m (d.kids.map Nd.n) (c.kids.map Nd.n) w hS hll hrl' hs (by omega) hjC hjl hbal (by omega) hPC hne1 hne2 ⟨by omega, by simp⟩
  refine hcall.mono ?_
  rintro e w' ⟨R, vi, vk, vR, vkR, vkC', rfl, o1, o2, o3, o4, o5, o6, o7, o8, o9, o10, o11, o12, o13, o14, o15, o16⟩
  have t1 : d.its.take i1.length = i1 := by rw [hi, List.take_left]
  have t2 : d.its.drop i1.length = i2 := by rw [hi, List.drop_left]
  have t3 : (d.kids.map Nd.n).take (i1.length + 1) = k1.map Nd.n ++ [c.n] := by
    rw [hk, hl, show List.map Nd.n (k1 ++ c :: k2) = (k1.map Nd.n ++ [c.n]) ++ k2.map Nd.n by simp]
    exact List.take_left' (by simp)
  have t4 : (d.kids.map Nd.n).drop (i1.length + 1) = k2.map Nd.n := by
    rw [hk, hl, show List.map Nd.n (k1 ++ c :: k2) = (k1.map Nd.n ++ [c.n]) ++ k2.map Nd.n by simp]
    exact List.drop_left' (by simp)
  rw [t1, t2] at o2
  rw [t3, t4] at o3
  have hvi : (Value.slice A3 s c3).ownBlock = c.vi.ownBlock := by rw [e3]; cases A3 <;> rfl
  rw [← e1] at o11 o14
  rw [← e2] at o12 o14
  rw [← e4] at o13 o14
  rw [hvi] at o14
  obtain ⟨c', R', d', q1, q2, q3, q4, q5, q6⟩ := split_pure a hi hk hl hs hroom hc hll hrl' hvi o1 o2 (by simpa using o3) o4 o5 (by rw [List.map_take]; exact o6) o7 o8 (by rw [List.map_drop]; exact o9) o10 o11 o12 o13 o14 o15 o16
  exact ⟨l, m, r, c', R', d', rfl, hc, hll, hrl', q1, q2, q3, q4, q5, q6⟩
/-- What was written is the node's own: its items, its row. -/
theorem chg_node {t h : Nat} {d : Nd} {w w' : World} {vi : Value} {its : List It} (a : TS t h w d) (f : Fr (fun k => k = d.n ∨ d.vi.ownBlock = some k) w w') (hb : Blk w' d.n 59 #[vi, d.vk]) (hr : RowK kI w' 0 vi its)
    (ho : vi.ownBlock = d.vi.ownBlock ∨ ∃ k, vi.ownBlock = some k ∧ w.heap.size ≤ k) (hok : Bal t h (.mk d.n vi d.vk its d.kids)) (hkeys : ∀ x ∈ flat h (.mk d.n vi d.vk its d.kids), x ∈ flat h d ∨ KAt w' x.A x.k) (hs : Srt (kvs (flat h (.mk d.n vi d.vk its d.kids)))) :
    Chg t h w d w' (.mk d.n vi d.vk its d.kids) := by
  have hS : ∀ k, (k = d.n ∨ d.vi.ownBlock = some k) → 0 < own d.n d.vi d.vk k := fun k hk => by
    rcases hk with h | h
    · exact own_pos.2 (.inl h.symm)
    · exact own_pos.2 (.inr (.inl h))
  have hsep : ∀ k, own d.n d.vi d.vk k + kocc h d.kids k ≤ 1 := fun k => by rw [← occ_kocc]; exact a.sep k
  have hf : Fr (fun k => 0 < occ h d k) w w' := f.mono fun k _ hk => Nat.lt_of_lt_of_le (hS k hk) (occ_own h d k)
  have ak := (at_kids.1 a.at').2
  refine ⟨⟨at_kids.2 ⟨⟨hb, hr, ?_⟩, ?_⟩, fun k => ?_, hok, fun x hx => ?_, hs⟩, rfl, hf, fun k hk => ?_⟩
  · exact a.at'.node.kids.kept' fun k hk => by
      obtain ⟨cs, q⟩ := a.at'.node.kids.own_blk hk
      refine f.blk k q.lt fun h1 => ?_
      rcases h1 with h1 | h1
      · rw [h1] at q; exact absurd (blk_ty a.at'.node.blk q) (by decide)
      · obtain ⟨cs', q'⟩ := a.at'.node.its.own_blk h1
        exact absurd (blk_ty q q') (by decide)
  · exact ak.kept fun k hk => f.blk k (ak.lt hk) fun h1 => by have := hS k h1; have := hsep k; simp only [Nd.kids] at hk; have h3 : 0 < kocc h d.kids k := hk; omega
  · rw [occ_kocc]
    show own d.n vi d.vk k + kocc h d.kids k ≤ 1
    have e1 := hsep k
    rw [own_eq] at e1 ⊢
    by_cases hkw : k < w.heap.size
    · have := own1_new ho hkw
      omega
    · have z1 : kocc h d.kids k = 0 := by
        rcases Nat.eq_zero_or_pos (kocc h d.kids k) with h1 | h1
        · exact h1
        · exact absurd (ak.lt h1) hkw
      have z2 : ¬ d.n = k := fun e => hkw (by rw [← e]; exact a.at'.node.blk.lt)
      have z3 : own1 d.vk k = 0 := by
        rcases Nat.eq_zero_or_pos (own1 d.vk k) with h1 | h1
        · exact h1
        · obtain ⟨cs, q⟩ := a.at'.node.kids.own_blk (own1_pos.1 h1)
          exact absurd q.lt hkw
      rw [if_neg z2, z3, z1]
      have := own1_le vi k
      omega
  · rcases hkeys x hx with h1 | h1
    · exact (a.keys x h1).fr hf fun k _ hk => a.at'.typed hk
    · exact h1
  · rw [occ_kocc, occ_kocc]
    show own d.n vi d.vk k + kocc h d.kids k ≤ _
    rw [own_eq, own_eq]
    have := own1_new ho hk
    omega
end Go.Proofs.Ytgjcomnljonffaa.Tlv
