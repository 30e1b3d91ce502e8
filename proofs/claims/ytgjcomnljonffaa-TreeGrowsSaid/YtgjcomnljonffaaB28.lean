/- remove: pure parts. -/
import Derived.Test.YtgjcomnljonffaaB27
import Derived.Test.YtgjcomnljonffaaB25
namespace Go.Proofs.Ytgjcomnljonffaa.Tlv
open Go.RowKit
set_option maxRecDepth 100000
set_option linter.unusedVariables false
set_option linter.unusedSimpArgs false
theorem fill_any (T s h : Nat) (y z : Value) (d c : Nd) (i1 i2 : List It) (k1 k2 : List Nd) (key : Key) (w : World) (hT : Blk w T 61 #[.int .i64 (s + 1 : Nat), y, z]) (a : TS (s + 1) (h + 1) w d) (hs : 1 ≤ s ∧ s ≤ 63) (p : Place d i1 i2 k1 c k2) (h1 : ∀ x ∈ i1, klt x.k key) (h2 : ∀ x ∈ i2, klt key x.k) (hne : 1 ≤ d.its.length) :
    Calls Try.prog 43 #[.pointer (some ⟨T, 0, none⟩), .pointer (some ⟨d.n, 0, none⟩), .int .i64 i1.length] w (FillOut (s + 1) h d key w) := by
  have hbal : d.kids.length = d.its.length + 1 := a.bal.1
  have hlk := congrArg List.length p.kids
  have hli := congrArg List.length p.its
  simp at hlk hli
  have hpl := p.len
  have hc := a.kidLen p.kids
  by_cases hsp : s + 1 ≤ c.its.length
  · exact fill_a T s h y z d c i1 i2 k1 k2 key w hT a hs p h1 h2 hsp
  · have hcl : c.its.length = s := by omega
    have hright : i2 ≠ [] → ∃ m i2' r k2', i2 = m :: i2' ∧ k2 = r :: k2' := fun h => by
      cases i2 with
      | nil => exact absurd rfl h
      | cons m i2' =>
        cases k2 with
        | nil => simp at hlk hli; omega
        | cons r k2' => exact ⟨m, i2', r, k2', rfl, rfl⟩
    rcases Nat.eq_zero_or_pos i1.length with h0 | hp
    · obtain ⟨m, i2', r, k2', rfl, rfl⟩ := hright (fun e => by subst e; simp at hli; omega)
      have pp : Pair d i1 m i2' k1 c r k2' := ⟨p.its, p.kids, p.len⟩
      have hr := (a.bal.2.2 r (by rw [p.kids]; simp)).2
      rw [h0]
      by_cases hsr : s + 1 ≤ r.its.length
      · exact fill_c0 T s h y z d c r i1 i2' m k1 k2' key w hT a hs pp h0 h1 h2 hcl hsr
      · exact fill_e T s h y z d c r i1 i2' m k1 k2' key w hT a hs pp h0 h1 h2 hcl (by omega)
    · obtain ⟨j1, m0, rfl, hj⟩ := list_last hp
      obtain ⟨l1, c0, rfl, hl⟩ := list_last (show 1 ≤ k1.length by omega)
      have hjl : j1.length = l1.length := by simp at hpl; exact hpl
      have pp : Pair d j1 m0 i2 l1 c0 c k2 := ⟨by rw [p.its]; simp, by rw [p.kids]; simp, hjl⟩
      have hc0 := (a.bal.2.2 c0 (by rw [p.kids]; simp)).2
      rw [show (((j1 ++ [m0]).length : Nat) : Int) = (j1.length : Int) + 1 by simp]
      by_cases hsl : s + 1 ≤ c0.its.length
      · exact fill_b T s h y z d c0 c j1 i2 m0 l1 k2 key w hT a hs pp h1 h2 hcl hsl
      · by_cases he : i2 = []
        · exact fill_d0 T s h y z d c0 c j1 i2 m0 l1 k2 key w hT a hs pp h1 h2 hcl (by omega) he
        · obtain ⟨m, i2', r, k2', rfl, rfl⟩ := hright he
          have hr := (a.bal.2.2 r (by rw [p.kids]; simp)).2
          have pr : Pair d (j1 ++ [m0]) m i2' (l1 ++ [c0]) c r k2' := ⟨p.its, p.kids, p.len⟩
          by_cases hsr : s + 1 ≤ r.its.length
          · exact fill_c1 T s h y z d c0 c r j1 i2' m0 m l1 k2' key w hT a hs pr h1 h2 hcl (by omega) hsr
          · exact fill_d1 T s h y z d c0 c r j1 i2' m0 m l1 k2' key w hT a hs pr h1 h2 hcl (by omega) (by omega)
structure RemPost (t h : Nat) (d : Nd) (key : Key) (w w' : World) (d' : Nd) : Prop where
  chg : Chg t h w d w' d'
  drop : kvs (flat h d') = dropL key (kvs (flat h d))
  len : d.its.length ≤ d'.its.length + 1
theorem RemPost.before {t h : Nat} {d d1 d' : Nd} {key : Key} {w w1 w' : World} (c : Chg t h w d w1 d1) (hf : flat h d1 = flat h d) (hl : d.its.length ≤ d'.its.length + 1) (p : RemPost t h d1 key w1 w' d') : RemPost t h d key w w' d' :=
  ⟨c.trans p.chg, by rw [p.drop, hf], hl⟩
theorem RemPost.lift {t h : Nat} {w w' : World} {d c c' : Nd} {i1 i2 : List It} {k1 k2 : List Nd} {key : Key} (pl : Place d i1 i2 k1 c k2) (a : TS t (h + 1) w d) (h1 : ∀ x ∈ i1, klt x.k key) (h2 : ∀ x ∈ i2, klt key x.k) (hc : t ≤ c.its.length)
    (p : RemPost t h c key w w' c') : ∃ d', RemPost t (h + 1) d key w w' d' ∧ d'.its.length = d.its.length := by
  obtain ⟨lo, hi⟩ := pl.lohi a h1 h2
  have hfl := flat_mid (h := h) pl.its pl.kids pl.len
  have hdr : kvs (preL (k1.map (flat h)) i1 ++ flat h c' ++ sufL i2 (k2.map (flat h))) = dropL key (kvs (flat (h + 1) d)) := by
    rw [hfl]
    simp only [kvs, List.map_append]
    rw [dropL_mid lo hi]
    have := p.drop
    simp only [kvs] at this
    rw [this]
  have hs : Srt (kvs (preL (k1.map (flat h)) i1 ++ flat h c' ++ sufL i2 (k2.map (flat h)))) := by rw [hdr]; exact srt_drop a.srt
  refine ⟨_, ⟨p.chg.lift a pl.its pl.kids pl.len (by have := p.len; omega) hs, ?_, Nat.le_succ _⟩, rfl⟩
  rw [flat_mid (d := .mk d.n d.vi d.vk d.its (k1 ++ c' :: k2)) (c := c') pl.its rfl pl.len]
  exact hdr
theorem get_lift {t h : Nat} {w : World} {d c : Nd} {i1 i2 : List It} {k1 k2 : List Nd} {key : Key} (pl : Place d i1 i2 k1 c k2) (a : TS t (h + 1) w d) (h1 : ∀ x ∈ i1, klt x.k key) (h2 : ∀ x ∈ i2, klt key x.k) : getL key (kvs (flat (h + 1) d)) = getL key (kvs (flat h c)) := by
  obtain ⟨lo, hi⟩ := pl.lohi a h1 h2
  rw [flat_mid (h := h) pl.its pl.kids pl.len]
  simp only [kvs, List.map_append]
  exact getL_mid lo hi
/-- A key let go in a leaf. -/
theorem rem_leaf {t : Nat} {w w' : World} {d : Nd} {i1 i2 : List It} {x : It} {vi : Value} (a : TS t 0 w d) (hi : d.its = i1 ++ x :: i2) (f : Fr (fun k => k = d.n ∨ d.vi.ownBlock = some k) w w') (hb : Blk w' d.n 59 #[vi, d.vk]) (hr : RowK kI w' 0 vi (i1 ++ i2)) (ho : vi.ownBlock = d.vi.ownBlock) :
    ∃ d', RemPost t 0 d x.k w w' d' := by
  have hs := a.srt
  have hf : flat 0 d = i1 ++ x :: i2 := hi
  have e1 : kvs (i1 ++ x :: i2) = kvs i1 ++ (x.k, x.v) :: kvs i2 := by simp [It.kv]
  rw [hf, e1] at hs
  have hm := srt_mid hs
  have hdr : kvs (flat 0 (.mk d.n vi d.vk (i1 ++ i2) d.kids)) = dropL x.k (kvs (flat 0 d)) := by
    rw [hf, e1, dropL_at hm.1 hm.2]
    show kvs (i1 ++ i2) = _
    simp
  refine ⟨.mk d.n vi d.vk (i1 ++ i2) d.kids, chg_node a f hb hr (.inl ho) ?_ ?_ ?_, hdr, ?_⟩
  · refine ⟨a.bal.1, ?_⟩
    have := a.bal.2
    rw [hi] at this
    simp [Nd.its] at this ⊢
    omega
  · intro y hy
    have hy' : y ∈ i1 ++ i2 := hy
    rw [hf]
    simp at hy' ⊢
    rcases hy' with h | h
    · exact .inl (.inl h)
    · exact .inl (.inr (.inr h))
  · rw [hdr]; exact srt_drop a.srt
  · show d.its.length ≤ (i1 ++ i2).length + 1
    rw [hi]; simp <;> omega
/-- A tree whose order is not asked. -/
structure TS0 (t h : Nat) (w : World) (d : Nd) : Prop where
  at' : At w h d
  sep : ∀ k, occ h d k ≤ 1
  bal : Bal t h d
  keys : KeysAt w (flat h d)
/-- A child that has changed, where the order ahead isn't asked. -/
theorem Chg.lift0 {t h : Nat} {w w' : World} {d c c' : Nd} {i1 i2 : List It} {k1 k2 : List Nd} (a : TS0 t (h + 1) w d) (hi : d.its = i1 ++ i2) (hk : d.kids = k1 ++ c :: k2) (hl : i1.length = k1.length) (b : Chg t h w c w' c') (hlen : t - 1 ≤ c'.its.length)
    (hs : Srt (kvs (preL (k1.map (flat h)) i1 ++ flat h c' ++ sufL i2 (k2.map (flat h))))) : Chg t (h + 1) w d w' (.mk d.n d.vi d.vk d.its (k1 ++ c' :: k2)) := by
  have hf := flat_mid (h := h) (d := .mk d.n d.vi d.vk d.its (k1 ++ c' :: k2)) (c := c') (k1 := k1) (k2 := k2) hi rfl hl
  have hsep : ∀ k, own d.n d.vi d.vk k + (occs h k1 k + (occ h c k + occs h k2 k)) ≤ 1 := fun k => by
    have := a.sep k
    rw [occ_succ, hk] at this
    simpa using this
  have hbal : d.kids.length = d.its.length + 1 := a.bal.1
  have hnode : NodeAt w' (.mk d.n d.vi d.vk d.its (k1 ++ c' :: k2)) := by
    have h1 : NodeAt w' d := a.at'.1.kept fun k hk => b.fr.blk k (by obtain ⟨t, cs, h1, _⟩ := a.at'.1.typed hk; exact h1.lt) (by have := hsep k; omega)
    refine ⟨h1.blk, h1.its, ?_⟩
    have h2 := h1.kids
    rw [hk] at h2
    simpa [Nd.kids, Nd.vk, b.n] using h2
  refine ⟨⟨⟨hnode, fun x hx => ?_⟩, fun k => ?_, ?_, ?_, by rw [hf]; exact hs⟩, rfl, ?_, fun k hk' => ?_⟩
  · have hx' : x ∈ k1 ∨ x = c' ∨ x ∈ k2 := by simpa [Nd.kids] using hx
    rcases hx' with h1 | rfl | h1
    · exact (a.at'.2 x (by rw [hk]; simp [h1])).kept fun k hk3 => b.fr.blk k ((a.at'.2 x (by rw [hk]; simp [h1])).lt hk3) (by have := hsep k; have := occ_mem (h := h) (k := k) h1; omega)
    · exact b.ts.at'
    · exact (a.at'.2 x (by rw [hk]; simp [h1])).kept fun k hk3 => b.fr.blk k ((a.at'.2 x (by rw [hk]; simp [h1])).lt hk3) (by have := hsep k; have := occ_mem (h := h) (k := k) h1; omega)
  · rw [occ_succ]
    simp only [Nd.n, Nd.vi, Nd.vk, Nd.kids, occs_app, occs_cons]
    have h1 := hsep k
    have h2 := b.ts.sep k
    by_cases hkw : k < w.heap.size
    · have := b.old k hkw
      cases d
      simp only [Nd.n, Nd.vi, Nd.vk] at h1 ⊢
      omega
    · -- a new block: nothing of what was has it
      have h3 : own d.n d.vi d.vk k = 0 := by
        rcases Nat.eq_zero_or_pos (own d.n d.vi d.vk k) with h | h
        · exact h
        · obtain ⟨t, cs, h4, _⟩ := a.at'.1.typed h
          exact absurd h4.lt hkw
      have h4 : ∀ l : List Nd, (∀ x ∈ l, x ∈ d.kids) → occs h l k = 0 := fun l hl2 => by
        rcases Nat.eq_zero_or_pos (occs h l k) with h5 | h5
        · exact h5
        · obtain ⟨x, h6, h7⟩ := occs_pos h5
          exact absurd ((a.at'.2 x (hl2 x h6)).lt h7) hkw
      have h5 := h4 k1 fun x hx => by rw [hk]; simp [hx]
      have h6 := h4 k2 fun x hx => by rw [hk]; simp [hx]
      cases d
      simp only [Nd.n, Nd.vi, Nd.vk] at h3 ⊢
      omega
  · refine ⟨?_, a.bal.2.1, fun x hx => ?_⟩
    · have : (k1 ++ c :: k2).length = d.its.length + 1 := by rw [← hk]; exact hbal
      simpa [Nd.kids, Nd.its] using this
    · have hx' : x ∈ k1 ∨ x = c' ∨ x ∈ k2 := by simpa [Nd.kids] using hx
      rcases hx' with h1 | rfl | h1
      · exact a.bal.2.2 x (by rw [hk]; simp [h1])
      · exact ⟨b.ts.bal, hlen⟩
      · exact a.bal.2.2 x (by rw [hk]; simp [h1])
  · rw [hf]
    have hty : ∀ k, k < w.heap.size → 0 < occ h c k → ∃ t cs, Blk w k t cs ∧ t ≠ 5 := fun k _ hk => (a.at'.2 c (by rw [‹d.kids = _›]; simp)).typed hk
    have hold := a.keys
    rw [flat_mid hi hk hl] at hold
    intro x hx
    rcases List.mem_append.1 hx with hx | hx
    · rcases List.mem_append.1 hx with hx | hx
      · exact (hold x (by simp [hx])).fr b.fr hty
      · exact b.ts.keys x hx
    · exact (hold x (by simp [hx])).fr b.fr hty
  · exact b.fr.mono fun k _ h1 => by rw [occ_succ, hk]; simp; omega
  · rw [occ_succ, occ_succ, hk]
    have := b.old k hk'
    cases d
    simp only [Nd.n, Nd.vi, Nd.vk, Nd.kids, occs_app, occs_cons]
    omega
/-- An item takes another one's place: what stands behind it. -/
theorem swap_ts0 {t h : Nat} {w w1 : World} {d c : Nd} {i1 i2 : List It} {x y : It} (a : TS t (h + 1) w d) (hi : d.its = i1 ++ x :: i2) (hc : c ∈ d.kids) (hy : y ∈ flat h c) (hyd : y ∈ flat (h + 1) d) (hN : NbAt w1 { d.nb with its := i1 ++ y :: i2 }) (F : Fr (fun k => d.vi.ownBlock = some k) w w1) :
    TS0 t (h + 1) w1 (.mk d.n d.vi d.vk (i1 ++ y :: i2) d.kids) ∧ TS t h w1 c ∧ (∀ k, occ (h + 1) (.mk d.n d.vi d.vk (i1 ++ y :: i2) d.kids) k = occ (h + 1) d k) := by
  have hocc : ∀ k, occ (h + 1) (.mk d.n d.vi d.vk (i1 ++ y :: i2) d.kids) k = occ (h + 1) d k := fun k => rfl
  have hown : ∀ k, d.vi.ownBlock = some k → 0 < own d.n d.vi d.vk k := fun k hk => own_pos.2 (.inr (.inl hk))
  have hkid : ∀ x ∈ d.kids, ∀ k, 0 < occ h x k → ¬ d.vi.ownBlock = some k := fun x hx k h1 h2 => by
    have h3 := a.sep k
    rw [occ_succ] at h3
    have h4 := occ_mem (h := h) (k := k) hx
    have h5 := hown k h2
    omega
  have hty : ∀ k, k < w.heap.size → d.vi.ownBlock = some k → ∃ t cs, Blk w k t cs ∧ t ≠ 5 := fun k _ hk => by
    obtain ⟨cs, q⟩ := a.at'.1.its.own_blk hk
    exact ⟨_, _, q, by decide⟩
  have ats : ∀ x ∈ d.kids, At w1 h x := fun x hx => (a.at'.2 x hx).fr F (hkid x hx)
  obtain ⟨A, B, f1, f2⟩ := flat_item a hi
  refine ⟨⟨⟨⟨hN.blk, hN.ri, hN.rk⟩, ats⟩, fun k => by rw [hocc]; exact a.sep k, ?_, fun z hz => ?_⟩, ⟨ats c hc, fun k => ?_, (a.bal.2.2 c hc).1, fun z hz => ?_, ?_⟩, hocc⟩
  · have hb := a.bal
    rw [bal_kids] at hb ⊢
    have e : (i1 ++ y :: i2).length = d.its.length := by rw [hi]; simp
    simp only [Nd.its, Nd.kids]
    rw [e]
    exact hb
  · rw [f2] at hz
    have : z ∈ flat (h + 1) d := by
      rw [f1]
      simp at hz ⊢
      rcases hz with h1 | rfl | h1
      · exact .inl h1
      · have := hyd; rw [f1] at this; simpa using this
      · exact .inr (.inr h1)
    exact (a.keys z this).fr F hty
  · have h1 := a.sep k
    rw [occ_succ] at h1
    have := occ_mem (h := h) (k := k) hc
    omega
  · have hz' : z ∈ flat (h + 1) d := by
      obtain ⟨l1, l2, e⟩ := List.append_of_mem hc
      have hb : d.kids.length = d.its.length + 1 := a.bal.1
      have hl : l1.length < d.kids.length := by rw [e]; simp
      exact flat_kid (i1 := d.its.take l1.length) (i2 := d.its.drop l1.length) (List.take_append_drop _ _).symm e (by simp; omega) z hz
    exact (a.keys z hz').fr F hty
  · obtain ⟨l1, l2, e⟩ := List.append_of_mem hc
    have hb : d.kids.length = d.its.length + 1 := a.bal.1
    have hl : l1.length < d.kids.length := by rw [e]; simp
    exact (a.kid (i1 := d.its.take l1.length) (i2 := d.its.drop l1.length) (List.take_append_drop _ _).symm e (by simp; omega)).srt
theorem swap_end {t h : Nat} {w w1 w' : World} {d c c' : Nd} {i1 i2 j1 j2 : List It} {x y : It} {k1 k2 : List Nd} (a : TS t (h + 1) w d) (hi : d.its = i1 ++ x :: i2) (F : Fr (fun k => d.vi.ownBlock = some k) w w1) (z : TS0 t (h + 1) w1 (.mk d.n d.vi d.vk (i1 ++ y :: i2) d.kids))
    (pl : Place (.mk d.n d.vi d.vk (i1 ++ y :: i2) d.kids) j1 j2 k1 c k2) (hc : t ≤ c.its.length) (p : RemPost t h c y.k w1 w' c')
    (hflat : kvs (preL (k1.map (flat h)) j1) ++ dropL y.k (kvs (flat h c)) ++ kvs (sufL j2 (k2.map (flat h))) = dropL x.k (kvs (flat (h + 1) d))) :
    ∃ d', RemPost t (h + 1) d x.k w w' d' := by
  have hk : kvs (preL (k1.map (flat h)) j1 ++ flat h c' ++ sufL j2 (k2.map (flat h))) = dropL x.k (kvs (flat (h + 1) d)) := by
    rw [← hflat, ← p.drop]
    simp
  have hs : Srt (kvs (preL (k1.map (flat h)) j1 ++ flat h c' ++ sufL j2 (k2.map (flat h)))) := by rw [hk]; exact srt_drop a.srt
  have q := p.chg.lift0 z pl.its pl.kids pl.len (by have := p.len; omega) hs
  refine ⟨_, ⟨⟨q.ts, q.n, ?_, fun k hk => ?_⟩, ?_, ?_⟩⟩
  · refine (F.mono fun k _ h1 => ?_).trans' q.fr fun k _ h1 => h1
    exact Nat.lt_of_lt_of_le (own_pos.2 (.inr (.inl h1))) (occ_own (h + 1) d k)
  · exact q.old k (Nat.lt_of_lt_of_le hk F.bel.size)
  · show kvs (flat (h + 1) (.mk d.n d.vi d.vk (i1 ++ y :: i2) (k1 ++ c' :: k2))) = _
    rw [flat_mid (d := .mk d.n d.vi d.vk (i1 ++ y :: i2) (k1 ++ c' :: k2)) (c := c') pl.its rfl pl.len]
    exact hk
  · show d.its.length ≤ (i1 ++ y :: i2).length + 1
    rw [hi]; simp
theorem kv_split {A B : List It} {x : It} (hs : Srt (kvs (A ++ x :: B))) : dropL x.k (kvs (A ++ x :: B)) = kvs A ++ kvs B := by
  have e1 : kvs (A ++ x :: B) = kvs A ++ (x.k, x.v) :: kvs B := by simp [It.kv]
  rw [e1] at hs ⊢
  have hm := srt_mid hs
  exact dropL_at hm.1 hm.2
/-- The last item of the child ahead. -/
theorem rem_last {t h : Nat} {w w1 w' : World} {d c1 c2 c' : Nd} {i1 i2 r : List It} {x y : It} {k1 k2 : List Nd} (a : TS t (h + 1) w d) (p : Pair d i1 x i2 k1 c1 c2 k2) (F : Fr (fun k => d.vi.ownBlock = some k) w w1) (z : TS0 t (h + 1) w1 (.mk d.n d.vi d.vk (i1 ++ y :: i2) d.kids)) (hy : flat h c1 = r ++ [y]) (hc : t ≤ c1.its.length) (q : RemPost t h c1 y.k w1 w' c') : ∃ d', RemPost t (h + 1) d x.k w w' d' := by
  refine swap_end a p.its F z (j1 := i1) (j2 := y :: i2) (k1 := k1) (k2 := c2 :: k2) ⟨rfl, p.kids, p.len⟩ hc q ?_
  have hs := a.srt
  have e0 := flat_two (h := h) p.its p.kids p.len
  rw [e0] at hs ⊢
  have e1 : preL (k1.map (flat h)) i1 ++ (flat h c1 ++ x :: flat h c2) ++ sufL i2 (k2.map (flat h)) = (preL (k1.map (flat h)) i1 ++ flat h c1) ++ x :: (flat h c2 ++ sufL i2 (k2.map (flat h))) := by simp
  rw [e1] at hs ⊢
  rw [kv_split hs]
  have hs1 : Srt (kvs (r ++ y :: [])) := by
    simp only [kvs, List.map_append] at hs
    have := (srt_app.1 (srt_app.1 hs).1).2.1
    rw [show List.map It.kv (flat h c1) = kvs (r ++ y :: []) by rw [hy]] at this
    exact this
  have e2 : dropL y.k (kvs (flat h c1)) = kvs r := by rw [hy]; have := kv_split hs1; simpa using this
  rw [e2]
  simp [hy]
/-- The first item of the child behind. -/
theorem rem_first {t h : Nat} {w w1 w' : World} {d c1 c2 c' : Nd} {i1 i2 r : List It} {x y : It} {k1 k2 : List Nd} (a : TS t (h + 1) w d) (p : Pair d i1 x i2 k1 c1 c2 k2) (F : Fr (fun k => d.vi.ownBlock = some k) w w1) (z : TS0 t (h + 1) w1 (.mk d.n d.vi d.vk (i1 ++ y :: i2) d.kids)) (hy : flat h c2 = y :: r) (hc : t ≤ c2.its.length) (q : RemPost t h c2 y.k w1 w' c') : ∃ d', RemPost t (h + 1) d x.k w w' d' := by
  refine swap_end a p.its F z (j1 := i1 ++ [y]) (j2 := i2) (k1 := k1 ++ [c1]) (k2 := k2) ⟨by simp [Nd.its], by rw [show (Nd.mk d.n d.vi d.vk (i1 ++ y :: i2) d.kids).kids = d.kids from rfl, p.kids]; simp, by simp [p.len]⟩ hc q ?_
  have hs := a.srt
  have e0 := flat_two (h := h) p.its p.kids p.len
  rw [e0] at hs ⊢
  have e1 : preL (k1.map (flat h)) i1 ++ (flat h c1 ++ x :: flat h c2) ++ sufL i2 (k2.map (flat h)) = (preL (k1.map (flat h)) i1 ++ flat h c1) ++ x :: (flat h c2 ++ sufL i2 (k2.map (flat h))) := by simp
  rw [e1] at hs ⊢
  rw [kv_split hs]
  have hs1 : Srt (kvs ([] ++ y :: r)) := by
    simp only [kvs, List.map_append, List.map_cons] at hs
    have := (srt_app.1 (List.pairwise_cons.1 (srt_app.1 hs).2.1).2).1
    rw [show List.map It.kv (flat h c2) = kvs ([] ++ y :: r) by rw [hy]; rfl] at this
    exact this
  have e2 : dropL y.k (kvs (flat h c2)) = kvs r := by rw [hy]; have := kv_split hs1; simpa using this
  rw [e2]
  have e3 : preL ((k1 ++ [c1]).map (flat h)) (i1 ++ [y]) = preL (k1.map (flat h)) i1 ++ (flat h c1 ++ [y]) := by
    rw [List.map_append, preL_app (by simp [p.len])]
    simp
  rw [e3]
  simp [hy]
end Go.Proofs.Ytgjcomnljonffaa.Tlv
