/- put, what it is told in: pure parts. -/
import Derived.Test.YtgjcomnljonffaaB15
namespace Go.Proofs.Ytgjcomnljonffaa.Tlv
open Go.RowKit
set_option maxRecDepth 100000
set_option linter.unusedVariables false
set_option linter.unusedSimpArgs false
structure PutPost (t h : Nat) (d : Nd) (key : Key) (v : Int) (w w' : World) (d' : Nd) (old : Int) (was : Bool) : Prop where
  chg : Chg t h w d w' d'
  put : kvs (flat h d') = putL key v (kvs (flat h d))
  yes : was = true → getL key (kvs (flat h d)) = some old
  no : was = false → getL key (kvs (flat h d)) = none ∧ old = 0
  len : d.its.length ≤ d'.its.length
  ne : d.its.length = 0 → d.kids ≠ [] → (∀ c ∈ d.kids, c.its.length = 2 * t - 1) → 1 ≤ d'.its.length
theorem PutPost.before {t h : Nat} {d d1 d' : Nd} {key : Key} {v old : Int} {was : Bool} {w w1 w' : World} (c : Chg t h w d w1 d1) (hf : kvs (flat h d1) = kvs (flat h d)) (hl : d.its.length ≤ d1.its.length) (hd : d1 = d ∨ 1 ≤ d1.its.length) (p : PutPost t h d1 key v w1 w' d' old was) : PutPost t h d key v w w' d' old was :=
  ⟨c.trans p.chg, by rw [p.put, hf], fun h => by rw [← hf]; exact p.yes h, fun h => by rw [← hf]; exact p.no h, Nat.le_trans hl p.len, fun h1 h2 h3 => by
    rcases hd with rfl | hd
    · exact p.ne h1 h2 h3
    · exact Nat.le_trans hd p.len⟩
/-- A child's place. -/
structure Place (d : Nd) (i1 i2 : List It) (k1 : List Nd) (c : Nd) (k2 : List Nd) : Prop where
  its : d.its = i1 ++ i2
  kids : d.kids = k1 ++ c :: k2
  len : i1.length = k1.length
theorem place_at {t h : Nat} {d : Nd} (b : Bal t (h + 1) d) {i : Nat} (hi : i ≤ d.its.length) : ∃ c k2, Place d (d.its.take i) (d.its.drop i) (d.kids.take i) c k2 ∧ d.kids[i]? = some c := by
  have h1 : d.kids.length = d.its.length + 1 := b.1
  obtain ⟨a, x, r, e, e1, e2⟩ := list_cut (show i < d.kids.length by omega)
  refine ⟨x, r, ⟨(List.take_append_drop _ _).symm, ?_, by simp; omega⟩, by rw [e, ← e1]; simp⟩
  rw [e, ← e1, List.take_left]
theorem Place.lohi {t h : Nat} {w : World} {d c : Nd} {i1 i2 : List It} {k1 k2 : List Nd} {key : Key} (p : Place d i1 i2 k1 c k2) (a : TS t (h + 1) w d) (h1 : ∀ x ∈ i1, klt x.k key) (h2 : ∀ x ∈ i2, klt key x.k) :
    Lo key (kvs (preL (k1.map (flat h)) i1)) ∧ Hi key (kvs (sufL i2 (k2.map (flat h)))) := by
  have hs := a.srt
  rw [flat_mid p.its p.kids p.len] at hs
  have hb : d.kids.length = d.its.length + 1 := a.bal.1
  rw [p.its, p.kids] at hb
  simp at hb
  have hl := p.len
  exact ⟨pre_lo (r := flat h c ++ sufL i2 (k2.map (flat h))) (by simpa using p.len) (by simpa using hs) h1, suf_hi (r := preL (k1.map (flat h)) i1 ++ flat h c) (by simp; omega) hs h2⟩
theorem PutPost.lift {t h : Nat} {w w' : World} {d c c' : Nd} {i1 i2 : List It} {k1 k2 : List Nd} {key : Key} {v old : Int} {was : Bool} (pl : Place d i1 i2 k1 c k2) (a : TS t (h + 1) w d) (h1 : ∀ x ∈ i1, klt x.k key) (h2 : ∀ x ∈ i2, klt key x.k)
    (hnf : c.its.length ≠ 2 * t - 1) (p : PutPost t h c key v w w' c' old was) : ∃ d', PutPost t (h + 1) d key v w w' d' old was := by
  obtain ⟨lo, hi⟩ := pl.lohi a h1 h2
  have hkl := a.kidLen pl.kids
  have hfl := flat_mid (h := h) pl.its pl.kids pl.len
  have hput : kvs (preL (k1.map (flat h)) i1 ++ flat h c' ++ sufL i2 (k2.map (flat h))) = putL key v (kvs (flat (h + 1) d)) := by
    rw [hfl]
    simp only [kvs, List.map_append]
    rw [putL_mid lo hi]
    have := p.put
    simp only [kvs] at this
    rw [this]
  have hs : Srt (kvs (preL (k1.map (flat h)) i1 ++ flat h c' ++ sufL i2 (k2.map (flat h)))) := by rw [hput]; exact srt_put a.srt
  have hg : getL key (kvs (flat (h + 1) d)) = getL key (kvs (flat h c)) := by
    rw [hfl]
    simp only [kvs, List.map_append]
    exact getL_mid lo hi
  refine ⟨_, p.chg.lift a pl.its pl.kids pl.len (Nat.le_trans hkl p.len) hs, ?_, fun h => by rw [hg]; exact p.yes h, fun h => by rw [hg]; exact p.no h, Nat.le_refl _, fun _ _ h3 => absurd (h3 c (by rw [pl.kids]; simp)) hnf⟩
  rw [flat_mid (d := .mk d.n d.vi d.vk d.its (k1 ++ c' :: k2)) (c := c') pl.its rfl pl.len]
  exact hput
/-- An item of a node, in the list of all. -/
theorem flat_item {t h : Nat} {w : World} {d : Nd} {i1 i2 : List It} {x : It} (a : TS t h w d) (hi : d.its = i1 ++ x :: i2) : ∃ A B, flat h d = A ++ x :: B ∧ ∀ n vi vk x', flat h (.mk n vi vk (i1 ++ x' :: i2) d.kids) = A ++ x' :: B := by
  have hlen : h = 0 ∨ (d.kids.take (i1.length + 1)).length = i1.length + 1 ∧ 0 < (d.kids.drop (i1.length + 1)).length := by
    cases h with
    | zero => exact .inl rfl
    | succ h =>
      have hb : d.kids.length = d.its.length + 1 := a.bal.1
      rw [hi] at hb
      simp at hb
      exact .inr ⟨by simp; omega, by simp; omega⟩
  refine ⟨flat h (.mk 0 (.slice none 0 0) (.slice none 0 0) i1 (d.kids.take (i1.length + 1))), flat h (.mk 0 (.slice none 0 0) (.slice none 0 0) i2 (d.kids.drop (i1.length + 1))), flat_cat (t := t) hi (List.take_append_drop _ _).symm hlen _ _ _ _ _ _, fun n vi vk x' => ?_⟩
  exact flat_cat (t := t) (c := .mk n vi vk (i1 ++ x' :: i2) d.kids) rfl (List.take_append_drop _ _).symm hlen _ _ _ _ _ _
theorem RowK.setVal {w : World} {base n c g : Nat} {i1 i2 : List It} {x : It} {v : Int} (h : RowK kI w base (.slice (some ⟨g, 0, none⟩) n c) (i1 ++ x :: i2)) :
    RowK kI (w.setCell ⟨g, i1.length * 2 + 1, none⟩ (.int .i64 v)) base (.slice (some ⟨g, 0, none⟩) n c) (i1 ++ { x with v := v } :: i2) := by
  obtain ⟨hn, h0 | ⟨g', cur, e, hb, hg, h1, h2, h3, h4⟩⟩ := h.cases
  · cases h0.1
  · cases e
    have hl : (i1 ++ { x with v := v } :: i2).length = n := by rw [hn]; simp
    have hg' := hg.set_ (i1.length * 2 + 1) (.int .i64 v)
    rw [← hl]
    refine RowK.mk' (cur := cur.set (i1.length * 2 + 1) (.int .i64 v)) hb (by simpa using hg') (by omega) h2 (by simpa using h3) ?_
    rw [hl]
    have e1 : flatK kI (i1 ++ x :: i2) = flatK kI i1 ++ ([.slice x.A x.k.length x.c, .int .i64 x.v] ++ flatK kI i2) := by simp [flatK, kI]
    have e2 : flatK kI (i1 ++ { x with v := v } :: i2) = flatK kI i1 ++ ([.slice x.A x.k.length x.c, .int .i64 v] ++ flatK kI i2) := by simp [flatK, kI]
    have hla : (flatK kI i1).length = i1.length * 2 := flat_length kI i1
    rw [List.take_set, h4, e1, e2]
    rw [List.set_append_right _ _ (by omega)]
    congr 1
    rw [hla, show i1.length * 2 + 1 - i1.length * 2 = 1 by omega]
    rfl
theorem put_found {t h : Nat} {w : World} {d : Nd} {i1 i2 : List It} {x : It} {v : Int} {g n c : Nat} (a : TS t h w d) (hi : d.its = i1 ++ x :: i2) (hv : d.vi = .slice (some ⟨g, 0, none⟩) n c) (w' : World) (hw : w' = w.setCell ⟨g, i1.length * 2 + 1, none⟩ (.int .i64 v)) :
    ∃ d', PutPost t h d x.k v w w' d' x.v true := by
  subst hw
  obtain ⟨A, B, f1, f2⟩ := flat_item a hi
  have hs := a.srt
  rw [f1] at hs
  have e1 : kvs (A ++ x :: B) = kvs A ++ (x.k, x.v) :: kvs B := by simp [It.kv]
  rw [e1] at hs
  have hm := srt_mid hs
  have f3 := f2 d.n d.vi d.vk { x with v := v }
  have e2 : kvs (A ++ { x with v := v } :: B) = kvs A ++ (x.k, v) :: kvs B := by simp [It.kv]
  have hput : kvs (flat h (.mk d.n d.vi d.vk (i1 ++ { x with v := v } :: i2) d.kids)) = putL x.k v (kvs (flat h d)) := by
    rw [f3, f1, e1, e2]
    exact (putL_at hm.1 hm.2).symm
  have hget : getL x.k (kvs (flat h d)) = some x.v := by rw [f1, e1]; exact getL_at hm.1 hm.2
  refine ⟨.mk d.n d.vi d.vk (i1 ++ { x with v := v } :: i2) d.kids, chg_node a ?_ ?_ ?_ (.inl rfl) ?_ ?_ ?_, hput, fun _ => hget, (fun h => by cases h), ?_, fun h => by rw [hi] at h; simp at h⟩
  · exact Fr.set (S := fun k => k = d.n ∨ d.vi.ownBlock = some k) (Fr.refl w) (g := g) (.inr (by rw [hv]; rfl)) _
  · have hb := a.at'.node.blk
    refine Blk.far hb (p := ⟨g, _, none⟩) (fun e => ?_) _
    obtain ⟨cs, q⟩ := a.at'.node.its.own_blk (k := g) (by rw [hv]; rfl)
    have e' : d.n = g := e
    rw [← e'] at q
    exact absurd (blk_ty hb q) (by decide)
  · have hr := a.at'.node.its
    rw [hi] at hr
    rw [hv] at hr ⊢
    exact hr.setVal
  · have hb := a.bal
    rw [bal_kids] at hb ⊢
    have e : (i1 ++ { x with v := v } :: i2).length = d.its.length := by rw [hi]; simp
    simp only [Nd.its, Nd.kids]
    rw [e]
    exact hb
  · intro y hy
    rw [f3] at hy
    rw [f1]
    simp at hy ⊢
    rcases hy with h1 | rfl | h1
    · exact .inl (.inl h1)
    · exact .inr ((a.keys x (by rw [f1]; simp)).kept fun b cs hb => by
        refine Blk.far hb (p := ⟨g, _, none⟩) (fun e => ?_) _
        obtain ⟨cs', q⟩ := a.at'.node.its.own_blk (k := g) (by rw [hv]; rfl)
        have e' : b = g := e
        rw [← e'] at q
        exact absurd (blk_ty hb q) (by decide))
    · exact .inl (.inr (.inr h1))
  · rw [hput]; exact srt_put a.srt
  · show d.its.length ≤ (i1 ++ _ :: i2).length
    rw [hi]; simp
/-- An item put into a leaf. -/
theorem put_leaf {t : Nat} {w w' : World} {d : Nd} {i1 i2 : List It} {it : It} {vi : Value} (a : TS t 0 w d) (hi : d.its = i1 ++ i2) (h1 : ∀ x ∈ i1, klt x.k it.k) (h2 : ∀ x ∈ i2, klt it.k x.k) (hroom : d.its.length < 2 * t - 1)
    (f : Fr (fun k => k = d.n ∨ d.vi.ownBlock = some k) w w') (hb : Blk w' d.n 59 #[vi, d.vk]) (hr : RowK kI w' 0 vi (i1 ++ it :: i2)) (ho : vi.ownBlock = d.vi.ownBlock ∨ ∃ k, vi.ownBlock = some k ∧ w.heap.size ≤ k) (hk : KAt w' it.A it.k) :
    ∃ d', PutPost t 0 d it.k it.v w w' d' 0 false := by
  have hs := a.srt
  have hf : flat 0 d = i1 ++ i2 := hi
  rw [hf] at hs
  have lo : Lo it.k (kvs i1) := fun x hx => by obtain ⟨y, hy, rfl⟩ := List.mem_map.1 hx; exact h1 y hy
  have hi' : Hi it.k (kvs i2) := fun x hx => by obtain ⟨y, hy, rfl⟩ := List.mem_map.1 hx; exact h2 y hy
  have hput : kvs (flat 0 (.mk d.n vi d.vk (i1 ++ it :: i2) d.kids)) = putL it.k it.v (kvs (flat 0 d)) := by
    rw [hf]
    show kvs (i1 ++ it :: i2) = _
    simp only [kvs, List.map_append, List.map_cons]
    exact (putL_new lo hi').symm
  have hget : getL it.k (kvs (flat 0 d)) = none := by
    rw [hf]
    simp only [kvs, List.map_append]
    exact getL_no lo hi'
  refine ⟨.mk d.n vi d.vk (i1 ++ it :: i2) d.kids, chg_node a f hb hr ho ?_ ?_ ?_, hput, (fun h => by cases h), fun _ => ⟨hget, rfl⟩, ?_, fun _ h => absurd a.bal.1 h⟩
  · refine ⟨a.bal.1, ?_⟩
    rw [hi] at hroom
    simp [Nd.its] at hroom ⊢
    omega
  · intro y hy
    have hy' : y ∈ i1 ++ it :: i2 := hy
    rw [hf]
    simp at hy' ⊢
    rcases hy' with h | rfl | h
    · exact .inl (.inl h)
    · exact .inr hk
    · exact .inl (.inr h)
  · rw [hput]; exact srt_put a.srt
  · show d.its.length ≤ (i1 ++ _ :: i2).length
    rw [hi]; simp
end Go.Proofs.Ytgjcomnljonffaa.Tlv
