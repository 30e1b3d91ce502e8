/- Trees in memory: a node as it lies, blocks that stand apart, what a change keeps. -/
import Derived.Test.YtgjcomnljonffaaB8
namespace Go.Proofs.Ytgjcomnljonffaa.Tlv
open Go.RowKit
set_option maxRecDepth 100000
set_option linter.unusedVariables false
set_option linter.unusedSimpArgs false
/-- What was written: blocks of S alone. -/
structure Fr (S : Nat → Prop) (w w' : World) : Prop where
  bel : Below 0 w w'
  blk : ∀ k, k < w.heap.size → ¬ S k → w'.heap[k]? = w.heap[k]?
theorem Fr.below {S : Nat → Prop} {w w' : World} {n0 : Nat} (h : Fr S w w') (hS : ∀ k, S k → n0 ≤ k) (hn : n0 ≤ w.heap.size) : Below n0 w w' :=
  ⟨h.bel.os, h.bel.tape, h.bel.output, h.bel.size, fun k hk => h.blk k (by omega) fun hs => by have := hS k hs; omega⟩
theorem Fr.of {S : Nat → Prop} {w w' : World} (h : Below w.heap.size w w') : Fr S w w' := ⟨h.mono (Nat.zero_le _), fun k hk _ => h.block k hk⟩
theorem Fr.refl {S : Nat → Prop} (w : World) : Fr S w w := Fr.of (Below.refl _ _)
theorem Fr.trans {S : Nat → Prop} {w w' w'' : World} (h : Fr S w w') (h' : Fr S w' w'') : Fr S w w'' :=
  ⟨h.bel.trans h'.bel, fun k hk hs => (h'.blk k (Nat.lt_of_lt_of_le hk h.bel.size) hs).trans (h.blk k hk hs)⟩
theorem Fr.mono {S S' : Nat → Prop} {w w' : World} (h : Fr S w w') (hs : ∀ k, k < w.heap.size → S k → S' k) : Fr S' w w' := ⟨h.bel, fun k hk hn => h.blk k hk fun h1 => hn (hs k hk h1)⟩
/-- .. what is written behind may be what was new. -/
theorem Fr.trans' {S S' : Nat → Prop} {w w' w'' : World} (h : Fr S w w') (h' : Fr S' w' w'') (hs : ∀ k, k < w.heap.size → S' k → S k) : Fr S w w'' :=
  ⟨h.bel.trans h'.bel, fun k hk hn => (h'.blk k (Nat.lt_of_lt_of_le hk h.bel.size) fun h1 => hn (hs k hk h1)).trans (h.blk k hk hn)⟩
theorem Fr.set {S : Nat → Prop} {w w' : World} (h : Fr S w w') {g i : Nat} (hg : S g) (u : Value) : Fr S w (w'.setCell ⟨g, i, none⟩ u) :=
  h.trans ⟨(Below.refl 0 _).setCell (p := ⟨g, i, none⟩) (Nat.zero_le _) u, fun k hk hs => Below.heap_setCell _ _ _ _ (fun e => hs (by subst e; exact hg))⟩
theorem Fr.grown {S : Nat → Prop} {w w' w'' : World} {row : Option Nat} (h : Fr S w w') (hg : w'.grownBy w'' row) (hr : ∀ k, row = some k → k < w.heap.size → S k) : Fr S w w'' :=
  ⟨h.bel.trans ((Below.refl 0 _).grown hg (Nat.zero_le _) (fun _ _ => Nat.zero_le _)), fun k hk hs => (hg.block k (Nat.lt_of_lt_of_le hk h.bel.size) fun e => hs (hr k e.symm hk)).trans (h.blk k hk hs)⟩
theorem Fr.drew {S : Nat → Prop} {w w' : World} (h : Fr S w w') : Fr S w w'.drew := ⟨⟨h.bel.os, h.bel.tape, h.bel.output, h.bel.size, h.bel.block⟩, h.blk⟩
theorem Fr.alloc {S : Nat → Prop} {w w' : World} (h : Fr S w w') (o : Obj) : Fr S w (w'.alloc o) := h.trans (Fr.of ((Below.refl _ _).alloc (Nat.le_refl _) _))
theorem Fr.b {S : Nat → Prop} {w w' : World} (h : Fr S w w') {g : Nat} {t : TypeId} {cs : Array Value} (hb : Blk w g t cs) (hs : ¬ S g) : Blk w' g t cs := (h.blk g hb.lt hs).trans hb
theorem RowK.kept' {α : Type} {K : Kind α} {w w' : World} {base : Nat} {v : Value} {l : List α} (h : RowK K w base v l) (hs : ∀ k, v.ownBlock = some k → w'.heap[k]? = w.heap[k]?) : RowK K w' base v l := by
  refine ⟨h.1, ?_⟩
  rcases h.2 with h0 | ⟨g, cap, cur, hv, hg, hh, rest⟩
  · exact .inl h0
  · exact .inr ⟨g, cap, cur, hv, hg, (hs g (by rw [hv]; rfl)).trans hh, rest⟩
theorem RowK.own_blk {α : Type} {K : Kind α} {w : World} {base k : Nat} {v : Value} {l : List α} (h : RowK K w base v l) (hk : v.ownBlock = some k) : ∃ cs, Blk w k K.e cs := by
  rcases h.2 with ⟨rfl, _⟩ | ⟨g, cap, cur, rfl, hg, hh, rest⟩
  · simp [Value.ownBlock] at hk
  · have : g = k := by simpa [Value.ownBlock] using hk
    subst this
    exact ⟨_, hh⟩
theorem blk_ty {w : World} {g : Nat} {t t' : TypeId} {cs cs' : Array Value} (h : Blk w g t cs) (h' : Blk w g t' cs') : t = t' := by
  unfold Blk at h h'
  rw [h] at h'
  injection h' with h'
  injection h' with _ h3
/-- A node as it lies. -/
structure NodeAt (w : World) (d : Nd) : Prop where
  blk : Blk w d.n 59 #[d.vi, d.vk]
  its : RowK kI w 0 d.vi d.its
  kids : RowK kP w 0 d.vk (d.kids.map Nd.n)
def At (w : World) : Nat → Nd → Prop
  | 0, d => NodeAt w d
  | h + 1, d => NodeAt w d ∧ ∀ c ∈ d.kids, At w h c
theorem At.node {w : World} {h : Nat} {d : Nd} (a : At w h d) : NodeAt w d := by
  cases h
  · exact a
  · exact a.1
theorem occ_own (h : Nat) (d : Nd) (k : Nat) : own d.n d.vi d.vk k ≤ occ h d k := by
  cases h
  · exact Nat.le_refl _
  · rw [occ_succ]; omega
theorem own_pos {n k : Nat} {vi vk : Value} : 0 < own n vi vk k ↔ n = k ∨ vi.ownBlock = some k ∨ vk.ownBlock = some k := by
  unfold own
  by_cases h1 : n = k <;> by_cases h2 : vi.ownBlock = some k <;> by_cases h3 : vk.ownBlock = some k <;> simp [h1, h2, h3]
theorem NodeAt.typed {w : World} {d : Nd} (a : NodeAt w d) {k : Nat} (hk : 0 < own d.n d.vi d.vk k) : ∃ t cs, Blk w k t cs ∧ t ≠ 5 := by
  rcases own_pos.1 hk with rfl | h | h
  · exact ⟨_, _, a.blk, by decide⟩
  · obtain ⟨cs, h1⟩ := a.its.own_blk h
    exact ⟨_, _, h1, by decide⟩
  · obtain ⟨cs, h1⟩ := a.kids.own_blk h
    exact ⟨_, _, h1, by decide⟩
theorem occs_pos {h k : Nat} : ∀ {l : List Nd}, 0 < occs h l k → ∃ c ∈ l, 0 < occ h c k
  | [], hk => by simp at hk
  | c :: l, hk => by
    rw [occs_cons] at hk
    by_cases h1 : 0 < occ h c k
    · exact ⟨c, by simp, h1⟩
    · obtain ⟨c', h2, h3⟩ := occs_pos (l := l) (k := k) (h := h) (by omega)
      exact ⟨c', by simp [h2], h3⟩
theorem At.typed {w : World} : ∀ {h : Nat} {d : Nd}, At w h d → ∀ {k : Nat}, 0 < occ h d k → ∃ t cs, Blk w k t cs ∧ t ≠ 5
  | 0, d, a, k, hk => NodeAt.typed a hk
  | h + 1, d, a, k, hk => by
    rw [occ_succ] at hk
    by_cases h1 : 0 < own d.n d.vi d.vk k
    · exact a.1.typed h1
    · obtain ⟨c, h2, h3⟩ := occs_pos (h := h) (l := d.kids) (k := k) (by omega)
      exact (a.2 c h2).typed h3
theorem At.lt {w : World} {h k : Nat} {d : Nd} (a : At w h d) (hk : 0 < occ h d k) : k < w.heap.size := by
  obtain ⟨t, cs, h1, _⟩ := a.typed hk
  exact h1.lt
theorem NodeAt.kept {w w' : World} {d : Nd} (a : NodeAt w d) (hk : ∀ k, 0 < own d.n d.vi d.vk k → w'.heap[k]? = w.heap[k]?) : NodeAt w' d :=
  ⟨(hk _ (own_pos.2 (.inl rfl))).trans a.blk, a.its.kept' fun k h => hk k (own_pos.2 (.inr (.inl h))), a.kids.kept' fun k h => hk k (own_pos.2 (.inr (.inr h)))⟩
theorem At.kept {w w' : World} : ∀ {h : Nat} {d : Nd}, At w h d → (∀ k, 0 < occ h d k → w'.heap[k]? = w.heap[k]?) → At w' h d
  | 0, d, a, hk => NodeAt.kept a hk
  | h + 1, d, a, hk => ⟨a.1.kept fun k h1 => hk k (by rw [occ_succ]; omega), fun c hc => (a.2 c hc).kept fun k h1 => hk k (by rw [occ_succ]; have := occ_mem (h := h) (k := k) hc; omega)⟩
theorem At.on {w w' : World} {h : Nat} {d : Nd} (a : At w h d) (hb : Below w.heap.size w w') : At w' h d := a.kept fun k hk => hb.block k (a.lt hk)
theorem At.fr {S : Nat → Prop} {w w' : World} {h : Nat} {d : Nd} (a : At w h d) (f : Fr S w w') (hs : ∀ k, 0 < occ h d k → ¬ S k) : At w' h d := a.kept fun k hk => f.blk k (a.lt hk) (hs k hk)
def KeysAt (w : World) (l : List It) : Prop := ∀ x ∈ l, KAt w x.A x.k
theorem KeysAt.on {w w' : World} {l : List It} (h : KeysAt w l) (hb : Below w.heap.size w w') : KeysAt w' l := fun x hx => (h x hx).on hb
theorem KAt.fr {S : Nat → Prop} {w w' : World} {A : Option Addr} {k : Key} (h : KAt w A k) (f : Fr S w w') (hs : ∀ k, k < w.heap.size → S k → ∃ t cs, Blk w k t cs ∧ t ≠ 5) : KAt w' A k :=
  h.kept fun b cs hb => (f.blk b hb.lt fun h1 => by
    obtain ⟨t, cs', h2, h3⟩ := hs b hb.lt h1
    exact h3 (blk_ty h2 hb)).trans hb
theorem KeysAt.fr {S : Nat → Prop} {w w' : World} {l : List It} (h : KeysAt w l) (f : Fr S w w') (hs : ∀ k, k < w.heap.size → S k → ∃ t cs, Blk w k t cs ∧ t ≠ 5) : KeysAt w' l := fun x hx => (h x hx).fr f hs
/-- A tree, all of it. -/
structure TS (t h : Nat) (w : World) (d : Nd) : Prop where
  at' : At w h d
  sep : ∀ k, occ h d k ≤ 1
  bal : Bal t h d
  keys : KeysAt w (flat h d)
  srt : Srt (kvs (flat h d))
theorem TS.on {t h : Nat} {w w' : World} {d : Nd} (a : TS t h w d) (hb : Below w.heap.size w w') : TS t h w' d := ⟨a.at'.on hb, a.sep, a.bal, a.keys.on hb, a.srt⟩
/-- A change of a tree: its node stays where it is; blocks that it has not are kept, and are not taken. -/
structure Chg (t h : Nat) (w : World) (d : Nd) (w' : World) (d' : Nd) : Prop where
  ts : TS t h w' d'
  n : d'.n = d.n
  fr : Fr (fun k => 0 < occ h d k) w w'
  old : ∀ k, k < w.heap.size → occ h d' k ≤ occ h d k
theorem Chg.below {t h : Nat} {w w' : World} {d : Nd} (a : TS t h w d) (hb : Below w.heap.size w w') : Chg t h w d w' d := ⟨a.on hb, rfl, Fr.of hb, fun _ _ => Nat.le_refl _⟩
theorem Chg.trans {t h : Nat} {w w1 w2 : World} {d d1 d2 : Nd} (a : Chg t h w d w1 d1) (b : Chg t h w1 d1 w2 d2) : Chg t h w d w2 d2 :=
  ⟨b.ts, b.n.trans a.n, a.fr.trans' b.fr fun k hk h1 => by have := a.old k hk; omega, fun k hk => Nat.le_trans (b.old k (Nat.lt_of_lt_of_le hk a.fr.bel.size)) (a.old k hk)⟩
theorem its_sub {l : List It} : ∀ {fs : List (List It)}, fs.length = l.length + 1 → l.Sublist (inter l fs) := by
  intro fs
  cases fs with
  | nil => intro h; simp at h
  | cons f fs =>
    intro h
    refine (?_ : l.Sublist (sufL l fs)).trans (List.sublist_append_right _ _)
    have h' : l.length = fs.length := by simpa using h.symm
    clear h
    induction l generalizing fs with
    | nil => exact List.nil_sublist _
    | cons x l ih =>
      cases fs with
      | nil => simp at h'
      | cons g fs =>
        rw [sufL_cons]
        exact List.Sublist.cons_cons x ((ih (fs := fs) (by simpa using h')).trans (List.sublist_append_right _ _))
theorem Bal.sub {t : Nat} : ∀ {h : Nat} {d : Nd}, Bal t h d → d.its.Sublist (flat h d)
  | 0, d, _ => List.Sublist.refl _
  | h + 1, d, b => its_sub (by simpa using b.1)
theorem TS.rise {t h : Nat} {w : World} {d : Nd} (a : TS t h w d) : Rise d.its := by
  have := List.Pairwise.sublist (a.bal.sub.map It.kv) a.srt
  exact (List.pairwise_map (f := It.kv)).1 this
theorem TS.itsKeys {t h : Nat} {w : World} {d : Nd} (a : TS t h w d) : ∀ x ∈ d.its, KAt w x.A x.k := fun x hx => a.keys x (a.bal.sub.subset hx)
section
variable {t h : Nat} {w w' : World} {d c c' : Nd} {i1 i2 : List It} {k1 k2 : List Nd}
theorem flat_kid (hi : d.its = i1 ++ i2) (hk : d.kids = k1 ++ c :: k2) (hl : i1.length = k1.length) : ∀ x ∈ flat h c, x ∈ flat (h + 1) d := fun x hx => by
  rw [flat_mid hi hk hl]; simp [hx]
theorem TS.kid (a : TS t (h + 1) w d) (hi : d.its = i1 ++ i2) (hk : d.kids = k1 ++ c :: k2) (hl : i1.length = k1.length) : TS t h w c := by
  have hc : c ∈ d.kids := by rw [hk]; simp
  refine ⟨a.at'.2 c hc, fun k => ?_, (a.bal.2.2 c hc).1, fun x hx => a.keys x (flat_kid hi hk hl x hx), ?_⟩
  · have h1 := a.sep k
    rw [occ_succ] at h1
    have := occ_mem (h := h) (k := k) hc
    omega
  · have h1 := a.srt
    rw [flat_mid hi hk hl] at h1
    simp only [kvs, List.map_append] at h1
    exact (srt_app.1 (srt_app.1 h1).1).2.1
theorem TS.kidLen (a : TS t (h + 1) w d) (hk : d.kids = k1 ++ c :: k2) : t - 1 ≤ c.its.length := (a.bal.2.2 c (by rw [hk]; simp)).2
/-- A child that has changed. -/
theorem Chg.lift (a : TS t (h + 1) w d) (hi : d.its = i1 ++ i2) (hk : d.kids = k1 ++ c :: k2) (hl : i1.length = k1.length) (b : Chg t h w c w' c') (hlen : t - 1 ≤ c'.its.length)
    (hs : Srt (kvs (preL (k1.map (flat h)) i1 ++ flat h c' ++ sufL i2 (k2.map (flat h))))) : Chg t (h + 1) w d w' (.mk d.n d.vi d.vk d.its (k1 ++ c' :: k2)) := by
  have hf := flat_mid (h := h) (d := .mk d.n d.vi d.vk d.its (k1 ++ c' :: k2)) (c := c') (k1 := k1) (k2 := k2) hi rfl hl
  have hsep : ∀ k, own d.n d.vi d.vk k + (occs h k1 k + (occ h c k + occs h k2 k)) ≤ 1 := fun k => by
    have := a.sep k
    rw [occ_succ, hk] at this
    simpa using this
  have hbal : d.kids.length = d.its.length + 1 := a.bal.1
  have hnode : NodeAt w' (.mk d.n d.vi d.vk d.its (k1 ++ c' :: k2)) := by
    have h1 : NodeAt w' d := a.at'.1.kept fun k hk => b.fr.blk k (by obtain ⟨t, cs, h1, _⟩ := a.at'.1.typed hk; exact h1.lt) (by have := hsep k; omega)
    refine ⟨h1.blk, h1.its, ?_⟩
    have h2 := h1.kids
    rw [hk] at h2
    simpa [Nd.kids, Nd.vk, b.n] using h2
  refine ⟨⟨⟨hnode, fun x hx => ?_⟩, fun k => ?_, ?_, ?_, by rw [hf]; exact hs⟩, rfl, ?_, fun k hk' => ?_⟩
  · have hx' : x ∈ k1 ∨ x = c' ∨ x ∈ k2 := by simpa [Nd.kids] using hx
    rcases hx' with h1 | rfl | h1
    · exact (a.at'.2 x (by rw [hk]; simp [h1])).kept fun k hk3 => b.fr.blk k ((a.at'.2 x (by rw [hk]; simp [h1])).lt hk3) (by have := hsep k; have := occ_mem (h := h) (k := k) h1; omega)
    · exact b.ts.at'
    · exact (a.at'.2 x (by rw [hk]; simp [h1])).kept fun k hk3 => b.fr.blk k ((a.at'.2 x (by rw [hk]; simp [h1])).lt hk3) (by have := hsep k; have := occ_mem (h := h) (k := k) h1; omega)
  · rw [occ_succ]
    simp only [Nd.n, Nd.vi, Nd.vk, Nd.kids, occs_app, occs_cons]
    have h1 := hsep k
    have h2 := b.ts.sep k
    by_cases hkw : k < w.heap.size
    · have := b.old k hkw
      cases d
      simp only [Nd.n, Nd.vi, Nd.vk] at h1 ⊢
      omega
    · -- a new block: nothing of what was has it
      have h3 : own d.n d.vi d.vk k = 0 := by
        rcases Nat.eq_zero_or_pos (own d.n d.vi d.vk k) with h | h
        · exact h
        · obtain ⟨t, cs, h4, _⟩ := a.at'.1.typed h
          exact absurd h4.lt hkw
      have h4 : ∀ l : List Nd, (∀ x ∈ l, x ∈ d.kids) → occs h l k = 0 := fun l hl2 => by
        rcases Nat.eq_zero_or_pos (occs h l k) with h5 | h5
        · exact h5
        · obtain ⟨x, h6, h7⟩ := occs_pos h5
          exact absurd ((a.at'.2 x (hl2 x h6)).lt h7) hkw
      have h5 := h4 k1 fun x hx => by rw [hk]; simp [hx]
      have h6 := h4 k2 fun x hx => by rw [hk]; simp [hx]
      cases d
      simp only [Nd.n, Nd.vi, Nd.vk] at h3 ⊢
      omega
  · refine ⟨?_, a.bal.2.1, fun x hx => ?_⟩
    · have : (k1 ++ c :: k2).length = d.its.length + 1 := by rw [← hk]; exact hbal
      simpa [Nd.kids, Nd.its] using this
    · have hx' : x ∈ k1 ∨ x = c' ∨ x ∈ k2 := by simpa [Nd.kids] using hx
      rcases hx' with h1 | rfl | h1
      · exact a.bal.2.2 x (by rw [hk]; simp [h1])
      · exact ⟨b.ts.bal, hlen⟩
      · exact a.bal.2.2 x (by rw [hk]; simp [h1])
  · rw [hf]
    have hty : ∀ k, k < w.heap.size → 0 < occ h c k → ∃ t cs, Blk w k t cs ∧ t ≠ 5 := fun k _ hk => (a.at'.2 c (by rw [‹d.kids = _›]; simp)).typed hk
    have hold := a.keys
    rw [flat_mid hi hk hl] at hold
    intro x hx
    rcases List.mem_append.1 hx with hx | hx
    · rcases List.mem_append.1 hx with hx | hx
      · exact (hold x (by simp [hx])).fr b.fr hty
      · exact b.ts.keys x hx
    · exact (hold x (by simp [hx])).fr b.fr hty
  · exact b.fr.mono fun k _ h1 => by rw [occ_succ, hk]; simp; omega
  · rw [occ_succ, occ_succ, hk]
    have := b.old k hk'
    cases d
    simp only [Nd.n, Nd.vi, Nd.vk, Nd.kids, occs_app, occs_cons]
    omega
end
end Go.Proofs.Ytgjcomnljonffaa.Tlv
