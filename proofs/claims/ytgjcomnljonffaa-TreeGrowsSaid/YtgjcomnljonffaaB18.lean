/- A tree: New, Len, Put. -/
import Derived.Test.YtgjcomnljonffaaB17
namespace Go.Proofs.Ytgjcomnljonffaa.Tlv
open Go.RowKit
set_option maxRecDepth 100000
set_option linter.unusedVariables false
set_option linter.unusedSimpArgs false
/-- A tree in block T, of degree s + 1, that has the pairs l, and the blocks F. -/
structure TreeIn (w : World) (T s : Nat) (l : List KV) (F : Nat → Prop) (h : Nat) (d : Nd) : Prop where
  blk : Blk w T 61 #[.int .i64 (s + 1 : Nat), .int .i64 l.length, .pointer (some ⟨d.n, 0, none⟩)]
  ts : TS (s + 1) h w d
  root : 0 < h → 1 ≤ d.its.length
  kvs : kvs (flat h d) = l
  own : ∀ k, F k ↔ k = T ∨ 0 < occ h d k
  deg : 1 ≤ s ∧ s ≤ 63
def TreeAt (w : World) (T s : Nat) (l : List KV) (F : Nat → Prop) : Prop := ∃ h d, TreeIn w T s l F h d
theorem TreeAt.kept {w w' : World} {T s : Nat} {l : List KV} {F : Nat → Prop} (a : TreeAt w T s l F) {S : Nat → Prop} (f : Fr S w w') (h1 : ∀ k, F k → ¬ S k) (h2 : ∀ k, k < w.heap.size → S k → ∀ cs, ¬ Blk w k 5 cs) : TreeAt w' T s l F := by
  obtain ⟨h, d, a⟩ := a
  refine ⟨h, d, f.b a.blk (h1 _ ((a.own T).2 (.inl rfl))), ⟨a.ts.at'.fr f fun k hk => h1 k ((a.own k).2 (.inr hk)), a.ts.sep, a.ts.bal, fun x hx => (a.ts.keys x hx).kept fun b cs hb => f.b hb fun hs => h2 b hb.lt hs cs hb, a.ts.srt⟩, a.root, a.kvs, a.own, a.deg⟩
theorem TreeAt.on {w w' : World} {T s : Nat} {l : List KV} {F : Nat → Prop} (a : TreeAt w T s l F) (hb : Below w.heap.size w w') : TreeAt w' T s l F := by
  obtain ⟨h, d, a⟩ := a
  exact ⟨h, d, a.blk.on hb, a.ts.on hb, a.root, a.kvs, a.own, a.deg⟩
theorem TreeAt.srt {w : World} {T s : Nat} {l : List KV} {F : Nat → Prop} (a : TreeAt w T s l F) : Srt l := by
  obtain ⟨h, d, a⟩ := a
  rw [← a.kvs]
  exact a.ts.srt
theorem TreeAt.lt {w : World} {T s : Nat} {l : List KV} {F : Nat → Prop} (a : TreeAt w T s l F) {k : Nat} (hk : F k) : k < w.heap.size ∧ ∀ cs, ¬ Blk w k 5 cs := by
  obtain ⟨h, d, a⟩ := a
  rcases (a.own k).1 hk with rfl | h1
  · exact ⟨a.blk.lt, fun cs q => absurd (blk_ty a.blk q) (by decide)⟩
  · obtain ⟨t, cs, q, h3⟩ := a.ts.at'.typed h1
    exact ⟨q.lt, fun cs' q' => h3 (blk_ty q q')⟩
/-- What a change of a tree keeps. -/
structure TChg (w : World) (T s : Nat) (F : Nat → Prop) (l' : List KV) (w' : World) (F' : Nat → Prop) : Prop where
  tree : TreeAt w' T s l' F'
  fr : Fr F w w'
  old : ∀ k, k < w.heap.size → F' k → F k
def NewOut (n : Int) (w : World) (e : Ending) (w' : World) : Prop :=
  ((n < 2 ∨ 64 < n) ∧ e = .returned (.tuple #[.pointer none, .int .i64 2]) ∧ w = w') ∨
  ∃ (s T : Nat) (F : Nat → Prop), n = ((s + 1 : Nat) : Int) ∧ e = .returned (.tuple #[.pointer (some ⟨T, 0, none⟩), .int .i64 0]) ∧ TreeAt w' T s [] F ∧ Below w.heap.size w w' ∧ ∀ k, F k → w.heap.size ≤ k
theorem new_any (n : Int) (w : World) : Calls Try.prog 9 #[.int .i64 n] w (NewOut n w) := by
  by_cases h1 : n < 2
  · go_enter Try.func9, Try.ntmps9
    go_wp2
    go_ret2
    exact .inl ⟨.inl h1, rfl, rfl⟩
  · by_cases h2 : 64 < n
    · go_enter Try.func9, Try.ntmps9
      go_wp2
      go_ret2
      exact .inl ⟨.inr h2, rfl, rfl⟩
    · obtain ⟨s, rfl⟩ : ∃ s : Nat, n = (s : Int) + 1 := ⟨n.toNat - 1, by omega⟩
      go_enter Try.func9, Try.ntmps9
      go_wp2
      go_ret2
      have hb1 : Below w.heap.size w (w.alloc (.cells #[.slice none 0 0, .slice none 0 0] 59)) := (Below.refl _ _).alloc (Nat.le_refl _) _
      have hb2 := hb1.alloc hb1.size (.cells #[.int .i64 ((s : Int) + 1), .int .i64 0, .pointer (some ⟨w.heap.size, 0, none⟩)] 61)
      refine .inr ⟨s, w.heap.size + 1, fun k => k = w.heap.size + 1 ∨ k = w.heap.size, rfl, by simp, ⟨0, .mk w.heap.size (.slice none 0 0) (.slice none 0 0) [] [], ?_, ⟨⟨?_, nil_row _ _ _, nil_row _ _ _⟩, ?_, ⟨rfl, by simp [Nd.its]⟩, ?_, ?_⟩, fun h => absurd h (by simp), rfl, ?_, ?_⟩, hb2, ?_⟩
      · have := Blk.new (w.alloc (.cells #[.slice none 0 0, .slice none 0 0] 59)) 61 #[.int .i64 ((s : Int) + 1), .int .i64 0, .pointer (some ⟨w.heap.size, 0, none⟩)]
        simpa [Nd.n] using this
      · exact (Blk.new w 59 #[.slice none 0 0, .slice none 0 0]).alloc _
      · intro k
        show own _ _ _ k ≤ 1
        by_cases h : w.heap.size = k <;> simp [own, Nd.n, Nd.vi, Nd.vk, Value.ownBlock, h]
      · intro x hx; simp [flat, Nd.its] at hx
      · simp [flat, Nd.its, Srt, kvs]
      · intro k
        show _ ↔ _ ∨ 0 < own _ _ _ k
        rw [own_pos]
        simp only [Nd.n, Nd.vi, Nd.vk, Value.ownBlock]
        constructor
        · rintro (h | h)
          · exact .inl h
          · exact .inr (.inl h.symm)
        · rintro (h | h | h | h)
          · exact .inl h
          · exact .inr h.symm
          · simp at h
          · simp at h
      · omega
      · intro k hk
        omega
theorem len_any (T s : Nat) (l : List KV) (F : Nat → Prop) (w : World) (a : TreeAt w T s l F) : Calls Try.prog 16 #[.pointer (some ⟨T, 0, none⟩)] w fun e w' => e = .returned (.int .i64 l.length) ∧ w = w' := by
  obtain ⟨h, d, a⟩ := a
  have c1 := a.blk.cell 1
  have HN := Lib.hid (none_tree T d.n _ _ w a.blk)
  simp only [List.getElem?_toArray, List.getElem?_cons_zero, List.getElem?_cons_succ] at c1
  clear a
  go_enter Try.func16, Try.ntmps16
  go_wp2_with (go_at_call 25; (with_reducible refine HN.out.mono ?_); rintro e w1 ⟨rfl, rfl⟩; dsimp only)
  go_ret
  exact ⟨rfl, rfl⟩
/-- A root that is full gets a root above it. -/
theorem raise_chg {t h : Nat} {w w' : World} {d : Nd} {N g c : Nat} (a : TS t h w d) (hf : d.its.length = 2 * t - 1) (ht : 2 ≤ t) (hb : Below w.heap.size w w') (hN : Blk w' N 59 #[.slice none 0 0, .slice (some ⟨g, 0, none⟩) 1 c])
    (hr : RowK kP w' w.heap.size (.slice (some ⟨g, 0, none⟩) 1 c) [d.n]) (hn : w.heap.size ≤ N) :
    TS t (h + 1) w' (.mk N (.slice none 0 0) (.slice (some ⟨g, 0, none⟩) 1 c) [] [d]) ∧ flat (h + 1) (.mk N (.slice none 0 0) (.slice (some ⟨g, 0, none⟩) 1 c) [] [d]) = flat h d ∧ ∀ k, occ (h + 1) (.mk N (.slice none 0 0) (.slice (some ⟨g, 0, none⟩) 1 c) [] [d]) k ≤ (if N = k then 1 else 0) + (if g = k then 1 else 0) + occ h d k := by
  have hfl : flat (h + 1) (.mk N (.slice none 0 0) (.slice (some ⟨g, 0, none⟩) 1 c) [] [d]) = flat h d := by
    show inter [] [flat h d] = _
    simp [inter, sufL]
  have hocc : ∀ k, occ (h + 1) (.mk N (.slice none 0 0) (.slice (some ⟨g, 0, none⟩) 1 c) [] [d]) k = (if N = k then 1 else 0) + (if g = k then 1 else 0) + occ h d k := fun k => by
    rw [occ_succ]
    show own N (.slice none 0 0) (.slice (some ⟨g, 0, none⟩) 1 c) k + occs h [d] k = _
    simp [own, Value.ownBlock]
  have hg : w.heap.size ≤ g := (World.ownsRow.lt hr g rfl).1
  have hNg : N ≠ g := fun e => by
    obtain ⟨cs, q⟩ := hr.own_blk (k := g) rfl
    rw [← e] at q
    exact absurd (blk_ty hN q) (by decide)
  refine ⟨⟨⟨⟨hN, nil_row _ _ _, hr.low (Nat.zero_le _)⟩, fun x hx => ?_⟩, fun k => ?_, ⟨rfl, by simp [Nd.its], fun x hx => ?_⟩, ?_, ?_⟩, hfl, fun k => Nat.le_of_eq (hocc k)⟩
  · have : x = d := by simpa [Nd.kids] using hx
    subst this
    exact a.at'.on hb
  · rw [hocc]
    have h1 := a.sep k
    by_cases hk : k < w.heap.size
    · rw [if_neg (by omega), if_neg (by omega)]; omega
    · rw [own_zero_of a.at' hk]
      by_cases h2 : N = k
      · rw [if_pos h2, if_neg (fun h3 => hNg (h2.trans h3.symm))]; omega
      · rw [if_neg h2]; split <;> omega
  · have : x = d := by simpa [Nd.kids] using hx
    subst this
    exact ⟨a.bal, by omega⟩
  · rw [hfl]; exact a.keys.on hb
  · rw [hfl]; exact a.srt
end Go.Proofs.Ytgjcomnljonffaa.Tlv
