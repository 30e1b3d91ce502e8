/- TlvMeans: what the range over values keeps. -/
import Derived.Test.YtiakfdfpikheaaaLow
namespace Go.Proofs.Ytiakfdfpikheaaa
open Go.RowKit Go.Shelf
set_option linter.unusedVariables false
set_option linter.unusedSimpArgs false

def encI (l : List (Int × List Int)) : List Int := l.flatMap fun y => valB y.1 y.2
def encH (hs : List Hand) : List Int := encI (hs.map Hand.it)
theorem encH_snoc (pre : List Hand) (x : Hand) : encH (pre ++ [x]) = encH pre ++ valB x.t x.bs := by simp [encH, encI, Hand.it]
theorem enc_items : ∀ (n : Nat) (l : List Int), l.length ≤ n → Byt l → ∃ r, l = encI (items l) ++ r := by
  intro n
  induction n with
  | zero => intro l hl _; exact ⟨l, by rw [items_no (by simp [stands]; omega)]; simp [encI]⟩
  | succ n ih =>
    intro l hl hb
    cases hs : stands l with
    | false => exact ⟨l, by rw [items_no hs]; simp [encI]⟩
    | true =>
      obtain ⟨r, hr⟩ := ih (l.drop (5 + nv l)) (by rw [List.length_drop]; omega) (hb.drop _)
      obtain ⟨h1, _, _⟩ := stands_inv hb hs
      refine ⟨r, ?_⟩
      have e : encI (items l) = valB (l.getD 0 0) ((l.drop 5).take (nv l)) ++ encI (items (l.drop (5 + nv l))) := by rw [items_yes hs]; rfl
      rw [e, List.append_assoc, ← hr]
      exact h1
theorem items_mem : ∀ (n : Nat) (l : List Int), l.length ≤ n → Byt l → ∀ y ∈ items l, y.1 ≠ 0 ∧ 0 ≤ y.1 ∧ y.1 ≤ 255 ∧ y.2.length ≤ 4194304 := by
  intro n
  induction n with
  | zero => intro l hl _ y hy; rw [items_no (by simp [stands]; omega)] at hy; simp at hy
  | succ n ih =>
    intro l hl hb y hy
    cases hs : stands l with
    | false => rw [items_no hs] at hy; simp at hy
    | true =>
      obtain ⟨p1, p2, p3, p4⟩ := stands_parts hs
      rw [items_yes hs] at hy
      rcases List.mem_cons.1 hy with rfl | hy
      · have := hb.at 0
        exact ⟨p2, this.1, this.2, by rw [List.length_take]; omega⟩
      · exact ih (l.drop (5 + nv l)) (by rw [List.length_drop]; omega) (hb.drop _) y hy
theorem encI_app (a b : List (Int × List Int)) : encI (a ++ b) = encI a ++ encI b := by simp [encI]
/-- What is known of what has been handed. -/
theorem handed {z : List Int} (hb : Byt z) {pre : List Hand} {rest : List (Int × List Int)} (h : items z = pre.map Hand.it ++ rest) : (encH pre).length ≤ z.length := by
  obtain ⟨r, hr⟩ := enc_items _ z (Nat.le_refl _) hb
  have := congrArg List.length hr
  rw [h, encI_app, List.length_append, List.length_append] at this
  unfold encH
  omega
theorem handed_x {z : List Int} (hb : Byt z) {pre : List Hand} {x : Hand} {rest : List (Int × List Int)} (h : items z = (pre ++ [x]).map Hand.it ++ rest) : x.t ≠ 0 ∧ 0 ≤ x.t ∧ x.t ≤ 255 ∧ x.bs.length ≤ 4194304 :=
  items_mem _ z (Nat.le_refl _) hb x.it (by rw [h]; simp)

theorem rd_box {W : World} {b9 n : Nat} {ad : Option Addr} {r : List Int} {A : Option Addr} (hb : Blk W b9 32 #[.pointer ad]) (h : Rd W n A r) : 0 < r.length → ∀ off, A ≠ some ⟨b9, off, none⟩ := fun hp off e => by
  obtain ⟨b, off', e', hlt, hc⟩ := h hp
  rw [e] at e'
  injection e' with e'
  injection e' with e1 e2
  subst e1 e2
  have h0 := hc 0 hp
  rw [Nat.add_zero] at h0
  match off, h0 with
  | 0, h0 => rw [hb.cell 0] at h0; injection h0 with h0; cases h0
  | k + 1, h0 => rw [hb.cell (k + 1)] at h0; simp at h0
theorem rd_set {W : World} {b9 n : Nat} {ad : Option Addr} {r : List Int} {A : Option Addr} (hb : Blk W b9 32 #[.pointer ad]) (u : Value) (h : Rd W n A r) : Rd (W.setCell ⟨b9, 0, none⟩ u) n A r := fun hp => by
  have hne := rd_box hb h hp
  obtain ⟨b, off, e, hlt, hc⟩ := h hp
  exact ⟨b, off, e, hlt, fun j hj => (World.cell?_of_block (w := W) (a := ⟨b, off + j, none⟩) (Below.heap_setCell W ⟨b9, 0, none⟩ u b (fun e2 => hne off (by rw [e, e2])))).trans (hc j hj)⟩

/-- What the range's own variables hold. -/
structure MI (N b9 g base : Nat) (w : World) (pre : List Hand) (W : World) : Prop where
  box : Blk W b9 32 #[.pointer (some ⟨g, 0, none⟩)]
  ws : ∃ m, m ≤ pre.length ∧ WS W base g (some (encH pre)) m
  bel : Below N w W
  le : base ≤ W.heap.size
theorem ws_stays {W W' : World} {base g m B0 : Nat} {l : List Int} {row : Option Nat} (h : WS W base g (some l) m) (hg : W.grownBy W' row) (hr : ∀ r, row = some r → B0 ≤ r ∧ ∃ o : Obj, W.heap[r]? = some o ∧ privO noT o = true) : WS W' base g (some l) m := by
  obtain ⟨v, h1, h2⟩ := h
  refine ⟨v, blk_stays (pv := noT) rfl h1 hg hr, row_k.1 (row_kept (row_k.2 h2) hg (fun r e => ?_))⟩
  obtain ⟨_, o, ho, hp⟩ := hr r e
  refine ⟨o, ho, ?_⟩
  cases o <;> simp_all [privO, noT, Obj.isCells]
theorem MI.stays {N b9 g base B0 : Nat} {w W W' : World} {pre : List Hand} {row : Option Nat} (h : MI N b9 g base w pre W) (hN : N ≤ base) (hB : base ≤ B0) (hg : W.grownBy W' row) (hr : ∀ r, row = some r → B0 ≤ r ∧ ∃ o : Obj, W.heap[r]? = some o ∧ privO noT o = true) : MI N b9 g base w pre W' := by
  obtain ⟨m, hm, hw⟩ := h.ws
  exact ⟨blk_stays (pv := noT) rfl h.box hg hr, ⟨m, hm, ws_stays hw hg hr⟩, h.bel.grown hg (by have := h.le; omega) (fun k e => by have := (hr k e).1; omega), Nat.le_trans h.le hg.size⟩
/-- What is told of what is handed. -/
structure MX (g : Nat) (x : Hand) (W : World) : Prop where
  blk : ∃ (v : Value) (m : Nat), Blk W g 48 #[v, .int .i64 m, .int .i64 0] ∧ ∀ ad, x.A = some ad → ad.block ≠ g ∧ v.ownBlock ≠ some ad.block
  rd : Rd W W.heap.size x.A x.bs
  cap : x.A = none → x.c = 0
theorem MX.stays {g B0 : Nat} {x : Hand} {W W' : World} {row : Option Nat} (h : MX g x W) (hg : W.grownBy W' row) (hr : ∀ r, row = some r → B0 ≤ r ∧ ∃ o : Obj, W.heap[r]? = some o ∧ privO noT o = true) : MX g x W' := by
  obtain ⟨v, m, h1, h2⟩ := h.blk
  exact ⟨⟨v, m, blk_stays (pv := noT) rfl h1 hg hr, h2⟩, rd_stays h.rd hg hr, h.cap⟩
theorem MX.of {N b9 g base : Nat} {w W W0 : World} {pre : List Hand} {x : Hand} (h : MI N b9 g base w pre W0) (hf : FreshH x W0) (hb : Below W0.heap.size W0 W) (hr : Reads x W) : MX g x W := by
  obtain ⟨m, hm, v, h1, h2⟩ := h.ws
  refine ⟨⟨v, m, h1.on hb, fun ad e => ?_⟩, hr, hf.2⟩
  have h3 := hf.1 ad e
  have h4 := h1.lt
  exact ⟨fun e2 => by omega, fun e2 => by have := (World.ownsRow.lt h2 _ e2).2; omega⟩
theorem MX.src {g : Nat} {x : Hand} {W : World} (h : MX g x W) : Src W g x.A x.bs := ⟨h.rd, fun hp ad v e hc => by
  obtain ⟨v', m, h1, h2⟩ := h.blk
  have := (h1.cell 0).symm.trans hc
  injection this with this
  subst this
  exact h2 ad e⟩
theorem MI.step {N b9 g base : Nat} {w W W' : World} {pre : List Hand} {x : Hand} {m : Nat} (h : MI N b9 g base w pre W) (hN : N ≤ base) (h9 : b9 < base) (h9g : b9 ≠ g) (hNg : N ≤ g) (hN9 : N ≤ b9) (hm : m ≤ pre.length) (hw : WS W' base g (some (encH pre ++ valB x.t x.bs)) (m + 1)) (hws : WS W base g (some (encH pre)) m) (hk : GK base g W W') :
    Blk W' b9 32 #[.pointer (some ⟨g, 0, none⟩)] ∧ KRb base W (W'.setCell ⟨b9, 0, none⟩ (.pointer (some ⟨g, 0, none⟩))) ∧ KeepsOthers W (W'.setCell ⟨b9, 0, none⟩ (.pointer (some ⟨g, 0, none⟩))) ∧ MI N b9 g base w (pre ++ [x]) (W'.setCell ⟨b9, 0, none⟩ (.pointer (some ⟨g, 0, none⟩))) := by
  have hb : Blk W' b9 32 #[.pointer (some ⟨g, 0, none⟩)] := (hk.same b9 h9 h9g).trans h.box
  refine ⟨hb, fun A r hr => rd_set hb _ (hk.rd hws (Nat.le_refl _) hr), hk.oth.trans (KeepsOthers.setCell _ _ _), ⟨by simpa using hb.set_ 0 (.pointer (some ⟨g, 0, none⟩)), ⟨m + 1, by simp; omega, ?_⟩, ?_, by simpa using hk.le⟩⟩
  · obtain ⟨v, h1, h2⟩ := hw
    rw [encH_snoc]
    exact ⟨v, h1.far (p := ⟨b9, 0, none⟩) (fun e => h9g e.symm) _, Row.set_ h2 (fun e => by have := (World.ownsRow.lt h2 _ e).1; omega) _⟩
  · have hle := h.le
    exact (h.bel.trans ⟨hk.os, hk.tape, hk.output, hk.oth.size, fun k hkk => hk.same k (by omega) (by omega)⟩).setCell (p := ⟨b9, 0, none⟩) hN9 _
end Go.Proofs.Ytiakfdfpikheaaa
