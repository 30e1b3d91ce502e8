/- TlvMeans: the range over values, that puts each: whatever the frame. -/
import Derived.Test.YtiakfdfpikheaaaMeansA
namespace Go.Proofs.Ytiakfdfpikheaaa
open Go.RowKit Go.Shelf
set_option linter.unusedVariables false
set_option linter.unusedSimpArgs false

theorem means_range {g0 : Operand} {ps : Array Tmp} {assign body : Code} {Q : Exit → Act → World → Prop} {a : Act} {w1 : World} (F : Hand → Act) (N b9 g B : Nat) (A' : Option Addr) (c' : Nat) (z : List Int) (w : World)
    (hg : a.eval g0 = .func (.func 38) #[] #[.pointer (some ⟨B, 0, none⟩)]) (hps : ps.size = 2) (hz : z.length ≤ 9000) (hc1 : z.length ≤ c') (hc2 : c' ≤ 9223372036854775807) (hby : Byt z)
    (hB : Blk w1 B 25 #[.slice A' z.length c']) (hr1 : Rd w1 w1.heap.size A' z) (h9 : Blk w1 b9 32 #[.pointer (some ⟨g, 0, none⟩)]) (hgb : Blk w1 g 48 #[.slice none 0 0, .int .i64 0, .int .i64 0]) (h9g : b9 ≠ g) (hNg : N ≤ g) (hN9 : N ≤ b9) (hbel : Below N w w1)
    (hassign : ∀ (l : Nat) (x : Hand) (W : World) (K : Act → World → Prop), K (F x) W → assign.wpIn (Fence.wide.inRound l) 1 Try.prog (Exit.then K (fun _ _ _ => False)) { tmps := (ps.zip x.enc).foldl (fun t (p, v) => t.setIfInBounds p v) a.tmps, defers := [] } W)
    (hbody : ∀ (l : Nat) (x : Hand) (W : World) (R : World → Prop), Blk W b9 32 #[.pointer (some ⟨g, 0, none⟩)] →
      Calls Try.prog 19 #[.pointer (some ⟨g, 0, none⟩), .int .u8 x.t, .slice x.A x.bs.length x.c] W (fun e w' => e = .returned (.pointer (some ⟨g, 0, none⟩)) ∧ Blk w' b9 32 #[.pointer (some ⟨g, 0, none⟩)] ∧ R (w'.setCell ⟨b9, 0, none⟩ (.pointer (some ⟨g, 0, none⟩)))) →
      body.wpIn (Fence.wide.inRound l) 1 Try.prog (fun e _ w' => e = .normal ∧ R w') (F x) W)
    (hdone : ∀ (D : Nat) (ys : List Hand) (W : World), w1.heap.size ≤ D → ys.map Hand.it = items z → MI N b9 g w1.heap.size w ys W → W.heap[D]? = some (.deferred (some [])) → Q .normal { a with defers := { target := .collected D, args := #[] } :: a.defers } W) :
    (Code.rangeFunc g0 ps assign body).wp Try.prog Q a w1 := by
  have h9l := h9.lt
  have hgl := hgb.lt
  have hN1 : N ≤ w1.heap.size := by omega
  refine (wpIn_wide (n := 3)).1 ?_
  refine range_F (keep_b w1.heap.size) (pv := noT) (by omega) (gf := 38) (lb := #[.pointer (some ⟨B, 0, none⟩)]) hg (enters_of Try.func38 (by kernel_rfl) rfl)
    (all_F noT w1.heap.size A' c' z (by omega) hc1 hc2 hby _ (by omega) B w1 hB hr1 (Nat.le_refl _)) (Below.refl _ _) (fun _ => by rw [hps]; rfl)
    (MI N b9 g w1.heap.size w) (fun _ _ _ => False)
    (fun pre X Y row hs hgr hr => hs.stays hN1 (Nat.le_refl _) hgr hr) (fun _ _ _ _ _ hs _ _ => hs)
    ⟨h9, ⟨0, Nat.le_refl _, _, hgb, World.ownsRow_nil _ _ _ _⟩, hbel, Nat.le_refl _⟩
    (fun x a' W => MX g x W ∧ a' = F x) (fun x a' _ X Y row hs hgr hr => ⟨hs.1.stays hgr hr, hs.2⟩)
    ?assign ?body ?done ?stop
  case assign =>
    rintro l pre x W K hI hG ⟨W0, hI0, hF, hb0⟩ hK
    exact hassign l x W K (hK _ _ (fun _ _ h => h) (KeepsOthers.refl _) hI ⟨MX.of hI0 hF hb0 hG, rfl⟩)
  case body =>
    rintro l pre x a' W hl hr hI ⟨hx, rfl⟩ ⟨rest, hrest⟩
    obtain ⟨p1, p2, p3, p4⟩ := handed_x hby hrest
    have hlen := handed hby (pre := pre) (rest := [x.it] ++ rest) (by rw [hrest]; simp)
    have hpl : pre.length ≤ z.length := by
      have h1 := congrArg List.length hrest
      have h2 := items_len _ z (Nat.le_refl _)
      simp at h1
      omega
    obtain ⟨m, hm, hws⟩ := hI.ws
    refine wpIn_mono (hbody l x W (fun W' => KRb w1.heap.size W W' ∧ KeepsOthers W W' ∧ MI N b9 g w1.heap.size w (pre ++ [x]) W') hI.box ?_) ?_
    · refine (bytes_low g m (encH pre) x.bs x.t x.A x.c w1.heap.size W hws hI.le hx.src hx.cap (by omega) p3 p4 (by omega) (by omega)).mono ?_
      rintro e w' ⟨rfl, h1, h2⟩
      obtain ⟨k1, k2⟩ := hI.step (x := x) hN1 h9l h9g hNg hN9 hm (by unfold valB; rw [← List.append_assoc]; exact h1) hws h2
      exact ⟨rfl, k1, k2⟩
    · rintro e a2 w2 ⟨rfl, h1, h2, h3⟩
      exact ⟨h1, h2, h3⟩
  case done =>
    rintro D ys W hD hys hI hK
    exact hdone D ys W hD hys hI hK
  case stop =>
    rintro D c pre W _ _ h _
    exact h.elim
end Go.Proofs.Ytiakfdfpikheaaa
