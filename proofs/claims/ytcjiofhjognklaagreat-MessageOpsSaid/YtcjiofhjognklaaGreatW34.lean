/- A number that is at most so great. -/
import Derived.Test.YtcjiofhjognklaaGreatW33

namespace Go.Proofs.YtcjiofhjognklaaGreat.Tlv
open Go.RowKit
set_option maxRecDepth 100000
set_option linter.unusedVariables false
set_option linter.unusedSimpArgs false

theorem numberV (D g : Nat) (f : Bool) (r : List Int) (tag : Int) (w : World) (hs : RS w D g f r) :
    Calls Tryz.prog 101 #[.pointer (some ⟨g, 0, none⟩), .int .u8 tag] w fun e w' => e = .returned (.int .u64 (numV (tk f r tag)).1) ∧ RS w' D g (numV (tk f r tag)).2.1 (numV (tk f r tag)).2.2 ∧ w.grownBy w' (some g) :=
  (number_r D g f r tag w hs).mono fun e w' ⟨n, f', r', e1, h1, h2, h3⟩ => by
    obtain ⟨rfl, rfl, rfl⟩ := NumOut.is h3
    exact ⟨e1, h1, h2⟩
set_option maxHeartbeats 4000000 in
theorem smallN (D g : Nat) (f : Bool) (r : List Int) (tag m : Int) (w : World) (hs : RS w D g f r) (hm : 0 ≤ m) (hm2 : m ≤ 1000000) :
    Calls Tryz.prog 53 #[.pointer (some ⟨g, 0, none⟩), .int .u8 tag, .int .u64 m] w fun e w' => e = .returned (.int .i64 (smallV m (tk f r tag)).1) ∧ RS w' D g (smallV m (tk f r tag)).2.1 (smallV m (tk f r tag)).2.2 ∧ w.grownBy w' (some g) := by
  have HN := Lib.hid (numberV D g f r tag w hs)
  obtain ⟨h0, h1⟩ := numV_range (f := f) (tag := tag) hs.byt
  have hsv : smallV m (tk f r tag) = if m < (numV (tk f r tag)).1 then (0, true, (numV (tk f r tag)).2.2) else numV (tk f r tag) := rfl
  generalize smallV m (tk f r tag) = S at hsv ⊢
  generalize numV (tk f r tag) = x at HN h0 h1 hsv
  obtain ⟨n, f1, r1⟩ := x
  dsimp only at HN h0 h1 hsv
  clear hs
  by_cases hlt : m < n
  · rw [if_pos hlt] at hsv
    subst hsv
    dsimp only
    go_enter Tryz.func53, Tryz.ntmps53
    go_wp2_with (go_at_call 101; (with_reducible refine HN.out.mono ?_); clear HN; rintro e w1 ⟨rfl, hrs, hg⟩; have HF := Lib.hid (fail_any D g f1 r1 w1 hrs); have HG := Lib.hid hg; clear hrs hg)
    refine HF.out.mono ?_
    rintro e w2 ⟨⟨vv, rfl⟩, h4, h5⟩
    have HE := Lib.hid (And.intro h4 (grownBy_trans HG.out h5))
    clear h4 h5
    go_wp2_with fail
    go_ret
    exact ⟨rfl, HE.out.1, HE.out.2⟩
  · rw [if_neg hlt] at hsv
    subst hsv
    dsimp only
    have hcv : ∀ W, (convert 55 3 (.int .u64 n)).run Tryz.prog W = .ok (.int .i64 n) W := fun W => by
      have h : IntKind.i64.wrap n = n := IntWalk.i64_in _ (by omega)
      show Result.ok (Value.int .i64 (IntKind.i64.wrap n)) W = _
      rw [h]
    go_enter Tryz.func53, Tryz.ntmps53
    go_wp2_with (go_at_call 101; (with_reducible refine HN.out.mono ?_); clear HN; rintro e w1 ⟨rfl, hrs, hg⟩; have HE := Lib.hid (And.intro hrs hg); clear hrs hg)
    go_ret
    exact ⟨rfl, HE.out.1, HE.out.2⟩
end Go.Proofs.YtcjiofhjognklaaGreat.Tlv

namespace Go.Proofs.YtcjiofhjognklaaGreat.Tlv
open Go.RowKit
set_option maxRecDepth 100000
set_option linter.unusedVariables false
set_option linter.unusedSimpArgs false

abbrev o0 (k : Int) : Opn := ⟨k, [], [], [], [], [], 0⟩
abbrev zCs : Array Value := #[.int .i64 0, .string ⟨#[]⟩, .string ⟨#[]⟩, .slice none 0 0, .slice none 0 0, .slice none 0 0, .int .i64 0]
theorem RowK.rdp {w : World} {base : Nat} {v : Value} {l : List (List UInt8)} (h : RowK kStr w base v l) : RdP w v l := by
  obtain ⟨A, c, e, h0, h1⟩ := h.rd0
  refine ⟨A, c, e, ⟨h0, ?_⟩, h1⟩
  rcases h.2 with ⟨e2, hn⟩ | ⟨g, cap, cur, e2, _, _, h5, h6, _⟩
  · rw [e] at e2
    injection e2 with e3 e4 e5
    unfold maxLen
    omega
  · rw [e] at e2
    injection e2 with e3 e4 e5
    subst e5
    exact ⟨h5, h6⟩
theorem RowK.rdc2 {w : World} {base : Nat} {v : Value} {l : List Int} (h : RowK kB w base v l) : RdC w v l := by
  obtain ⟨A, c, e, h0, h1⟩ := h.rd0
  refine ⟨A, c, e, ⟨h0, ?_⟩, k_rd h1⟩
  rcases h.2 with ⟨e2, hn⟩ | ⟨g, cap, cur, e2, _, _, h5, h6, _⟩
  · rw [e] at e2
    injection e2 with e3 e4 e5
    unfold maxLen
    omega
  · rw [e] at e2
    injection e2 with e3 e4 e5
    subst e5
    exact ⟨h5, h6⟩
/-- A row of attributes stays where another block is written. -/
theorem rowA_by {w w' : World} {base g : Nat} {v : Value} {l : List At} {t : TypeId} {cs : Array Value} (h : YtcjiofhjognklaaGreat.RowK kA w base v l) (hg : w.grownBy w' (some g)) (hb : Blk w g t cs) (ht : 67 ≠ t) : YtcjiofhjognklaaGreat.RowK kA w' base v l :=
  RowK.fit h fun k e => hg.block k (own_at h e).2.1 (fun e2 => by
    injection e2 with e2
    subst e2
    obtain ⟨_, _, cs', hc⟩ := own_at h e
    exact blk_ne hc hb ht rfl)
theorem rowA_set {w : World} {base g i : Nat} {v u : Value} {l : List At} {t : TypeId} {cs : Array Value} (h : YtcjiofhjognklaaGreat.RowK kA w base v l) (hb : Blk w g t cs) (ht : 67 ≠ t) : YtcjiofhjognklaaGreat.RowK kA (w.setCell ⟨g, i, none⟩ u) base v l :=
  RowK.fit h fun k e => Below.heap_setCell w ⟨g, i, none⟩ _ k (fun e2 => by
    obtain ⟨_, _, cs', hc⟩ := own_at h e
    exact blk_ne hc hb ht e2)
/-- Where OpOf stands: the result's block, the reader's, the operation's, the fields'. -/
structure OS (w : World) (g Bo bF : Nat) (fd : Array Value) (o : Opn) (va vp vc : Value) (f : Bool) (r : List Int) (W : World) : Prop where
  bel : Below w.heap.size w W
  rr : Blk W w.heap.size 27 zCs
  oo : Blk W Bo 27 (opCs o va vp vc)
  ff : Blk W bF 83 fd
  rs : RS W g g f r
  n1 : w.heap.size < g
  n2 : g < Bo
  n3 : Bo < bF
  ra : YtcjiofhjognklaaGreat.RowK kA W w.heap.size va o.attrs
  rp : RowK kStr W w.heap.size vp o.parts
  rc : RowK kB W w.heap.size vc o.cur
section
variable {w W W' : World} {g Bo bF : Nat} {fd : Array Value} {o : Opn} {va vp vc : Value} {f f' : Bool} {r r' : List Int}
theorem OS.gr (h : OS w g Bo bF fd o va vp vc f r W) (hg : W.grownBy W' (some g)) (hs : RS W' g g f' r') : OS w g Bo bF fd o va vp vc f' r' W' := by
  obtain ⟨cs, hk⟩ := h.rs.blk
  have h1 := h.n1
  have h2 := h.n2
  have h3 := h.n3
  exact ⟨h.bel.trans (below_grown hg (by omega) (by have := h.bel.size; omega)), h.rr.grown hg (fun e => by injection e with e; omega), h.oo.grown hg (fun e => by injection e with e; omega), h.ff.grown hg (fun e => by injection e with e; omega), hs, h1, h2, h3,
    rowA_by h.ra hg hk (by decide), RowK.byT h.rp hg hk (by decide), RowK.byT h.rc hg hk (by decide)⟩
theorem OS.st (h : OS w g Bo bF fd o va vp vc f r W) {o' : Opn} {va' vp' vc' : Value} (i : Nat) (u : Value) (he : (opCs o va vp vc).setIfInBounds i u = opCs o' va' vp' vc')
    (hra : YtcjiofhjognklaaGreat.RowK kA W w.heap.size va' o'.attrs) (hrp : RowK kStr W w.heap.size vp' o'.parts) (hrc : RowK kB W w.heap.size vc' o'.cur) : OS w g Bo bF fd o' va' vp' vc' f r (W.setCell ⟨Bo, i, none⟩ u) := by
  have h1 := h.n1
  have h2 := h.n2
  have h3 := h.n3
  exact ⟨h.bel.setCell (p := ⟨Bo, i, none⟩) (show w.heap.size ≤ Bo by omega) u, h.rr.far (p := ⟨Bo, i, none⟩) (show w.heap.size ≠ Bo by omega) u, by rw [← he]; exact h.oo.set_ i u, h.ff.far (p := ⟨Bo, i, none⟩) (show bF ≠ Bo by omega) u, h.rs.setT (by omega) (by omega), h1, h2, h3,
    rowA_set hra h.oo (by decide), RowK.setT hrp h.oo (by decide), RowK.setT hrc h.oo (by decide)⟩
theorem OS.name (h : OS w g Bo bF fd o va vp vc f r W) (s : List UInt8) : OS w g Bo bF fd { o with name := s } va vp vc f r (W.setCell ⟨Bo, 1, none⟩ (.string (sx s))) := h.st 1 _ rfl h.ra h.rp h.rc
theorem OS.dst (h : OS w g Bo bF fd o va vp vc f r W) (s : List UInt8) : OS w g Bo bF fd { o with dst := s } va vp vc f r (W.setCell ⟨Bo, 2, none⟩ (.string (sx s))) := h.st 2 _ rfl h.ra h.rp h.rc
theorem OS.attrs (h : OS w g Bo bF fd o va vp vc f r W) (v : Value) (l : List At) (hr : YtcjiofhjognklaaGreat.RowK kA W w.heap.size v l) : OS w g Bo bF fd { o with attrs := l } v vp vc f r (W.setCell ⟨Bo, 3, none⟩ v) := h.st 3 _ rfl hr h.rp h.rc
theorem OS.cur (h : OS w g Bo bF fd o va vp vc f r W) (v : Value) (l : List Int) (hr : RowK kB W w.heap.size v l) : OS w g Bo bF fd { o with cur := l } va vp v f r (W.setCell ⟨Bo, 5, none⟩ v) := h.st 5 _ rfl h.ra h.rp hr
theorem OS.num (h : OS w g Bo bF fd o va vp vc f r W) (n : Int) : OS w g Bo bF fd { o with n := n } va vp vc f r (W.setCell ⟨Bo, 6, none⟩ (.int .i64 n)) := h.st 6 _ rfl h.ra h.rp h.rc
theorem OS.at_ (h : OS w g Bo bF fd o va vp vc f r W) : OpAt W o va vp vc := ⟨YtcjiofhjognklaaGreat.RowK.rdv h.ra, h.rp.rdp, h.rc.rdc2⟩
theorem OS.on (h : OS w g Bo bF fd o va vp vc f r W) (hb : Below W.heap.size W W') : OS w g Bo bF fd o va vp vc f r W' := by
  obtain ⟨cs, hk⟩ := h.rs.blk
  exact ⟨h.bel.trans (hb.mono h.bel.size), h.rr.on hb, h.oo.on hb, h.ff.on hb, h.rs.on hb, h.n1, h.n2, h.n3, rowA_by h.ra (grownBy_of (row := some g) hb) hk (by decide), RowK.onT h.rp hb, RowK.onT h.rc hb⟩
/-- The result was written. -/
theorem OS.out (h : OS w g Bo bF fd o va vp vc f r W) (cs : Array Value) : OpAt (W.setRow w.heap.size cs) o va vp vc ∧ Below w.heap.size w (W.setRow w.heap.size cs) ∧ Blk (W.setRow w.heap.size cs) w.heap.size 27 cs := by
  have hne : ∀ k, k ≠ w.heap.size → (W.setRow w.heap.size cs).heap[k]? = W.heap[k]? := fun k hk => setRow_other W w.heap.size k cs hk
  refine ⟨⟨?_, ?_, ?_⟩, below_setRow h.bel (Nat.le_refl _) cs, h.rr.row cs⟩
  · exact YtcjiofhjognklaaGreat.RowK.rdv (RowK.fit h.ra fun k e => hne k (fun e2 => by
      obtain ⟨_, _, cs', hc⟩ := own_at h.ra e
      exact blk_ne hc h.rr (by decide) e2))
  · exact RowK.rdp (RowK.fitT h.rp fun k e => hne k (fun e2 => by
      obtain ⟨_, _, cs', hc⟩ := own_atT h.rp e
      exact blk_ne hc h.rr (by decide) e2))
  · exact RowK.rdc2 (RowK.fitT h.rc fun k e => hne k (fun e2 => by
      obtain ⟨_, _, cs', hc⟩ := own_atT h.rc e
      exact blk_ne hc h.rr (by decide) e2))
theorem OS.new (h1 : Below w.heap.size w W) (h2 : Blk W w.heap.size 27 zCs) {k : Int} (h3 : Blk W Bo 27 (opCs (o0 k) (.slice none 0 0) (.slice none 0 0) (.slice none 0 0))) (h4 : Blk W bF 83 fd) (h5 : RS W g g f r) (n1 : w.heap.size < g) (n2 : g < Bo) (n3 : Bo < bF) :
    OS w g Bo bF fd (o0 k) (.slice none 0 0) (.slice none 0 0) (.slice none 0 0) f r W := ⟨h1, h2, h3, h4, h5, n1, n2, n3, YtcjiofhjognklaaGreat.nil_row kA _ _, nil_row kStr _ _, nil_row kB _ _⟩
/-- Behind the list of parts. -/
theorem OS.parts {k : Int} (h : OS w g Bo bF fd (o0 k) (.slice none 0 0) (.slice none 0 0) (.slice none 0 0) f r W) {p : List (List UInt8)} (hc : CQ 9 W.heap.size g Bo W W') (hs : RS W' g g f' r')
    (hp : IP W.heap.size Bo (.int .i64 k) (.string (sx [])) (.string (sx [])) (.slice none 0 0) (.slice none 0 0) (.int .i64 0) W' p) : ∃ vp, OS w g Bo bF fd { o0 k with parts := p } (.slice none 0 0) vp (.slice none 0 0) f' r' W' := by
  have h1 := h.n1
  have h2 := h.n2
  have h3 := h.n3
  have hz := h.bel.size
  obtain ⟨v, hb, hr⟩ := hp
  refine ⟨v, ⟨h.bel.trans ⟨hc.os, hc.tape, hc.output, hc.size, fun i hi => hc.low i (by omega) (by omega) (by omega)⟩, hc.kp _ _ _ (by decide) (by omega) (by omega) h.rr, hb, hc.kp _ _ _ (by decide) (by omega) (by omega) h.ff, hs, h1, h2, h3, YtcjiofhjognklaaGreat.nil_row kA _ _, RowK.lowR hr hz, nil_row kB _ _⟩⟩
end
def OpOfOut (w : World) (l : List Int) (e : Ending) (w' : World) : Prop :=
  (∃ (o : Opn) (va vp vc : Value), mayO o = true ∧ l = opB o ∧ e = .returned (.tuple #[opVal o va vp vc, .int .i64 0]) ∧ OpAt w' o va vp vc ∧ Lim o ∧ Below w.heap.size w w') ∨
  ((∀ o, mayO o = true → l ≠ opB o) ∧ e = .returned (.tuple #[.agg zCs, .int .i64 4]) ∧ Below w.heap.size w w')
theorem end_nz {n : Int} {f : Bool} {r : List Int} (h : n = 0 ↔ (f = false ∧ r = [])) (hg : ¬ (f = false ∧ r = [])) : (n == 0) = false ∧ (n != 0) = true := by
  have : n ≠ 0 := fun e => hg (h.1 e)
  exact ⟨by simpa using this, by simpa using this⟩
theorem opCs_one {w W : World} {g Bo bF : Nat} {fd : Array Value} {o : Opn} {va vp vc : Value} {f : Bool} {r : List Int} (h : OS w g Bo bF fd o va vp vc f r W) : (opCs o va vp vc).all (·.oneCell') = true := by
  obtain ⟨A1, c1, e1, _⟩ := YtcjiofhjognklaaGreat.RowK.rdv h.ra
  obtain ⟨A2, c2, e2, _⟩ := h.rp.rdp
  obtain ⟨A3, c3, e3, _⟩ := h.rc.rdc2
  subst e1 e2 e3
  kernel_rfl
end Go.Proofs.YtcjiofhjognklaaGreat.Tlv
