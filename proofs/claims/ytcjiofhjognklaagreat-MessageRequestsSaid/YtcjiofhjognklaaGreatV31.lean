/- A number that is at most so great. -/
import Derived.Test.YtcjiofhjognklaaGreatV30
import Derived.Test.YtcjiofhjognklaaGreatV28
import Derived.Test.YtcjiofhjognklaaGreatV16
import Derived.Test.YtcjiofhjognklaaGreatV03
namespace Go.Proofs.YtcjiofhjognklaaGreat.Tlv
open Go.RowKit
set_option maxRecDepth 100000
set_option linter.unusedVariables false
set_option linter.unusedSimpArgs false
theorem numberV (D g : Nat) (f : Bool) (r : List Int) (tag : Int) (w : World) (hs : RS w D g f r) :
   Calls Tryz.prog 101 #[.pointer (some ⟨g, 0, none⟩), .int .u8 tag] w fun e w' => e = .returned (.int .u64 (numV (tk f r tag)).1) ∧ RS w' D g (numV (tk f r tag)).2.1 (numV (tk f r tag)).2.2 ∧ w.grownBy w' (some g) :=
 (number_r D g f r tag w hs).mono fun e w' ⟨n, f', r', e1, h1, h2, h3⟩ => by
   obtain ⟨rfl, rfl, rfl⟩ := NumOut.is h3
   exact ⟨e1, h1, h2⟩
set_option maxHeartbeats 4000000 in
theorem smallN (D g : Nat) (f : Bool) (r : List Int) (tag m : Int) (w : World) (hs : RS w D g f r) (hm : 0 ≤ m) (hm2 : m ≤ 1000000) :
   Calls Tryz.prog 53 #[.pointer (some ⟨g, 0, none⟩), .int .u8 tag, .int .u64 m] w fun e w' => e = .returned (.int .i64 (smallV m (tk f r tag)).1) ∧ RS w' D g (smallV m (tk f r tag)).2.1 (smallV m (tk f r tag)).2.2 ∧ w.grownBy w' (some g) := by
 have HN := Lib.hid (numberV D g f r tag w hs)
 obtain ⟨h0, h1⟩ := numV_range (f := f) (tag := tag) hs.byt
 have hsv : smallV m (tk f r tag) = if m < (numV (tk f r tag)).1 then (0, true, (numV (tk f r tag)).2.2) else numV (tk f r tag) := rfl
 generalize smallV m (tk f r tag) = S at hsv ⊢
 generalize numV (tk f r tag) = x at HN h0 h1 hsv
 obtain ⟨n, f1, r1⟩ := x
 dsimp only at HN h0 h1 hsv
 clear hs
 by_cases hlt : m < n
 · rw [if_pos hlt] at hsv
   subst hsv
   dsimp only
   go_enter Tryz.func53, Tryz.ntmps53
   go_wp2_with (go_at_call 101; (with_reducible refine HN.out.mono ?_); clear HN; rintro e w1 ⟨rfl, hrs, hg⟩; have HF := Lib.hid (fail_any D g f1 r1 w1 hrs); have HG := Lib.hid hg; clear hrs hg)
   refine HF.out.mono ?_
   rintro e w2 ⟨⟨vv, rfl⟩, h4, h5⟩
   have HE := Lib.hid (And.intro h4 (grownBy_trans HG.out h5))
   clear h4 h5
   go_wp2_with fail
   go_ret
   exact ⟨rfl, HE.out.1, HE.out.2⟩
 · rw [if_neg hlt] at hsv
   subst hsv
   dsimp only
   have hcv : ∀ W, (convert 55 3 (.int .u64 n)).run Tryz.prog W = .ok (.int .i64 n) W := fun W => by
     have h : IntKind.i64.wrap n = n := IntWalk.i64_in _ (by omega)
     show Result.ok (Value.int .i64 (IntKind.i64.wrap n)) W = _
     rw [h]
   go_enter Tryz.func53, Tryz.ntmps53
   go_wp2_with (go_at_call 101; (with_reducible refine HN.out.mono ?_); clear HN; rintro e w1 ⟨rfl, hrs, hg⟩; have HE := Lib.hid (And.intro hrs hg); clear hrs hg)
   go_ret
   exact ⟨rfl, HE.out.1, HE.out.2⟩
end Go.Proofs.YtcjiofhjognklaaGreat.Tlv
namespace Go.Proofs.YtcjiofhjognklaaGreat.Tlv
open Go.RowKit
set_option maxRecDepth 100000
set_option linter.unusedVariables false
set_option linter.unusedSimpArgs false
abbrev o0 (k : Int) : Opn := ⟨k, [], [], [], [], [], 0⟩
abbrev zCs : Array Value := #[.int .i64 0, .string ⟨#[]⟩, .string ⟨#[]⟩, .slice none 0 0, .slice none 0 0, .slice none 0 0, .int .i64 0]
theorem RowK.rdp {w : World} {base : Nat} {v : Value} {l : List (List UInt8)} (h : RowK kStr w base v l) : RdP w v l := by
 obtain ⟨A, c, e, h0, h1⟩ := h.rd0
 refine ⟨A, c, e, ⟨h0, ?_⟩, h1⟩
 rcases h.2 with ⟨e2, hn⟩ | ⟨g, cap, cur, e2, _, _, h5, h6, _⟩
 · rw [e] at e2
   injection e2 with e3 e4 e5
   unfold maxLen
   omega
 · rw [e] at e2
   injection e2 with e3 e4 e5
   subst e5
   exact ⟨h5, h6⟩
theorem RowK.rdc2 {w : World} {base : Nat} {v : Value} {l : List Int} (h : RowK kB w base v l) : RdC w v l := by
 obtain ⟨A, c, e, h0, h1⟩ := h.rd0
 refine ⟨A, c, e, ⟨h0, ?_⟩, k_rd h1⟩
 rcases h.2 with ⟨e2, hn⟩ | ⟨g, cap, cur, e2, _, _, h5, h6, _⟩
 · rw [e] at e2
   injection e2 with e3 e4 e5
   unfold maxLen
   omega
 · rw [e] at e2
   injection e2 with e3 e4 e5
   subst e5
   exact ⟨h5, h6⟩
theorem rowA_by {w w' : World} {base g : Nat} {v : Value} {l : List At} {t : TypeId} {cs : Array Value} (h : YtcjiofhjognklaaGreat.RowK kA w base v l) (hg : w.grownBy w' (some g)) (hb : Blk w g t cs) (ht : 67 ≠ t) : YtcjiofhjognklaaGreat.RowK kA w' base v l :=
 RowK.fit h fun k e => hg.block k (own_at h e).2.1 (fun e2 => by
   injection e2 with e2
   subst e2
   obtain ⟨_, _, cs', hc⟩ := own_at h e
   exact blk_ne hc hb ht rfl)
theorem rowA_set {w : World} {base g i : Nat} {v u : Value} {l : List At} {t : TypeId} {cs : Array Value} (h : YtcjiofhjognklaaGreat.RowK kA w base v l) (hb : Blk w g t cs) (ht : 67 ≠ t) : YtcjiofhjognklaaGreat.RowK kA (w.setCell ⟨g, i, none⟩ u) base v l :=
 RowK.fit h fun k e => Below.heap_setCell w ⟨g, i, none⟩ _ k (fun e2 => by
   obtain ⟨_, _, cs', hc⟩ := own_at h e
   exact blk_ne hc hb ht e2)
structure OpNew (w : World) (base : Nat) (o : Opn) (va vp vc : Value) : Prop where
 a : YtcjiofhjognklaaGreat.RowK kA w base va o.attrs
 p : RowK kStr w base vp o.parts
 c : RdC w vc o.cur
theorem OpNew.at {w : World} {base : Nat} {o : Opn} {va vp vc : Value} (h : OpNew w base o va vp vc) : OpAt w o va vp vc := ⟨YtcjiofhjognklaaGreat.RowK.rdv h.a, h.p.rdp, h.c⟩
structure OS (w : World) (g Bo bF : Nat) (fd : Array Value) (o : Opn) (va vp vc : Value) (f : Bool) (r : List Int) (W : World) : Prop where
 bel : Below w.heap.size w W
 rr : Blk W w.heap.size 27 zCs
 oo : Blk W Bo 27 (opCs o va vp vc)
 ff : Blk W bF 83 fd
 rs : RS W g g f r
 n1 : w.heap.size < g
 n2 : g < Bo
 n3 : Bo < bF
 ra : YtcjiofhjognklaaGreat.RowK kA W w.heap.size va o.attrs
 rp : RowK kStr W w.heap.size vp o.parts
 rc : RowK kB W w.heap.size vc o.cur
section
variable {w W W' : World} {g Bo bF : Nat} {fd : Array Value} {o : Opn} {va vp vc : Value} {f f' : Bool} {r r' : List Int}
theorem OS.gr (h : OS w g Bo bF fd o va vp vc f r W) (hg : W.grownBy W' (some g)) (hs : RS W' g g f' r') : OS w g Bo bF fd o va vp vc f' r' W' := by
 obtain ⟨cs, hk⟩ := h.rs.blk
 have h1 := h.n1
 have h2 := h.n2
 have h3 := h.n3
 exact ⟨h.bel.trans (below_grown hg (by omega) (by have := h.bel.size; omega)), h.rr.grown hg (fun e => by injection e with e; omega), h.oo.grown hg (fun e => by injection e with e; omega), h.ff.grown hg (fun e => by injection e with e; omega), hs, h1, h2, h3,
   rowA_by h.ra hg hk (by decide), RowK.byT h.rp hg hk (by decide), RowK.byT h.rc hg hk (by decide)⟩
theorem OS.st (h : OS w g Bo bF fd o va vp vc f r W) {o' : Opn} {va' vp' vc' : Value} (i : Nat) (u : Value) (he : (opCs o va vp vc).setIfInBounds i u = opCs o' va' vp' vc')
   (hra : YtcjiofhjognklaaGreat.RowK kA W w.heap.size va' o'.attrs) (hrp : RowK kStr W w.heap.size vp' o'.parts) (hrc : RowK kB W w.heap.size vc' o'.cur) : OS w g Bo bF fd o' va' vp' vc' f r (W.setCell ⟨Bo, i, none⟩ u) := by
 have h1 := h.n1
 have h2 := h.n2
 have h3 := h.n3
 exact ⟨h.bel.setCell (p := ⟨Bo, i, none⟩) (show w.heap.size ≤ Bo by omega) u, h.rr.far (p := ⟨Bo, i, none⟩) (show w.heap.size ≠ Bo by omega) u, by rw [← he]; exact h.oo.set_ i u, h.ff.far (p := ⟨Bo, i, none⟩) (show bF ≠ Bo by omega) u, h.rs.setT (by omega) (by omega), h1, h2, h3,
   rowA_set hra h.oo (by decide), RowK.setT hrp h.oo (by decide), RowK.setT hrc h.oo (by decide)⟩
theorem OS.name (h : OS w g Bo bF fd o va vp vc f r W) (s : List UInt8) : OS w g Bo bF fd { o with name := s } va vp vc f r (W.setCell ⟨Bo, 1, none⟩ (.string (sx s))) := h.st 1 _ rfl h.ra h.rp h.rc
theorem OS.dst (h : OS w g Bo bF fd o va vp vc f r W) (s : List UInt8) : OS w g Bo bF fd { o with dst := s } va vp vc f r (W.setCell ⟨Bo, 2, none⟩ (.string (sx s))) := h.st 2 _ rfl h.ra h.rp h.rc
theorem OS.attrs (h : OS w g Bo bF fd o va vp vc f r W) (v : Value) (l : List At) (hr : YtcjiofhjognklaaGreat.RowK kA W w.heap.size v l) : OS w g Bo bF fd { o with attrs := l } v vp vc f r (W.setCell ⟨Bo, 3, none⟩ v) := h.st 3 _ rfl hr h.rp h.rc
theorem OS.cur (h : OS w g Bo bF fd o va vp vc f r W) (v : Value) (l : List Int) (hr : RowK kB W w.heap.size v l) : OS w g Bo bF fd { o with cur := l } va vp v f r (W.setCell ⟨Bo, 5, none⟩ v) := h.st 5 _ rfl h.ra h.rp hr
theorem OS.num (h : OS w g Bo bF fd o va vp vc f r W) (n : Int) : OS w g Bo bF fd { o with n := n } va vp vc f r (W.setCell ⟨Bo, 6, none⟩ (.int .i64 n)) := h.st 6 _ rfl h.ra h.rp h.rc
theorem OS.at_ (h : OS w g Bo bF fd o va vp vc f r W) : OpAt W o va vp vc := ⟨YtcjiofhjognklaaGreat.RowK.rdv h.ra, h.rp.rdp, h.rc.rdc2⟩
theorem OS.on (h : OS w g Bo bF fd o va vp vc f r W) (hb : Below W.heap.size W W') : OS w g Bo bF fd o va vp vc f r W' := by
 obtain ⟨cs, hk⟩ := h.rs.blk
 exact ⟨h.bel.trans (hb.mono h.bel.size), h.rr.on hb, h.oo.on hb, h.ff.on hb, h.rs.on hb, h.n1, h.n2, h.n3, rowA_by h.ra (grownBy_of (row := some g) hb) hk (by decide), RowK.onT h.rp hb, RowK.onT h.rc hb⟩
theorem OS.out (h : OS w g Bo bF fd o va vp vc f r W) (cs : Array Value) : OpNew (W.setRow w.heap.size cs) w.heap.size o va vp vc ∧ Below w.heap.size w (W.setRow w.heap.size cs) ∧ Blk (W.setRow w.heap.size cs) w.heap.size 27 cs := by
 have hne : ∀ k, k ≠ w.heap.size → (W.setRow w.heap.size cs).heap[k]? = W.heap[k]? := fun k hk => setRow_other W w.heap.size k cs hk
 refine ⟨⟨?_, ?_, ?_⟩, below_setRow h.bel (Nat.le_refl _) cs, h.rr.row cs⟩
 · exact RowK.fit h.ra fun k e => hne k (fun e2 => by
     obtain ⟨_, _, cs', hc⟩ := own_at h.ra e
     exact blk_ne hc h.rr (by decide) e2)
 · exact RowK.fitT h.rp fun k e => hne k (fun e2 => by
     obtain ⟨_, _, cs', hc⟩ := own_atT h.rp e
     exact blk_ne hc h.rr (by decide) e2)
 · exact RowK.rdc2 (RowK.fitT h.rc fun k e => hne k (fun e2 => by
     obtain ⟨_, _, cs', hc⟩ := own_atT h.rc e
     exact blk_ne hc h.rr (by decide) e2))
theorem OS.new (h1 : Below w.heap.size w W) (h2 : Blk W w.heap.size 27 zCs) {k : Int} (h3 : Blk W Bo 27 (opCs (o0 k) (.slice none 0 0) (.slice none 0 0) (.slice none 0 0))) (h4 : Blk W bF 83 fd) (h5 : RS W g g f r) (n1 : w.heap.size < g) (n2 : g < Bo) (n3 : Bo < bF) :
   OS w g Bo bF fd (o0 k) (.slice none 0 0) (.slice none 0 0) (.slice none 0 0) f r W := ⟨h1, h2, h3, h4, h5, n1, n2, n3, YtcjiofhjognklaaGreat.nil_row kA _ _, nil_row kStr _ _, nil_row kB _ _⟩
theorem OS.parts {k : Int} (h : OS w g Bo bF fd (o0 k) (.slice none 0 0) (.slice none 0 0) (.slice none 0 0) f r W) {p : List (List UInt8)} (hc : CQ 9 W.heap.size g Bo W W') (hs : RS W' g g f' r')
   (hp : IP W.heap.size Bo (.int .i64 k) (.string (sx [])) (.string (sx [])) (.slice none 0 0) (.slice none 0 0) (.int .i64 0) W' p) : ∃ vp, OS w g Bo bF fd { o0 k with parts := p } (.slice none 0 0) vp (.slice none 0 0) f' r' W' := by
 have h1 := h.n1
 have h2 := h.n2
 have h3 := h.n3
 have hz := h.bel.size
 obtain ⟨v, hb, hr⟩ := hp
 refine ⟨v, ⟨h.bel.trans ⟨hc.os, hc.tape, hc.output, hc.size, fun i hi => hc.low i (by omega) (by omega) (by omega)⟩, hc.kp _ _ _ (by decide) (by omega) (by omega) h.rr, hb, hc.kp _ _ _ (by decide) (by omega) (by omega) h.ff, hs, h1, h2, h3, YtcjiofhjognklaaGreat.nil_row kA _ _, RowK.lowR hr hz, nil_row kB _ _⟩⟩
end
def OpOfOut (w : World) (l : List Int) (e : Ending) (w' : World) : Prop :=
 (∃ (o : Opn) (va vp vc : Value), mayO o = true ∧ l = opB o ∧ e = .returned (.tuple #[opVal o va vp vc, .int .i64 0]) ∧ OpNew w' w.heap.size o va vp vc ∧ Lim o ∧ Below w.heap.size w w') ∨
 ((∀ o, mayO o = true → l ≠ opB o) ∧ e = .returned (.tuple #[.agg zCs, .int .i64 4]) ∧ Below w.heap.size w w')
theorem end_nz {n : Int} {f : Bool} {r : List Int} (h : n = 0 ↔ (f = false ∧ r = [])) (hg : ¬ (f = false ∧ r = [])) : (n == 0) = false ∧ (n != 0) = true := by
 have : n ≠ 0 := fun e => hg (h.1 e)
 exact ⟨by simpa using this, by simpa using this⟩
theorem opCs_one {w W : World} {g Bo bF : Nat} {fd : Array Value} {o : Opn} {va vp vc : Value} {f : Bool} {r : List Int} (h : OS w g Bo bF fd o va vp vc f r W) : (opCs o va vp vc).all (·.oneCell') = true := by
 obtain ⟨A1, c1, e1, _⟩ := YtcjiofhjognklaaGreat.RowK.rdv h.ra
 obtain ⟨A2, c2, e2, _⟩ := h.rp.rdp
 obtain ⟨A3, c3, e3, _⟩ := h.rc.rdc2
 subst e1 e2 e3
 kernel_rfl
end Go.Proofs.YtcjiofhjognklaaGreat.Tlv
namespace Go.Proofs.YtcjiofhjognklaaGreat.Tlv
open Go.RowKit
set_option maxRecDepth 100000
set_option linter.unusedVariables false
set_option linter.unusedSimpArgs false
theorem take_tk {f : Bool} {r : List Int} {tag : Int} : ((tk f r tag).1 = none ∧ (tk f r tag).2.1 = true) ∨ (∃ v, (tk f r tag).1 = some v ∧ (tk f r tag).2.1 = false) := by
 unfold tk
 split
 · exact .inl ⟨rfl, rfl⟩
 · split
   · exact .inr ⟨_, rfl, rfl⟩
   · exact .inl ⟨rfl, rfl⟩
theorem step256 (N b : Int) (h0 : 0 ≤ N) (h1 : N < 72057594037927936) (b0 : 0 ≤ b) (b1 : b ≤ 255) : IntKind.u64.wrap (256 * N) = 256 * N ∧ IntKind.u64.wrap (256 * N + b) = 256 * N + b :=
 ⟨IntWalk.u64_in _ (by omega), IntWalk.u64_in _ (by omega)⟩
set_option maxHeartbeats 8000000 in
theorem refNumberV (D g : Nat) (f : Bool) (r : List Int) (tag : Int) (w : World) (hs : RR w D g f r) :
   Calls Tryz.prog 60 #[.pointer (some ⟨g, 0, none⟩), .int .u8 tag] w fun e w' => e = .returned (.int .u64 (numV (tk f r tag)).1) ∧ RR w' D g (numV (tk f r tag)).2.1 (numV (tk f r tag)).2.2 ∧ w.grownBy w' (some g) := by
 have HT := Lib.hid (refTake_any D g f r tag w hs)
 have hby := (tk_byt (f := f) (tag := tag) hs.byt).1
 have hcase := take_tk (f := f) (r := r) (tag := tag)
 generalize tk f r tag = t at HT hby hcase ⊢
 obtain ⟨o, f1, r1⟩ := t
 dsimp only at hby hcase
 clear hs
 have HCS := Lib.hid hcase
 have HBY := Lib.hid hby
 clear hcase hby
 go_enter Tryz.func60, Tryz.ntmps60
 go_wp2_with fail
 refine HT.out.mono ?_
 clear HT
 intro e w1 h
 obtain ⟨A1, c1, rfl, hr1, hA1, hA2, hc1, hc2, hRR, hg⟩ := take_form h
 clear h
 dsimp only at hr1 hc1 hRR ⊢
 obtain ⟨A9, c9, hblk, _⟩ := hRR.2
 have g1 : w1.cell? ⟨g, 1, none⟩ = some (.bool f1) := hblk.cell 1
 have gf : w1.frozen? ⟨g, 1, none⟩ = false := hblk.frozen 1
 have HRR := Lib.hid (And.intro hRR hg)
 clear hblk hRR hg hc1 hc2 hA1 hA2
 rcases HCS.out with ⟨rfl, rfl⟩ | ⟨v, rfl, rfl⟩
 · have HE : Hid (numV ((none : Option (List Int)), true, r1) = (0, true, r1)) := Lib.hid rfl
   clear hr1
   go_wp2_with fail
   have HF := Lib.hid (And.intro HRR.out.1.bad (grownBy_trans HRR.out.2 (blk_set_grown w1 g 1 (.bool true))))
   go_ret
   exact ⟨by rw [HE.out]; rfl, by rw [HE.out]; exact HF.out.1, HF.out.2⟩
 · simp only [Option.getD_some] at hr1 ⊢
   by_cases h8 : v.length = 8
   · have HE : Hid (numV (some v, false, r1) = (numOf v, false, r1)) := Lib.hid (by unfold numV; rw [if_pos]; rfl; exact ⟨rfl, h8⟩)
     have HR := Lib.hid hr1
     have HV := Lib.hid (show Byt v from HBY.out)
     rw [h8]
     have H8 := Lib.hid h8
     clear hr1 h8
     go_wp2_with fail
     go_loopw [6, 7] (fun n i wr => ∃ k : Nat, n = .int .u64 (numOf (v.take k)) ∧ i = .int .i64 k ∧ k ≤ 8 ∧ wr = w1) (fun _ i _ => 8 - (intOf i).toNat)
     case atStart => exact ⟨0, rfl, rfl, by omega, rfl⟩
     case round =>
       obtain ⟨k, rfl, rfl, hk, rfl⟩ := hrel
       by_cases hlt : k < 8
       · obtain ⟨b, off, rfl, hb, hc⟩ := HR.out (by have := H8.out; omega)
         have ck := hc k (by have := H8.out; omega)
         have hx := HV.out.at k
         have hn := numOf_lt HV.out k (by have := H8.out; omega)
         have hn2 : numOf (v.take k) < 72057594037927936 := by
           have h7 : 256 ^ k ≤ 72057594037927936 := Nat.le_trans (Nat.pow_le_pow_right (show 0 < 256 by omega) (show k ≤ 7 by omega)) (by decide)
           have := hn.2
           omega
         have HS := Lib.hid (numOf_snoc (v := v) (k := k) (by have := H8.out; omega))
         have hn0 := hn.1
         obtain ⟨hx0, hx1⟩ := hx
         obtain ⟨e1, e2⟩ := step256 (numOf (v.take k)) (v.getD k 0) hn0 hn2 hx0 hx1
         clear hc hn hb
         generalize numOf (v.take k) = N at *
         generalize v.getD k 0 = bk at *
         go_wp2_with fail
         exact ⟨⟨k + 1, by rw [HS.out], by go_num, by omega, trivial⟩, by simp [intOf]; omega⟩
       · have : k = 8 := by omega
         subst this
         have HT : Hid (v.take 8 = v) := Lib.hid (List.take_of_length_le (by have := H8.out; omega))
         rw [HT.out]
         go_wp2_with fail
         go_ret
         exact ⟨by rw [HE.out]; rfl, by rw [HE.out]; exact HRR.out.1, HRR.out.2⟩
   · have HE : Hid (numV (some v, false, r1) = (0, true, r1)) := Lib.hid (by unfold numV; rw [if_neg]; rintro ⟨_, h⟩; exact h8 h)
     have h8' : ((v.length : Int) != 8) = true := by simp; omega
     clear hr1 h8
     go_wp2_with fail
     have HF := Lib.hid (And.intro HRR.out.1.bad (grownBy_trans HRR.out.2 (blk_set_grown w1 g 1 (.bool true))))
     go_ret
     exact ⟨by rw [HE.out]; rfl, by rw [HE.out]; exact HF.out.1, HF.out.2⟩
theorem cv_fun2 : ∃ (cv : World → ByteArray → World) (ca : World → ByteArray → Addr) (cc : World → ByteArray → Nat), ∀ W s, (convert 9 25 (.string s)).run Tryz.prog W = .ok (.slice (some (ca W s)) (bytesOf s).length (cc W s)) (cv W s) ∧ (Rd (cv W s) (cv W s).heap.size (some (ca W s)) (bytesOf s) ∧ Below W.heap.size W (cv W s)) ∧ (ca W s).block = W.heap.size :=
 ⟨fun W s => Classical.choose (text_conv W s), fun W s => ⟨W.heap.size, 0, none⟩, fun W s => Classical.choose (Classical.choose_spec (text_conv W s)), fun W s => ⟨(Classical.choose_spec (Classical.choose_spec (text_conv W s))).1, (Classical.choose_spec (Classical.choose_spec (text_conv W s))).2, rfl⟩⟩
theorem rd_apart {w w' : World} {a : Addr} {l : List Int} {row : Option Nat} (h : Rd w w.heap.size (some a) l) (hg : w.grownBy w' row) (hne : ∀ k, row = some k → k ≠ a.block) : Rd w' w'.heap.size (some a) l := fun hp => by
 obtain ⟨b, off, e, hl, hc⟩ := h hp
 injection e with e
 subst e
 exact ⟨b, off, rfl, Nat.lt_of_lt_of_le hl hg.size, fun j hj => (World.cell?_of_block (w := w) (a := ⟨b, off + j, none⟩) (hg.block b hl (fun e => hne b e.symm rfl))).trans (hc j hj)⟩
theorem val_out (tag : Int) (xs p : List Int) (A : Option Addr) (c : Nat) (w : World) (hr : Rd w w.heap.size A xs) (hA : A = none → c = 0) (hx : xs.length ≤ 4194304) (hp : p = valB tag xs) :
   Calls Tryz.prog 79 #[.int .u8 tag, .slice A xs.length c] w fun e w' => ∃ A' c', e = .returned (.slice A' p.length c') ∧ Rows2 w' w.heap.size A' c' p ∧ Below w.heap.size w w' := by
 refine (refValue_any tag xs A c w hr hA hx).mono ?_
 rintro e w' ⟨v, rfl, h1, h2⟩
 subst hp
 obtain ⟨A', c', rfl, h3⟩ := row_two h1
 exact ⟨A', c', rfl, h3, h2⟩
theorem num_out2 (tag n : Int) (p : List Int) (w : World) (hn : 0 ≤ n) (hn2 : n < 18446744073709551616) (hp : p = numB tag n) :
   Calls Tryz.prog 78 #[.int .u8 tag, .int .u64 n] w fun e w' => ∃ A' c', e = .returned (.slice A' p.length c') ∧ Rows2 w' w.heap.size A' c' p ∧ Below w.heap.size w w' := by
 refine (refNumber_any tag n w hn hn2).mono ?_
 rintro e w' ⟨v, rfl, h1, h2⟩
 subst hp
 obtain ⟨A', c', rfl, h3⟩ := row_two h1
 exact ⟨A', c', rfl, h3, h2⟩
theorem ats_out (tag : Int) (l : List At) (p : List Int) (v : Value) (w : World) (hv : YtcjiofhjognklaaGreat.RdV w v l) (hf : FewA l) (hp : p = valB tag (atsB l)) :
   Calls Tryz.prog 80 #[.int .u8 tag, v] w fun e w' => ∃ A' c', e = .returned (.slice A' p.length c') ∧ Rows2 w' w.heap.size A' c' p ∧ Below w.heap.size w w' := by
 refine (refAttrs_any tag l v w hv hf).mono ?_
 rintro e w' ⟨v, rfl, h1, h2⟩
 subst hp
 obtain ⟨A', c', rfl, h3⟩ := row_two h1
 exact ⟨A', c', rfl, h3, h2⟩
theorem partsB_snoc (l : List (List UInt8)) (k : Nat) (h : k < l.length) : partsB (l.take (k + 1)) = partsB (l.take k) ++ valB 1 (bytesOf (sx (l.getD k default))) := by
 rw [take_snocP l k h]
 unfold partsB
 rw [List.flatMap_append]
 simp
set_option maxHeartbeats 8000000 in
theorem texts_any (tag : Int) (l : List (List UInt8)) (p : List Int) (v : Value) (w : World) (hv : RdP w v l) (hl : l.length ≤ 8) (hs : ∀ s ∈ l, s.length ≤ 1000) (hp : p = valB tag (partsB l)) :
   Calls Tryz.prog 81 #[.int .u8 tag, v] w fun e w' => ∃ A' c', e = .returned (.slice A' p.length c') ∧ Rows2 w' w.heap.size A' c' p ∧ Below w.heap.size w w' := by
 obtain ⟨A, c, n, rfl, HN, HR⟩ := hv.full
 have HS := Lib.hid hs
 have hn : n ≤ 8 := by have := HN.out; omega
 have HP := Lib.hid hp
 clear hv hl hs hp
 obtain ⟨cv, ca, cc, hcv⟩ := cv_fun
 go_enter Tryz.func81, Tryz.ntmps81
 go_wp2
 go_loopw [5, 6] (fun s5 s6 wr => ∃ k : Nat, s6 = .int .i64 k ∧ k ≤ n ∧ Hid (RowK kB wr w.heap.size s5 (partsB (l.take k)) ∧ Below w.heap.size w wr)) (fun _ s6 _ => n - (intOf s6).toNat)
 case atStart => exact ⟨0, rfl, Nat.zero_le _, Lib.hid ⟨nil_row kB _ _, Below.refl _ _⟩⟩
 case round =>
   obtain ⟨k, rfl, hk, H⟩ := hrel
   have hpl : (partsB (l.take k)).length ≤ 10000 := by
     have h1 := partsB_len (l.take k) (fun s hs => HS.out s (List.mem_of_mem_take hs))
     have h2 : (l.take k).length ≤ 8 := by rw [List.length_take]; have := HN.out; omega
     omega
   by_cases hlt : k < n
   · have hkl : k < l.length := by have := HN.out; omega
     obtain ⟨b, off, rfl, hbl, c0⟩ := str_cell HR.out H.out.2 hkl
     have hmem : l.getD k default ∈ l := by rw [List.getD_eq_getElem?_getD, List.getElem?_eq_getElem hkl]; exact List.getElem_mem _
     have hsz := HS.out _ hmem
     have HAS := Lib.hid (partsB_snoc l k hkl)
     generalize l.getD k default = s at c0 hsz HAS
     have hbs : (bytesOf (sx s)).length ≤ 1000 := by rw [bytes_sx]; exact hsz
     generalize sx s = x at c0 HAS hbs
     obtain ⟨q, hq⟩ : ∃ q, q = valB 1 (bytesOf x) := ⟨_, rfl⟩
     rw [← hq] at HAS
     have hql : q.length ≤ 2000 := by rw [hq, valB_length]; omega
     have HC := Lib.hid (hcv wr x)
     have hcT := (hcv wr x).1
     have HV := Lib.hid (val_out 1 (bytesOf x) q (some (ca wr x)) (cc wr x) (cv wr x) HC.out.2.1 (fun h => by cases h) (by omega) hq)
     have HL := Lib.hid (And.intro hpl hql)
     clear hbs hsz hmem hq hpl hql hkl
     generalize partsB (l.take k) = u at H HAS HL
     have HZ := Lib.hid H.out.2.size
     go_wp2_with (first
       | (go_at_call 79; (with_reducible refine HV.out.mono ?_); clear HV hcT c0; rintro e w2 ⟨A2, c2, rfl, hr2, hb2⟩; dsimp only; have H2 := Lib.hid (And.intro hr2 (HC.out.2.2.trans (hb2.mono HC.out.2.2.size))); clear hr2 hb2)
       | (at_builtin; refine wpList_appK kB rfl _ _ rfl q rfl (row_k.2 (Row.below (row_k.1 H.out.1) H2.out.2)) rfl (rd_k H2.out.1.2.1) H2.out.1.2.2 (by have h1 := HL.out.1; have h2 := HL.out.2; omega) (Nat.le_trans HZ.out H2.out.2.size) ?_; intro v8 w8 hrow8 hgr8; have H8 := Lib.hid (And.intro hrow8 (row_below (row_k.2 (Row.below (row_k.1 H.out.1) H2.out.2)) hgr8 (Nat.le_trans HZ.out H2.out.2.size))); clear hrow8 hgr8))
     go_roundw
     case rel => exact ⟨k + 1, by go_num, by omega, Lib.hid ⟨by rw [HAS.out]; exact H8.out.1, (H.out.2.trans (H2.out.2.mono HZ.out)).trans H8.out.2⟩⟩
     case measure => simp [intOf]; omega
   · have hkn : k = n := by omega
     subst hkn
     have HLT : Hid (l.take k = l) := Lib.hid (by rw [HN.out, List.take_length])
     rw [HLT.out] at hpl H
     obtain ⟨A5, c5, rfl, hr5⟩ := row_two (row_k.1 H.out.1)
     have H6 := Lib.hid (val_out tag (partsB l) p A5 c5 wr hr5.2.1 hr5.2.2 (by omega) HP.out)
     have HB := Lib.hid H.out.2
     clear H hr5 hpl
     go_wp2_with (go_at_call 79; (with_reducible refine H6.out.mono ?_); clear H6; rintro e w' ⟨A', c', rfl, h1, h2⟩; dsimp only; have HF := Lib.hid (And.intro h1 h2); clear h1 h2)
     go_ret
     refine ⟨_, _, rfl, ⟨row_k.2 ((row_k.1 HF.out.1.1).lowR HB.out.size), HF.out.1.2⟩, HB.out.trans (HF.out.2.mono HB.out.size)⟩
end Go.Proofs.YtcjiofhjognklaaGreat.Tlv
