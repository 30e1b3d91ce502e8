/- Attributes in whatever order, taken off a reader. -/
import Derived.Test.YtcjiofhjognklaaGreatY38
import Derived.Test.YtcjiofhjognklaaGreatY35
import Derived.Test.YtcjiofhjognklaaGreatY20
namespace Go.Proofs.YtcjiofhjognklaaGreat.Tlv
open Go.RowKit
set_option maxRecDepth 100000
set_option linter.unusedVariables false
set_option linter.unusedSimpArgs false
theorem RS.blk {W : World} {D g : Nat} {f : Bool} {r : List Int} (h : RS W D g f r) : ∃ cs, Blk W g 160 cs := by
 obtain ⟨_, A, c, h1, _⟩ := h
 exact ⟨_, h1⟩
theorem RS.gro {W W' : World} {D g : Nat} {f : Bool} {r : List Int} {row : Option Nat} (h : RS W D g f r) (hg : W.grownBy W' row) (h1 : some g ≠ row) (h2 : ∀ k, row = some k → D ≤ k) : RS W' D g f r := by
 have hl := h.lt
 obtain ⟨h0, A, c, x1, x2, x3⟩ := h
 refine ⟨h0, A, c, x1.grown hg h1, fun hp => ?_, x3⟩
 obtain ⟨bb, off, e, hl2, hc⟩ := x2 hp
 exact ⟨bb, off, e, hl2, fun j hj => (World.cell?_of_block (w := W) (a := ⟨bb, off + j, none⟩) (hg.block bb (by omega) (fun e2 => by have := h2 bb e2.symm; omega))).trans (hc j hj)⟩
theorem RS.setT {W : World} {D g b i : Nat} {f : Bool} {r : List Int} {u : Value} (h : RS W D g f r) (h1 : g ≠ b) (h2 : D ≤ b) : RS (W.setCell ⟨b, i, none⟩ u) D g f r := by
 obtain ⟨h0, A, c, x1, x2, x3⟩ := h
 refine ⟨h0, A, c, x1.far (p := ⟨b, i, none⟩) h1 u, fun hp => ?_, x3⟩
 obtain ⟨bb, off, e, hl2, hc⟩ := x2 hp
 exact ⟨bb, off, e, hl2, fun j hj => (World.cell?_of_block (w := W) (a := ⟨bb, off + j, none⟩) (Below.heap_setCell W ⟨b, i, none⟩ u bb (show bb ≠ b by omega))).trans (hc j hj)⟩
def mayEn (e : Eny) : Bool := mayE e.nm e.ats
abbrev enB (e : Eny) : List Int := valB 1 (entB e.nm e.ats)
def entsB (l : List Eny) : List Int := l.flatMap enB
abbrev flgB (t : Int) (y : Bool) : List Int := valB t [if y = true then 1 else 0]
def resB (r : Res) : List Int := [] ++ numB 1 r.k ++ flgB 2 r.y ++ valB 3 (entsB r.es) ++ valB 4 r.cur
def mayR (r : Res) : Bool := mayF r.k r.y r.es.length r.cur.length && r.es.all mayEn
theorem mayF_iff {k : Int} {y : Bool} {ne nc : Nat} : mayF k y ne nc = true ↔ (k = 0 ∨ (y = false ∧ ne = 0 ∧ nc = 0)) ∧ 0 ≤ k ∧ k ≤ 14 ∧ ne ≤ 1000 ∧ nc ≤ 4000 := by
 unfold mayF
 simp only [Bool.and_eq_true, Bool.or_eq_true, decide_eq_true_eq, Bool.not_eq_true']
theorem mayR_parts {r : Res} (h : mayR r = true) : mayF r.k r.y r.es.length r.cur.length = true ∧ ∀ e ∈ r.es, mayEn e = true := by
 obtain ⟨h1, h2⟩ := Bool.and_eq_true_iff.1 h
 exact ⟨h1, List.all_eq_true.1 h2⟩
theorem mayR_is {r : Res} (h1 : mayF r.k r.y r.es.length r.cur.length = true) (h2 : ∀ e ∈ r.es, mayEn e = true) : mayR r = true := Bool.and_eq_true_iff.2 ⟨h1, List.all_eq_true.2 h2⟩
theorem entB_few {e : Eny} (h : mayEn e = true) : (entB e.nm e.ats).length ≤ 104100 := by
 obtain ⟨h1, h2⟩ := Bool.and_eq_true_iff.1 h
 have h3 := mayN_len h1
 have h4 := atsB_take_len e.ats e.ats.length (few_may h2)
 rw [List.take_length] at h4
 unfold entB
 rw [List.length_append, valB_length, valB_length, bytes_sx]
 omega
theorem entsB_cons (e : Eny) (l : List Eny) : entsB (e :: l) = enB e ++ entsB l := by unfold entsB; rw [List.flatMap_cons]
theorem entsB_len : ∀ l : List Eny, (∀ e ∈ l, mayEn e = true) → (entsB l).length ≤ 104105 * l.length
 | [], _ => Nat.le_refl _
 | e :: l, h => by
   have h1 := entsB_len l fun x hx => h x (List.mem_cons_of_mem _ hx)
   have h2 := entB_few (h e (List.mem_cons_self ..))
   rw [entsB_cons, List.length_append, valB_length, List.length_cons]
   omega
def Fit (r : Res) : Prop := (∀ e ∈ r.es, mayEn e = true) → (entsB r.es).length ≤ 4000000
theorem fit_few {r : Res} (h : r.es.length ≤ 30) : Fit r := fun h2 => by have := entsB_len r.es h2; omega
theorem resB_len (r : Res) : (resB r).length = 29 + (entsB r.es).length + r.cur.length := by
 unfold resB
 simp only [List.length_append, List.length_nil, valB_length, be8_length, List.length_singleton]
 omega
def EncE : Enc Eny where
 b := enB
 g := fun e => mayEn e = true
 can := fun a a' x y h h' e => by
   obtain ⟨h1, h2⟩ := valB_cancel (by decide) (Nat.le_trans (entB_few h) (by decide)) (Nat.le_trans (entB_few h') (by decide)) e
   obtain ⟨h3, h4⟩ := ent_inj h h' h1
   exact ⟨by cases a; cases a'; simp only [Eny.mk.injEq]; exact ⟨h3, h4⟩, h2⟩
 st := fun a x h => (stands_put (tag := 1) (r := x) (by decide) (Nat.le_trans (entB_few h) (by decide))).2.1
theorem encE_all (l : List Eny) : EncE.all l = entsB l := rfl
def flgV (t : Option (List Int) × Bool × List Int) : Bool × Bool × List Int :=
 if t.1 = some [0] then (false, t.2.1, t.2.2) else if t.1 = some [1] then (true, t.2.1, t.2.2) else (false, true, t.2.2)
def FlagOut (t : Option (List Int) × Bool × List Int) (n : Bool) (f' : Bool) (r' : List Int) : Prop :=
 (∃ x : Int, t.1 = some [x] ∧ x ≤ 1 ∧ n = (x == 1) ∧ f' = t.2.1 ∧ r' = t.2.2) ∨ (f' = true ∧ n = false ∧ r' = t.2.2 ∧ ¬ ∃ x : Int, t.1 = some [x] ∧ x ≤ 1)
theorem byt_one {f : Bool} {r : List Int} {tag x : Int} (hb : Byt r) (h : (tk f r tag).1 = some [x]) : 0 ≤ x := by
 cases htk : tk f r tag with
 | mk o q =>
   rw [htk] at h
   simp only at h
   subst h
   exact (tk_bytS hb htk x (List.mem_singleton.2 rfl)).1
theorem FlagOut.is {f : Bool} {r : List Int} {tag : Int} (hb : Byt r) {n f' : Bool} {r' : List Int} (h : FlagOut (tk f r tag) n f' r') : n = (flgV (tk f r tag)).1 ∧ f' = (flgV (tk f r tag)).2.1 ∧ r' = (flgV (tk f r tag)).2.2 := by
 rcases h with ⟨x, e1, e2, e3, e4, e5⟩ | ⟨e1, e2, e3, e4⟩
 · have h0 := byt_one hb e1
   unfold flgV
   have hx : x = 0 ∨ x = 1 := by omega
   rcases hx with rfl | rfl
   · rw [if_pos e1]; exact ⟨e3, e4, e5⟩
   · rw [if_neg (by rw [e1]; decide), if_pos e1]; exact ⟨e3, e4, e5⟩
 · unfold flgV
   rw [if_neg (fun e => e4 ⟨0, e, by decide⟩), if_neg (fun e => e4 ⟨1, e, by decide⟩)]
   exact ⟨e2, e1, e3⟩
theorem took_flgV {f : Bool} {r : List Int} {tag : Int} (hb : Byt r) (ht : tag ≠ 0) : Took (flgB tag) (fun _ => True) f r (flgV (tk f r tag)).1 (flgV (tk f r tag)).2.1 (flgV (tk f r tag)).2.2 := by
 refine ⟨fun h0 => ?_, fun h0 a0 r1 hg e => ?_⟩
 · cases htk : tk f r tag with
   | mk o q =>
     obtain ⟨q1, q2⟩ := q
     rw [htk] at h0
     unfold flgV at h0 ⊢
     by_cases c0 : o = some [0]
     · subst c0
       obtain ⟨h1, h2, _, h4, h5⟩ := tk_some hb htk
       exact ⟨h1, h4, trivial⟩
     · by_cases c1 : o = some [1]
       · subst c1
         obtain ⟨h1, h2, _, h4, h5⟩ := tk_some hb htk
         exact ⟨h1, h4, trivial⟩
       · simp only [if_neg c0, if_neg c1] at h0
         cases h0
 · subst h0 e
   have h := tk_put (tag := tag) (xs := [if a0 = true then (1 : Int) else 0]) (r := r1) ht (by simp)
   rw [h]
   cases a0 <;> exact ⟨rfl, rfl, rfl⟩
theorem flgV_rest (t : Option (List Int) × Bool × List Int) : (flgV t).2.2 = t.2.2 := by
 unfold flgV
 split
 · rfl
 · split <;> rfl
theorem fin_res {l r1 r2 r3 r4 : List Int} {k m : Int} {y f1 f2 f3 f4 : Bool} {es : List Eny} {c : List Int} (hm : 14 ≤ m) (hby : Byt l) (hl : l.length ≤ 4194304) (h1 : Took (numB 1) (SmN m) false l k f1 r1) (h2 : Took (flgB 2) (fun _ => True) f1 r1 y f2 r2) (h3 : Took (fun l => valB 3 (EncE.all l)) (SmG EncE) f2 r2 es f3 r3) (h4 : Took (valB 4) SmB f3 r3 c f4 r4) :
   (f4 = false → r4 = [] → l = resB ⟨k, y, es, c⟩ ∧ (∀ e ∈ es, mayEn e = true) ∧ SmN m k ∧ SmB c) ∧ (∀ r0, mayR r0 = true → l = resB r0 → r0 = ⟨k, y, es, c⟩ ∧ f4 = false ∧ r4 = []) := by
 refine ⟨fun e1 e2 => ?_, fun r0 hr hl0 => ?_⟩
 · obtain ⟨z1, z2, z3⟩ := h4.1 e1
   obtain ⟨a1, a2, a3⟩ := h3.1 z1
   obtain ⟨b1, b2, b3⟩ := h2.1 a1
   obtain ⟨c1, c2, c3⟩ := h1.1 b1
   refine ⟨?_, a3.1, c3, z3⟩
   unfold resB
   rw [c2, b2, a2, z2, e2]
   simp [encE_all]
 · obtain ⟨p1, p2⟩ := mayR_parts hr
   obtain ⟨_, q1, q2, q3, q4⟩ := mayF_iff.1 p1
   have hle : (entsB r0.es).length ≤ 4194304 := by
     have := resB_len r0
     rw [← hl0] at this
     omega
   have hbc : Byt r0.cur := fun x hx => hby x (by rw [hl0]; simp [resB, valB, hx])
   have e0 : l = numB 1 r0.k ++ (flgB 2 r0.y ++ (valB 3 (EncE.all r0.es) ++ (valB 4 r0.cur ++ []))) := by rw [hl0]; unfold resB; simp [encE_all]
   obtain ⟨x1, x2, x3⟩ := h1.2 rfl r0.k _ ⟨q1, by omega⟩ e0
   obtain ⟨y1, y2, y3⟩ := h2.2 x2 r0.y _ trivial x3.symm.symm
   obtain ⟨z1, z2, z3⟩ := h3.2 y2 r0.es _ ⟨p2, by rw [encE_all]; exact hle⟩ y3
   obtain ⟨w1, w2, w3⟩ := h4.2 z2 r0.cur [] ⟨by omega, hbc⟩ z3
   refine ⟨?_, w2, w3⟩
   cases r0
   simp only [Res.mk.injEq]
   exact ⟨x1.symm, y1.symm, z1.symm, w1.symm⟩
theorem numberV (D g : Nat) (f : Bool) (r : List Int) (tag : Int) (w : World) (hs : RS w D g f r) :
   Calls Tryz.prog 101 #[.pointer (some ⟨g, 0, none⟩), .int .u8 tag] w fun e w' => e = .returned (.int .u64 (numV (tk f r tag)).1) ∧ RS w' D g (numV (tk f r tag)).2.1 (numV (tk f r tag)).2.2 ∧ w.grownBy w' (some g) :=
 (number_r D g f r tag w hs).mono fun e w' ⟨n, f', r', e1, h1, h2, h3⟩ => by
   obtain ⟨rfl, rfl, rfl⟩ := NumOut.is h3
   exact ⟨e1, h1, h2⟩
set_option maxHeartbeats 4000000 in
theorem smallN (D g : Nat) (f : Bool) (r : List Int) (tag m : Int) (w : World) (hs : RS w D g f r) (hm : 0 ≤ m) (hm2 : m ≤ 1000000) :
   Calls Tryz.prog 53 #[.pointer (some ⟨g, 0, none⟩), .int .u8 tag, .int .u64 m] w fun e w' => e = .returned (.int .i64 (smallV m (tk f r tag)).1) ∧ RS w' D g (smallV m (tk f r tag)).2.1 (smallV m (tk f r tag)).2.2 ∧ w.grownBy w' (some g) := by
 have HN := Lib.hid (numberV D g f r tag w hs)
 obtain ⟨h0, h1⟩ := numV_range (f := f) (tag := tag) hs.byt
 have hsv : smallV m (tk f r tag) = if m < (numV (tk f r tag)).1 then (0, true, (numV (tk f r tag)).2.2) else numV (tk f r tag) := rfl
 generalize smallV m (tk f r tag) = S at hsv ⊢
 generalize numV (tk f r tag) = x at HN h0 h1 hsv
 obtain ⟨n, f1, r1⟩ := x
 dsimp only at HN h0 h1 hsv
 clear hs
 by_cases hlt : m < n
 · rw [if_pos hlt] at hsv
   subst hsv
   dsimp only
   go_enter Tryz.func53, Tryz.ntmps53
   go_wp2_with (go_at_call 101; (with_reducible refine HN.out.mono ?_); clear HN; rintro e w1 ⟨rfl, hrs, hg⟩; have HF := Lib.hid (fail_any D g f1 r1 w1 hrs); have HG := Lib.hid hg; clear hrs hg)
   refine HF.out.mono ?_
   rintro e w2 ⟨⟨vv, rfl⟩, h4, h5⟩
   have HE := Lib.hid (And.intro h4 (grownBy_trans HG.out h5))
   clear h4 h5
   go_wp2_with fail
   go_ret
   exact ⟨rfl, HE.out.1, HE.out.2⟩
 · rw [if_neg hlt] at hsv
   subst hsv
   dsimp only
   have hcv : ∀ W, (convert 55 3 (.int .u64 n)).run Tryz.prog W = .ok (.int .i64 n) W := fun W => by
     have h : IntKind.i64.wrap n = n := IntWalk.i64_in _ (by omega)
     show Result.ok (Value.int .i64 (IntKind.i64.wrap n)) W = _
     rw [h]
   go_enter Tryz.func53, Tryz.ntmps53
   go_wp2_with (go_at_call 101; (with_reducible refine HN.out.mono ?_); clear HN; rintro e w1 ⟨rfl, hrs, hg⟩; have HE := Lib.hid (And.intro hrs hg); clear hrs hg)
   go_ret
   exact ⟨rfl, HE.out.1, HE.out.2⟩
theorem take_tk {f : Bool} {r : List Int} {tag : Int} : ((tk f r tag).1 = none ∧ (tk f r tag).2.1 = true) ∨ (∃ v, (tk f r tag).1 = some v ∧ (tk f r tag).2.1 = false) := by
 unfold tk
 split
 · exact .inl ⟨rfl, rfl⟩
 · split
   · exact .inr ⟨_, rfl, rfl⟩
   · exact .inl ⟨rfl, rfl⟩
theorem step256 (N b : Int) (h0 : 0 ≤ N) (h1 : N < 72057594037927936) (b0 : 0 ≤ b) (b1 : b ≤ 255) : IntKind.u64.wrap (256 * N) = 256 * N ∧ IntKind.u64.wrap (256 * N + b) = 256 * N + b :=
 ⟨IntWalk.u64_in _ (by omega), IntWalk.u64_in _ (by omega)⟩
set_option maxHeartbeats 8000000 in
theorem refNumberV (D g : Nat) (f : Bool) (r : List Int) (tag : Int) (w : World) (hs : RR w D g f r) :
   Calls Tryz.prog 60 #[.pointer (some ⟨g, 0, none⟩), .int .u8 tag] w fun e w' => e = .returned (.int .u64 (numV (tk f r tag)).1) ∧ RR w' D g (numV (tk f r tag)).2.1 (numV (tk f r tag)).2.2 ∧ w.grownBy w' (some g) := by
 have HT := Lib.hid (refTake_any D g f r tag w hs)
 have hby := (tk_byt (f := f) (tag := tag) hs.byt).1
 have hcase := take_tk (f := f) (r := r) (tag := tag)
 generalize tk f r tag = t at HT hby hcase ⊢
 obtain ⟨o, f1, r1⟩ := t
 dsimp only at hby hcase
 clear hs
 have HCS := Lib.hid hcase
 have HBY := Lib.hid hby
 clear hcase hby
 go_enter Tryz.func60, Tryz.ntmps60
 go_wp2_with fail
 refine HT.out.mono ?_
 clear HT
 intro e w1 h
 obtain ⟨A1, c1, rfl, hr1, hA1, hA2, hc1, hc2, hRR, hg⟩ := take_form h
 clear h
 dsimp only at hr1 hc1 hRR ⊢
 obtain ⟨A9, c9, hblk, _⟩ := hRR.2
 have g1 : w1.cell? ⟨g, 1, none⟩ = some (.bool f1) := hblk.cell 1
 have gf : w1.frozen? ⟨g, 1, none⟩ = false := hblk.frozen 1
 have HRR := Lib.hid (And.intro hRR hg)
 clear hblk hRR hg hc1 hc2 hA1 hA2
 rcases HCS.out with ⟨rfl, rfl⟩ | ⟨v, rfl, rfl⟩
 · have HE : Hid (numV ((none : Option (List Int)), true, r1) = (0, true, r1)) := Lib.hid rfl
   clear hr1
   go_wp2_with fail
   have HF := Lib.hid (And.intro HRR.out.1.bad (grownBy_trans HRR.out.2 (blk_set_grown w1 g 1 (.bool true))))
   go_ret
   exact ⟨by rw [HE.out]; rfl, by rw [HE.out]; exact HF.out.1, HF.out.2⟩
 · simp only [Option.getD_some] at hr1 ⊢
   by_cases h8 : v.length = 8
   · have HE : Hid (numV (some v, false, r1) = (numOf v, false, r1)) := Lib.hid (by unfold numV; rw [if_pos]; rfl; exact ⟨rfl, h8⟩)
     have HR := Lib.hid hr1
     have HV := Lib.hid (show Byt v from HBY.out)
     rw [h8]
     have H8 := Lib.hid h8
     clear hr1 h8
     go_wp2_with fail
     go_loopw [6, 7] (fun n i wr => ∃ k : Nat, n = .int .u64 (numOf (v.take k)) ∧ i = .int .i64 k ∧ k ≤ 8 ∧ wr = w1) (fun _ i _ => 8 - (intOf i).toNat)
     case atStart => exact ⟨0, rfl, rfl, by omega, rfl⟩
     case round =>
       obtain ⟨k, rfl, rfl, hk, rfl⟩ := hrel
       by_cases hlt : k < 8
       · obtain ⟨b, off, rfl, hb, hc⟩ := HR.out (by have := H8.out; omega)
         have ck := hc k (by have := H8.out; omega)
         have hx := HV.out.at k
         have hn := numOf_lt HV.out k (by have := H8.out; omega)
         have hn2 : numOf (v.take k) < 72057594037927936 := by
           have h7 : 256 ^ k ≤ 72057594037927936 := Nat.le_trans (Nat.pow_le_pow_right (show 0 < 256 by omega) (show k ≤ 7 by omega)) (by decide)
           have := hn.2
           omega
         have HS := Lib.hid (numOf_snoc (v := v) (k := k) (by have := H8.out; omega))
         have hn0 := hn.1
         obtain ⟨hx0, hx1⟩ := hx
         obtain ⟨e1, e2⟩ := step256 (numOf (v.take k)) (v.getD k 0) hn0 hn2 hx0 hx1
         clear hc hn hb
         generalize numOf (v.take k) = N at *
         generalize v.getD k 0 = bk at *
         go_wp2_with fail
         exact ⟨⟨k + 1, by rw [HS.out], by go_num, by omega, trivial⟩, by simp [intOf]; omega⟩
       · have : k = 8 := by omega
         subst this
         have HT : Hid (v.take 8 = v) := Lib.hid (List.take_of_length_le (by have := H8.out; omega))
         rw [HT.out]
         go_wp2_with fail
         go_ret
         exact ⟨by rw [HE.out]; rfl, by rw [HE.out]; exact HRR.out.1, HRR.out.2⟩
   · have HE : Hid (numV (some v, false, r1) = (0, true, r1)) := Lib.hid (by unfold numV; rw [if_neg]; rintro ⟨_, h⟩; exact h8 h)
     have h8' : ((v.length : Int) != 8) = true := by simp; omega
     clear hr1 h8
     go_wp2_with fail
     have HF := Lib.hid (And.intro HRR.out.1.bad (grownBy_trans HRR.out.2 (blk_set_grown w1 g 1 (.bool true))))
     go_ret
     exact ⟨by rw [HE.out]; rfl, by rw [HE.out]; exact HF.out.1, HF.out.2⟩
end Go.Proofs.YtcjiofhjognklaaGreat.Tlv
