/- A reader's list, whatever its values are and whatever takes them. -/
import Derived.Test.YtcjiofhjognklaaGreatY37
import Derived.Test.YtcjiofhjognklaaGreatY24
namespace Go.Proofs.YtcjiofhjognklaaGreat.Tlv
open Go.RowKit
set_option maxRecDepth 100000
set_option linter.deprecated false
set_option linter.unusedVariables false
set_option linter.unusedSimpArgs false
structure CQ (t0 : TypeId) (n0 a b : Nat) (w w' : World) : Prop where
 os : w'.os = w.os
 tape : w'.tape = w.tape
 output : w'.output = w.output
 size : w.heap.size ≤ w'.heap.size
 low : ∀ k, k < n0 → k ≠ a → k ≠ b → w'.heap[k]? = w.heap[k]?
 kp : ∀ g t cs, t ≠ t0 → g ≠ a → g ≠ b → Blk w g t cs → Blk w' g t cs
section
variable {t0 : TypeId} {n0 a b : Nat} {w w1 w2 : World}
theorem CQ.refl (t0 : TypeId) (n0 a b : Nat) (w : World) : CQ t0 n0 a b w w := ⟨rfl, rfl, rfl, Nat.le_refl _, fun _ _ _ _ => rfl, fun _ _ _ _ _ _ h => h⟩
theorem CQ.trans (h : CQ t0 n0 a b w w1) (k : CQ t0 n0 a b w1 w2) : CQ t0 n0 a b w w2 := ⟨k.os.trans h.os, k.tape.trans h.tape, k.output.trans h.output, Nat.le_trans h.size k.size, fun i hi h1 h2 => (k.low i hi h1 h2).trans (h.low i hi h1 h2), fun g t cs h1 h2 h3 hb => k.kp g t cs h1 h2 h3 (h.kp g t cs h1 h2 h3 hb)⟩
theorem CQ.of (h : w.grownBy w1 (some a)) (hn : n0 ≤ w.heap.size) : CQ t0 n0 a b w w1 := ⟨h.os, h.tape, h.output, h.size, fun k hk h1 _ => h.block k (by omega) (fun e => by injection e with e; exact h1 e), fun g t cs _ h2 _ hb => hb.grown h (fun e => by injection e with e; exact h2 e)⟩
theorem CQ.bel (h : Below w.heap.size w w1) (hn : n0 ≤ w.heap.size) : CQ t0 n0 a b w w1 := ⟨h.os, h.tape, h.output, h.size, fun k hk _ _ => h.block k (by omega), fun g t cs _ _ _ hb => hb.on h⟩
theorem CQ.setB (w : World) (i : Nat) (v : Value) : CQ t0 n0 a b w (w.setCell ⟨b, i, none⟩ v) := ⟨rfl, rfl, rfl, by simp, fun k _ _ h2 => Below.heap_setCell w ⟨b, i, none⟩ v k h2, fun g t cs _ _ h3 hb => hb.far (p := ⟨b, i, none⟩) h3 v⟩
theorem CQ.cell (h : CQ t0 n0 a b w w1) {p : Addr} (hp : p.block < n0) (h1 : p.block ≠ a) (h2 : p.block ≠ b) : w1.cell? p = w.cell? p := by
 have := h.low p.block hp h1 h2
 unfold World.cell?
 rw [this]
theorem CQ.rs (h : CQ t0 n0 a b w w1) {D g : Nat} {f : Bool} {r : List Int} (ht : 160 ≠ t0) (hs : RS w D g f r) (h1 : g ≠ a) (h2 : g ≠ b) (h3 : D ≤ a) (h4 : D ≤ b) (h5 : D ≤ n0) : RS w1 D g f r := by
 obtain ⟨h0, A, c, x1, x2, x3⟩ := hs
 refine ⟨h0, A, c, h.kp g 160 _ ht h1 h2 x1, fun hp => ?_, x3⟩
 obtain ⟨bb, off, e, hl, hc⟩ := x2 hp
 exact ⟨bb, off, e, hl, fun j hj => (h.cell (p := ⟨bb, off + j, none⟩) (show bb < n0 by omega) (show bb ≠ a by omega) (show bb ≠ b by omega)).trans (hc j hj)⟩
theorem CQ.under {g : Nat} (h : CQ t0 n0 g b w w1) (hg : w.heap.size ≤ g) (hn : n0 ≤ w.heap.size) : CQ t0 n0 a b w w1 :=
 ⟨h.os, h.tape, h.output, h.size, fun k hk _ h2 => h.low k hk (by omega) h2, fun k t cs h1 _ h3 hb => h.kp k t cs h1 (by have := hb.lt; omega) h3 hb⟩
end
section
variable {α : Type} {K : Kind α} {w w' w1 : World} {base n0 n1 a b : Nat} {v : Value} {l : List α}
theorem CQ.row (h : w.grownBy w1 v.ownBlock) (hr : RowK K w n1 v l) (hn : n0 ≤ n1) (hn2 : n0 ≤ w.heap.size) : CQ K.e n0 a b w w1 := by
 refine ⟨h.os, h.tape, h.output, h.size, fun k hk _ _ => h.block k (by omega) (fun e => ?_), fun g t cs h1 _ _ hb => hb.grown h (fun e => ?_)⟩
 · have := (World.ownsRow.lt hr k e.symm).1
   omega
 · rcases hr.2 with ⟨e2, _⟩ | ⟨g', cap, cur, e2, _, hh, _⟩
   · rw [e2] at e; simp [Value.ownBlock] at e
   · rw [e2] at e
     have e3 : g' = g := by simpa [Value.ownBlock] using e.symm
     subst e3
     unfold Blk at hb
     rw [hh] at hb
     injection hb with hb
     injection hb with _ ht
     exact h1 ht.symm
theorem RowK.fitT (h : RowK K w base v l) (hk : ∀ g, v.ownBlock = some g → w'.heap[g]? = w.heap[g]?) : RowK K w' base v l := by
 refine ⟨h.1, ?_⟩
 rcases h.2 with h0 | ⟨g, cap, cur, hv, hg, hh, rest⟩
 · exact .inl h0
 · exact .inr ⟨g, cap, cur, hv, hg, (hk g (by rw [hv]; rfl)).trans hh, rest⟩
theorem own_atT (h : RowK K w base v l) {g : Nat} (e : v.ownBlock = some g) : base ≤ g ∧ g < w.heap.size ∧ ∃ cs, Blk w g K.e cs := by
 rcases h.2 with ⟨e2, _⟩ | ⟨g', cap, cur, e2, hg, hh, _⟩
 · rw [e2] at e; simp [Value.ownBlock] at e
 · rw [e2] at e
   have e3 : g' = g := by simpa [Value.ownBlock] using e
   subst e3
   exact ⟨hg, (Array.getElem?_eq_some_iff.1 hh).1, cur, hh⟩
theorem RowK.byT {g : Nat} {t : TypeId} {cs : Array Value} (h : RowK K w base v l) (hg : w.grownBy w' (some g)) (hb : Blk w g t cs) (ht : K.e ≠ t) : RowK K w' base v l :=
 RowK.fitT h fun k e => hg.block k (own_atT h e).2.1 (fun e2 => by
   injection e2 with e2
   subst e2
   obtain ⟨_, _, cs', hc⟩ := own_atT h e
   exact blk_ne hc hb ht rfl)
theorem RowK.setT {g i : Nat} {t : TypeId} {cs : Array Value} {u : Value} (h : RowK K w base v l) (hb : Blk w g t cs) (ht : K.e ≠ t) : RowK K (w.setCell ⟨g, i, none⟩ u) base v l :=
 RowK.fitT h fun k e => Below.heap_setCell w ⟨g, i, none⟩ _ k (fun e2 => by
   obtain ⟨_, _, cs', hc⟩ := own_atT h e
   exact blk_ne hc hb ht e2)
theorem RowK.onT (h : RowK K w base v l) (hb : Below w.heap.size w w') : RowK K w' base v l := RowK.fitT h fun g e => hb.block g (own_atT h e).2.1
end
structure Enc (β : Type) where
 b : β → List Int
 g : β → Prop
 can : ∀ a a' x y, g a → g a' → b a ++ x = b a' ++ y → a = a' ∧ x = y
 st : ∀ a x, g a → stands (b a ++ x) = true
section
variable {β : Type} (E : Enc β)
def Enc.all (l : List β) : List Int := l.flatMap E.b
theorem Enc.cons (a : β) (l : List β) : E.all (a :: l) = E.b a ++ E.all l := by unfold Enc.all; rw [List.flatMap_cons]
theorem Enc.app (a l : List β) : E.all (a ++ l) = E.all a ++ E.all l := by unfold Enc.all; rw [List.flatMap_append]
theorem stands_five {r : List Int} (h : stands r = true) : 5 ≤ r.length := by
 have := stands_parts h
 omega
theorem Enc.pre : ∀ (acc l : List β) (r : List Int), (∀ a ∈ acc, E.g a) → (∀ a ∈ l, E.g a) → E.all acc ++ r = E.all l → ∃ l', l = acc ++ l' ∧ r = E.all l'
 | [], l, r, _, _, h => ⟨l, rfl, h⟩
 | a :: acc, [], r, h1, _, h => by
   have h2 := stands_five (E.st a (E.all acc ++ r) (h1 a (List.mem_cons_self ..)))
   rw [E.cons, List.append_assoc] at h
   rw [h] at h2
   simp [Enc.all] at h2
 | a :: acc, a' :: l, r, h1, h2, h => by
   rw [E.cons, E.cons, List.append_assoc] at h
   obtain ⟨e1, e2⟩ := E.can _ _ _ _ (h1 a (List.mem_cons_self ..)) (h2 a' (List.mem_cons_self ..)) h
   obtain ⟨l', e3, e4⟩ := Enc.pre acc l r (fun x hx => h1 x (List.mem_cons_of_mem _ hx)) (fun x hx => h2 x (List.mem_cons_of_mem _ hx)) e2
   exact ⟨l', by rw [e1, e3]; rfl, e4⟩
theorem Enc.many : ∀ (acc : List β) (r r0 : List Int), (∀ a ∈ acc, E.g a) → r0 = E.all acc ++ r → acc.length ≤ r0.length
 | [], _, _, _, _ => Nat.zero_le _
 | a :: acc, r, r0, h1, h => by
   rw [E.cons, List.append_assoc] at h
   have h2 := stands_five (E.st a [] (h1 a (List.mem_cons_self ..)))
   rw [List.append_nil] at h2
   have h3 := Enc.many acc r _ (fun x hx => h1 x (List.mem_cons_of_mem _ hx)) rfl
   have h4 := congrArg List.length h
   rw [List.length_append] at h4
   simp only [List.length_cons]
   omega
def StepG (I : World → List β → Prop) (D gi : Nat) (R : World → World → Prop) (r : List Int) (acc : List β) (W : World) (e : Ending) (W' : World) : Prop :=
 ∃ (b f' : Bool) (r' : List Int) (x : β), e = .returned (.bool b) ∧ RS W' D gi f' r' ∧ I W' (acc ++ [x]) ∧ R W W' ∧ r'.length ≤ r.length ∧
  ((b = true ∧ f' = false ∧ r = E.b x ++ r' ∧ r'.length < r.length ∧ E.g x) ∨ ((b = false ∨ r'.length = r.length ∨ f' = true) ∧ ∀ l, (∀ a ∈ l, E.g a) → r ≠ E.all l))
def EachG (r0 : List Int) (f' : Bool) (r' : List Int) (acc : List β) : Prop :=
 (f' = false ∧ r0 = E.all acc ++ r' ∧ stands r' = false ∧ ∀ a ∈ acc, E.g a) ∨ (f' = true ∧ ∀ l, (∀ a ∈ l, E.g a) → r0 ≠ E.all l)
def SoFar (r0 : List Int) (f : Bool) (r : List Int) (acc : List β) : Prop :=
 (f = false ∧ r0 = E.all acc ++ r ∧ ∀ a ∈ acc, E.g a) ∨ (f = true ∧ ∀ l, (∀ a ∈ l, E.g a) → r0 ≠ E.all l)
end
set_option maxHeartbeats 16000000 in
theorem eachG_any {β : Type} (E : Enc β) (I : World → List β → Prop) (F : Nat) (t0 : TypeId) (D gi Bl n0 : Nat) (r0 : List Int) (w : World) (hs : RS w D gi false r0) (hI : I w []) (hgb : gi < w.heap.size) (hbl : Bl < w.heap.size) (hn0 : n0 ≤ w.heap.size) (ht1 : 96 ≠ t0) (heg : ∀ args w, (callFunc F args).run Tryz.prog w = .ok (.enter F args) w)
   (hstep : ∀ r acc W, w.heap.size ≤ W.heap.size → acc.length ≤ 100000000 → stands r = true → RS W D gi false r → I W acc → Calls Tryz.prog F #[.pointer (some ⟨gi, 0, none⟩), .pointer (some ⟨Bl, 0, none⟩)] W (StepG E I D gi (CQ t0 n0 gi Bl) r acc W))
   (hkeep : ∀ g f r acc W W', RS W D g f r → I W acc → W.grownBy W' (some g) → I W' acc) :
   Calls Tryz.prog 118 #[.pointer (some ⟨gi, 0, none⟩), .func (.func F) #[] #[.pointer (some ⟨Bl, 0, none⟩)]] w fun e w' => (∃ v, e = .returned v) ∧ ∃ (f' : Bool) (r' : List Int) (acc : List β), EachG E r0 f' r' acc ∧ I w' acc ∧ RS w' D gi f' r' ∧ CQ t0 n0 gi Bl w w' := by
 have hmf : ∀ (fn : Fn) (first cap : Array Value) (w : World), (Instr.makeFunc fn first cap).run Tryz.prog w = .ok (.func fn first cap) w := fun _ _ _ _ => rfl
 have hnf : ∀ W, (binOp BinOp.eql 102 (Value.func (.func F) #[] #[.pointer (some ⟨Bl, 0, none⟩)]) Value.nilFunc).run Tryz.prog W = .ok (.bool false) W := fun W => rfl
 have hb1 : Below w.heap.size w (w.alloc (.cells #[.pointer (some ⟨gi, 0, none⟩)] 96)) := (Below.refl _ _).alloc (Nat.le_refl _) _
 have HL0 : Hid (r0.length ≤ 100000000) := Lib.hid (by obtain ⟨_, A, c, _, _, _, _, _, h⟩ := hs; exact h)
 have H := Lib.hid (And.intro (hs.on hb1) (And.intro (hkeep gi false r0 [] w _ hs hI (grownBy_of hb1)) (And.intro (Blk.new w 96 #[.pointer (some ⟨gi, 0, none⟩)]) (CQ.bel (t0 := t0) (n0 := n0) (a := gi) (b := Bl) hb1 hn0))))
 have HST := Lib.hid hstep
 have HKP := Lib.hid hkeep
 clear hs hI hb1 hstep hkeep
 go_enter_defers Tryz.func118, Tryz.ntmps118
 go_wp2
 go_step3
 go_wp2
 go_step3
 go_wp2
 go_loopw [] (fun wr => ∃ (f : Bool) (r : List Int) (acc : List β), Hid (SoFar E r0 f r acc) ∧ Hid (RS wr D gi f r) ∧ Hid (I wr acc) ∧ Hid (CQ t0 n0 gi Bl (w.alloc (.cells #[.pointer (some ⟨gi, 0, none⟩)] 96)) wr)) (fun wr => restLen gi wr)
 case atStart => exact ⟨false, r0, [], Lib.hid (.inl ⟨rfl, by simp [Enc.all], fun a ha => by simp at ha⟩), Lib.hid H.out.1, Lib.hid H.out.2.1, Lib.hid (CQ.refl _ _ _ _ _)⟩
 case round =>
   obtain ⟨f, r, acc, HR0, HS, HI, HC⟩ := hrel
   have hbox := HC.out.kp w.heap.size 96 _ ht1 (by omega) (by omega) H.out.2.2.1
   have cb := hbox.cell 0
   have HT := Lib.hid (tag_any D gi f r wr HS.out)
   have hzr : w.heap.size ≤ wr.heap.size := by have h := HC.out.size; simp at h; omega
   go_wp2_with fail
   refine HT.out.mono ?_
   clear HT
   rintro e w1 ⟨⟨t, rfl, ht⟩, m, rfl⟩
   have hbm : Below wr.heap.size wr (wr.drewN m) := below_drewN (Below.refl _ _) m
   rcases ht with ⟨rfl, ht⟩ | ⟨htz, hff, hst, htv⟩
   · have HNS : Hid (EachG E r0 f r acc) := Lib.hid (by
       rcases HR0.out with ⟨h1, h2, h3⟩ | h
       · refine .inl ⟨h1, h2, ?_, h3⟩
         rw [h1] at ht
         exact ht.resolve_left (by simp)
       · exact .inr h)
     clear ht
     go_wp2_with fail
     refine leaves_cons (f := 143) (args := #[.pointer (some ⟨w.heap.size, 0, none⟩)]) (by simp) (by simp [go_sem]) ?_
     refine (each1_idle _ _).mono ?_
     rintro e u' w'' ⟨rfl, rfl, rfl⟩
     exact ⟨_, results_none rfl _ _ _, ⟨_, rfl⟩, f, r, acc, HNS.out, HKP.out _ _ _ _ _ _ HS.out HI.out (grownBy_of hbm), HS.out.on hbm, (H.out.2.2.2.trans HC.out).trans (CQ.bel hbm (by omega))⟩
   · subst hff
     have htz' : (t == 0) = false := by simpa using htz
     have htz2 : (t != 0) = true := by simpa using htz
     have HSTD := Lib.hid hst
     have HS2 := Lib.hid (HS.out.on hbm)
     obtain ⟨A, c, hblk, _⟩ := HS2.out.2
     have cg := hblk.cell 0
     obtain ⟨hR0, hsmacc⟩ : r0 = E.all acc ++ r ∧ ∀ a ∈ acc, E.g a := by
       rcases HR0.out with ⟨_, h2, h3⟩ | ⟨h, _⟩
       · exact ⟨h2, h3⟩
       · cases h
     have hacl := E.many acc r r0 hsmacc hR0
     have HR1 := Lib.hid (And.intro hR0 hsmacc)
     have HRB := Lib.hid (HST.out r acc (wr.drewN m) hzr (Nat.le_trans hacl HL0.out) hst HS2.out (HKP.out _ _ _ _ _ _ HS.out HI.out (grownBy_of hbm)))
     have HML := Lib.hid (restLen_rs HS.out)
     have hbox2 := hbox.drewN m
     clear hst htv hblk hacl hR0 hsmacc HR0
     go_wp2_with fail
     refine HRB.out.mono ?_
     clear HRB
     rintro e w2 ⟨bb, f', r', a, rfl, hrs, hia, hch, hle, hres⟩
     have cb2 := (hch.kp w.heap.size 96 _ ht1 (by omega) (by omega) hbox2).cell 0
     have hC2 := Lib.hid (((H.out.2.2.2.trans HC.out).trans (CQ.bel hbm (by omega))).trans hch)
     have hC3 := Lib.hid ((HC.out.trans (CQ.bel hbm (by omega))).trans hch)
     have HBI := Lib.hid hia
     have HRS := Lib.hid hrs
     have HFA := Lib.hid (fail_any D gi f' r' w2 hrs)
     obtain ⟨A2, c2, hblk2, _⟩ := hrs.2
     have cg2 := hblk2.cell 0
     have hzz : n0 ≤ w2.heap.size := by have h := hch.size; have h2 : (wr.drewN m).heap.size = wr.heap.size := rfl; omega
     clear hia hrs hch hblk2 hbox2 cb cg
     rcases hres with ⟨rfl, rfl, hr, hlen, hsm⟩ | ⟨hor, hbad⟩
     · have hd : ((r'.length : Int) == r.length) = false := by simp; omega
       have HGO := Lib.hid (And.intro hr hsm)
       clear hr hsm
       go_wp2_with fail
       go_roundw
       case rel => exact ⟨false, r', acc ++ [a], Lib.hid (.inl ⟨rfl, by rw [E.app, HR1.out.1, HGO.out.1]; simp [Enc.all], fun x hx => (List.mem_append.1 hx).elim (HR1.out.2 x) fun h => by rw [List.mem_singleton.1 h]; exact HGO.out.2⟩), HRS, HBI, hC3⟩
       case measure => rw [restLen_rs HRS.out, HML.out]; exact hlen
     · have HNE : Hid (∀ l, (∀ a ∈ l, E.g a) → r0 ≠ E.all l) := Lib.hid fun l hl e => by
         obtain ⟨l', h5, h6⟩ := E.pre acc l r HR1.out.2 hl (HR1.out.1.symm.trans e)
         exact hbad l' (fun x hx => hl x (by rw [h5]; exact List.mem_append_right _ hx)) h6
       clear hbad
       have fin : ∀ (w3 : World), RS w3 D gi true r' → w2.grownBy w3 (some gi) → ∃ (f'' : Bool) (r'' : List Int) (acc' : List β), EachG E r0 f'' r'' acc' ∧ I w3 acc' ∧ RS w3 D gi f'' r'' ∧ CQ t0 n0 gi Bl w w3 := fun w3 h4 h5 =>
         ⟨true, r', acc ++ [a], .inr ⟨rfl, HNE.out⟩, HKP.out _ _ _ _ _ _ HRS.out HBI.out h5, h4, hC2.out.trans (CQ.of h5 hzz)⟩
       have HFIN := Lib.hid fin
       clear fin
       cases bb with
       | false =>
         clear hor hle
         go_wp2_with fail
         refine HFA.out.mono ?_
         rintro e w3 ⟨⟨vv, rfl⟩, h4, h5⟩
         go_wp2_with fail
         refine leaves_cons (f := 143) (args := #[.pointer (some ⟨w.heap.size, 0, none⟩)]) (by simp) (by simp [go_sem]) ?_
         refine (each1_idle _ _).mono ?_
         rintro e u' w'' ⟨rfl, rfl, rfl⟩
         exact ⟨_, results_none rfl _ _ _, ⟨_, rfl⟩, HFIN.out _ h4 h5⟩
       | true =>
         by_cases hle2 : r'.length = r.length
         · have hd : ((r'.length : Int) == r.length) = true := by simp; omega
           clear hor hle hle2
           go_wp2_with fail
           refine HFA.out.mono ?_
           rintro e w3 ⟨⟨vv, rfl⟩, h4, h5⟩
           go_wp2_with fail
           refine leaves_cons (f := 143) (args := #[.pointer (some ⟨w.heap.size, 0, none⟩)]) (by simp) (by simp [go_sem]) ?_
           refine (each1_idle _ _).mono ?_
           rintro e u' w'' ⟨rfl, rfl, rfl⟩
           exact ⟨_, results_none rfl _ _ _, ⟨_, rfl⟩, HFIN.out _ h4 h5⟩
         · obtain rfl : f' = true := by
             rcases hor with h | h | h
             · cases h
             · exact absurd h hle2
             · exact h
           have hd : ((r'.length : Int) == r.length) = false := by simp; omega
           have HLT : Hid (r'.length < r.length) := Lib.hid (by omega)
           clear hor hle hle2
           go_wp2_with fail
           go_roundw
           case rel => exact ⟨true, r', acc ++ [a], Lib.hid (.inr ⟨rfl, HNE.out⟩), HRS, HBI, hC3⟩
           case measure => rw [restLen_rs HRS.out, HML.out]; exact HLT.out
theorem eachG_whole {β : Type} (E : Enc β) {l : List β} {f' : Bool} {r' : List Int} {acc : List β} (hl : ∀ a ∈ l, E.g a) (h : EachG E (E.all l) f' r' acc) : f' = false ∧ r' = [] ∧ acc = l := by
 rcases h with ⟨h1, h2, h3, h4⟩ | ⟨_, h2⟩
 · obtain ⟨l', h5, h6⟩ := E.pre acc l r' h4 hl h2.symm
   cases l' with
   | nil => exact ⟨h1, by rw [h6]; rfl, by rw [h5, List.append_nil]⟩
   | cons a l' =>
     rw [h6, E.cons, E.st a _ (hl a (by rw [h5]; simp))] at h3
     cases h3
 · exact absurd rfl (h2 l hl)
def SmG {β : Type} (E : Enc β) (l : List β) : Prop := (∀ a ∈ l, E.g a) ∧ (E.all l).length ≤ 4194304
def ListG {β : Type} (E : Enc β) (I : World → List β → Prop) (t0 : TypeId) (D g Bl n0 : Nat) (f : Bool) (r : List Int) (tag : Int) (w : World) (e : Ending) (w' : World) : Prop :=
 ∃ (f' : Bool) (r' : List Int) (acc : List β), e = .returned (.bool (!f')) ∧ I w' acc ∧ RS w' D g f' r' ∧ CQ t0 n0 g Bl w w' ∧ Took (fun l => valB tag (E.all l)) (SmG E) f r acc f' r'
set_option maxHeartbeats 16000000 in
theorem listG_any {β : Type} (E : Enc β) (I : World → List β → Prop) (F : Nat) (t0 : TypeId) (D g Bl n0 : Nat) (f : Bool) (r : List Int) (tag : Int) (w : World) (htag : tag ≠ 0) (hs : RS w D g f r) (hI : I w []) (hD : D ≤ n0) (hDB : D ≤ Bl) (hDg : D ≤ g) (hne : g ≠ Bl) (hbl : Bl < w.heap.size) (hn0 : n0 ≤ w.heap.size) (ht1 : 96 ≠ t0) (ht2 : 160 ≠ t0) (heg : ∀ args w, (callFunc F args).run Tryz.prog w = .ok (.enter F args) w)
   (hstep : ∀ gi r acc W, w.heap.size ≤ gi → w.heap.size ≤ W.heap.size → acc.length ≤ 100000000 → stands r = true → RS W D gi false r → I W acc → Calls Tryz.prog F #[.pointer (some ⟨gi, 0, none⟩), .pointer (some ⟨Bl, 0, none⟩)] W (StepG E I D gi (CQ t0 n0 gi Bl) r acc W))
   (hkeep : ∀ g f r acc W W', RS W D g f r → I W acc → W.grownBy W' (some g) → I W' acc) :
   Calls Tryz.prog 56 #[.pointer (some ⟨g, 0, none⟩), .int .u8 tag, .func (.func F) #[] #[.pointer (some ⟨Bl, 0, none⟩)]] w (ListG E I t0 D g Bl n0 f r tag w) := by
 have HT := Lib.hid (take_any D g f r tag w hs)
 have hbyt := hs.byt
 have hgl := hs.lt
 have HTOOK := Lib.hid (took_bytes (f := f) (r := r) hbyt htag)
 have HSO : Hid (∀ v q, tk f r tag = (some v, q) → q = (false, q.2) ∧ v.length ≤ 4194304 ∧ Byt v) := Lib.hid fun v q h => by
   obtain ⟨q1, q2⟩ := q
   obtain ⟨_, h2, _, h4, h5⟩ := tk_some hbyt h
   exact ⟨by rw [h2], h5, fun x hx => hbyt x (by rw [h4]; simp [valB, hx])⟩
 have H := Lib.hid (And.intro hs hI)
 have HBYT := Lib.hid hbyt
 generalize htk : tk f r tag = t at HT HSO HTOOK
 have HTT := Lib.hid htk
 obtain ⟨v0, f0, rr0⟩ := t
 have HST := Lib.hid hstep
 have HKP := Lib.hid hkeep
 clear hs hI hbyt htk hstep hkeep
 go_enter Tryz.func56, Tryz.ntmps56
 go_wp2_with fail
 refine HT.out.mono ?_
 clear HT
 rintro e w1 ⟨h, hrs, hg⟩
 have hsz1 := hg.size
 have HRS := Lib.hid (And.intro hrs hg)
 have HI1 := Lib.hid (HKP.out _ _ _ _ _ _ H.out.1 H.out.2 hg)
 clear hrs hg
 rcases h with ⟨v, A1, rfl, rfl, hr⟩ | ⟨rfl, rfl⟩
 · obtain ⟨hq, hvl, hvb⟩ := HSO.out v _ rfl
   simp only [Prod.mk.injEq, and_true] at hq
   subst hq
   have hb2 : Below w1.heap.size w1 (w1.alloc (.cells #[.slice A1 v.length v.length, .bool true, .bool false] 160)) := (Below.refl _ _).alloc (Nat.le_refl _) _
   have hin : RS (w1.alloc (.cells #[.slice A1 v.length v.length, .bool true, .bool false] 160)) D w1.heap.size false v :=
     ⟨by omega, A1, v.length, Blk.new w1 160 _, hr.below (hb2.mono (by omega)), hvb, Nat.le_refl _, by omega, by omega⟩
   have hz2 := hin.lt
   have HE := Lib.hid (eachG_any E I F t0 D w1.heap.size Bl n0 v _ hin (HKP.out _ _ _ _ _ _ HRS.out.1 HI1.out (grownBy_of hb2)) hz2 (by omega) (by omega) ht1 heg (fun r acc W h1 h2 h3 h4 h5 => HST.out _ r acc W hsz1 (by omega) h2 h3 h4 h5) HKP.out)
   have HZ2 := Lib.hid hz2
   clear hin hr hz2
   go_wp2_with fail
   refine HE.out.mono ?_
   clear HE
   rintro e w3 ⟨⟨vv, rfl⟩, fe, re, acc, her, hia, hre, hch⟩
   have HER := Lib.hid her
   have HBI := Lib.hid hia
   have hrs3 := hch.rs ht2 (HRS.out.1.on hb2) (show g ≠ w1.heap.size by omega) hne (by omega) hDB hD
   have HR3 := Lib.hid hrs3
   have hch0 : CQ t0 n0 w1.heap.size Bl w1 w3 := (CQ.bel hb2 (by omega)).trans hch
   have HC3 : Hid (CQ t0 n0 g Bl w w3) := Lib.hid ((CQ.of HRS.out.2 (by omega)).trans (hch0.under (Nat.le_refl _) (by omega)))
   have HFA := Lib.hid (fail_any D g false rr0 w3 hrs3)
   have hn03 : n0 ≤ w3.heap.size := by have := hch0.size; omega
   obtain ⟨A4, c4, hblk4, _⟩ := hre.2
   have e0 := hblk4.cell 0
   have e2 := hblk4.cell 2
   obtain ⟨A5, c5, hblk5, _⟩ := hrs3.2
   have g2 := hblk5.cell 2
   have HTK1 : Hid (f = false ∧ r = valB tag v ++ rr0) := Lib.hid (by obtain ⟨h1, h2, _⟩ := HTOOK.out.1 rfl; exact ⟨h1, h2⟩)
   clear her hia hre hch hrs3 hblk4 hblk5 hb2 hch0
   by_cases hgood : fe = false ∧ re = []
   · obtain ⟨rfl, rfl⟩ := hgood
     go_wp2_with fail
     go_ret
     refine ⟨false, rr0, acc, rfl, HBI.out, HR3.out, HC3.out, fun _ => ?_, fun h0 l r1 hl hr1 => ?_⟩
     · rcases HER.out with ⟨_, h5, h6, h7⟩ | ⟨h5, _⟩
       · rw [List.append_nil] at h5
         refine ⟨HTK1.out.1, by rw [HTK1.out.2, h5], h7, by rw [← h5]; exact hvl⟩
       · cases h5
     · have h9 := hr1
       rw [HTK1.out.2] at h9
       obtain ⟨h8, h10⟩ := valB_cancel htag hvl hl.2 h9
       subst h8
       exact ⟨(eachG_whole E hl.1 HER.out).2.2, rfl, h10⟩
   · have HGO := Lib.hid hgood
     have fin : ∀ (w' : World), RS w' D g true rr0 → w3.grownBy w' (some g) → ListG E I t0 D g Bl n0 f r tag w (.returned (.bool false)) w' := fun w' h4 h5 =>
       ⟨true, rr0, acc, rfl, HKP.out _ _ _ _ _ _ HR3.out HBI.out h5, h4, HC3.out.trans (CQ.of h5 hn03), fun h => (by cases h), fun h0 l r1 hl hr1 => by
         have h9 := hr1
         rw [HTK1.out.2] at h9
         obtain ⟨h8, h10⟩ := valB_cancel htag hvl hl.2 h9
         subst h8
         have := eachG_whole E hl.1 HER.out
         exact (HGO.out ⟨this.1, this.2.1⟩).elim⟩
     have HFIN := Lib.hid fin
     have hd : fe = true ∨ (fe = false ∧ 0 < re.length) := by
       cases fe with
       | true => exact .inl rfl
       | false =>
         refine .inr ⟨rfl, ?_⟩
         cases re with
         | nil => exact (hgood ⟨rfl, rfl⟩).elim
         | cons x t => simp
     clear hgood fin
     rcases hd with rfl | ⟨rfl, hd⟩
     · go_wp2_with fail
       refine HFA.out.mono ?_
       rintro e w4 ⟨⟨v4, rfl⟩, h4, h5⟩
       obtain ⟨A6, c6, hblk6, _⟩ := h4.2
       have g6 := hblk6.cell 2
       have HF := Lib.hid (HFIN.out _ h4 h5)
       clear hblk6 h4 h5
       go_wp2_with fail
       go_ret
       exact HF.out
     · go_wp2_with fail
       refine HFA.out.mono ?_
       rintro e w4 ⟨⟨v4, rfl⟩, h4, h5⟩
       obtain ⟨A6, c6, hblk6, _⟩ := h4.2
       have g6 := hblk6.cell 2
       have HF := Lib.hid (HFIN.out _ h4 h5)
       clear hblk6 h4 h5
       go_wp2_with fail
       go_ret
       exact HF.out
 · have HF0 : Hid (f0 = true) := Lib.hid (tk_none HTT.out).1
   go_wp2_with fail
   go_ret
   refine ⟨f0, rr0, [], by rw [HF0.out]; rfl, HI1.out, HRS.out.1, CQ.of HRS.out.2 (by omega), fun h => (by rw [HF0.out] at h; cases h), fun h0 l r1 hl h => ?_⟩
   subst h0 h
   have := HTT.out
   rw [tk_put htag hl.2] at this
   cases this
end Go.Proofs.YtcjiofhjognklaaGreat.Tlv
