/- A reader's list of attributes: each. -/
import Derived.Test.YtcjiofhjognklaaGreatY23
namespace Go.Proofs.YtcjiofhjognklaaGreat.Tlv
open Go.RowKit
set_option maxRecDepth 100000
set_option linter.unusedVariables false
set_option linter.unusedSimpArgs false
theorem each1_idle (p : Addr) (w : World) :
   CallsD Tryz.prog 143 #[.pointer (some p)] .returning w fun e u' w' => e = .returned (.tuple #[]) ∧ u' = .returning ∧ w' = w := by
 refine callsD_of_wpS Tryz.func143 rfl fun c₀ cs hu => ?_
 apply wpS_seq
 apply wpS_region
 simp [wpOpsS, go_sem, recoverD, hu, Tryz.ntmps143, Exit.thenS]
 refine wpS_cond (t := false) (by simp [Act.eval, Array.replicate]) ?_
 simp only [Bool.false_eq_true, if_false]
 refine wpS_of_wp (wp_skip ?_)
 cases c₀
 simp_all [bodyPostS, results, Tryz.results143]
def EachE (r0 : List Int) (f' : Bool) (r' : List Int) (acc : List At) : Prop :=
 (f' = false ∧ r0 = atsB acc ++ r' ∧ stands r' = false ∧ ∀ a ∈ acc, SmA a) ∨ (f' = true ∧ ∀ l, (∀ a ∈ l, SmA a) → r0 ≠ atsB l)
def restLen (gi : Nat) (w : World) : Nat := match w.cell? ⟨gi, 0, none⟩ with | some (.slice _ n _) => n | _ => 0
theorem restLen_rs {w : World} {D gi : Nat} {f : Bool} {r : List Int} (h : RS w D gi f r) : restLen gi w = r.length := by
 obtain ⟨_, A, c, hb, _⟩ := h
 have := hb.cell 0
 unfold restLen
 rw [this]
 rfl
theorem many_le {r0 r : List Int} {acc : List At} (h : r0 = atsB acc ++ r) (hl : r0.length ≤ 100000000) : acc.length ≤ 100000000 := by
 have := congrArg List.length h
 rw [List.length_append, atsB_len] at this
 omega
set_option maxHeartbeats 8000000 in
theorem eachE_any (D gi Bl n0 n1 : Nat) (r0 : List Int) (w : World) (hs : RS w D gi false r0) (hb : Blk w Bl 23 #[.slice none 0 0]) (hD : D ≤ n0) (hDB : D ≤ Bl) (h01 : n0 ≤ n1) (hn : n1 ≤ w.heap.size) (hne : gi ≠ Bl) :
   Calls Tryz.prog 118 #[.pointer (some ⟨gi, 0, none⟩), .func (.func 151) #[] #[.pointer (some ⟨Bl, 0, none⟩)]] w fun e w' => (∃ v, e = .returned v) ∧ ∃ (f' : Bool) (r' : List Int) (acc : List At) (v : Value), EachE r0 f' r' acc ∧ Blk w' Bl 23 #[v] ∧ YtcjiofhjognklaaGreat.RowK kA w' n1 v acc ∧ RS w' D gi f' r' ∧ CE n0 gi Bl w w' := by
 have hmf : ∀ (fn : Fn) (first cap : Array Value) (w : World), (Instr.makeFunc fn first cap).run Tryz.prog w = .ok (.func fn first cap) w := fun _ _ _ _ => rfl
 have hnf : ∀ W, (binOp BinOp.eql 102 (Value.func (.func 151) #[] #[.pointer (some ⟨Bl, 0, none⟩)]) Value.nilFunc).run Tryz.prog W = .ok (.bool false) W := fun W => rfl
 have hb1 : Below w.heap.size w (w.alloc (.cells #[.pointer (some ⟨gi, 0, none⟩)] 96)) := (Below.refl _ _).alloc (Nat.le_refl _) _
 have hgl := hs.lt
 have hbl := hb.lt
 have HL0 : Hid (r0.length ≤ 100000000) := Lib.hid (by obtain ⟨_, A, c, _, _, _, _, _, h⟩ := hs; exact h)
 have H := Lib.hid (And.intro (hs.on hb1) (And.intro (hb.on hb1) (And.intro (Blk.new w 96 #[.pointer (some ⟨gi, 0, none⟩)]) (CE.bel (n0 := n0) (a := gi) (b := Bl) hb1 (by omega)))))
 clear hs hb hb1
 go_enter_defers Tryz.func118, Tryz.ntmps118
 go_wp2
 go_step3
 go_wp2
 go_step3
 go_wp2
 go_loopw [] (fun wr => ∃ (r : List Int) (acc : List At) (v : Value), Hid (r0 = atsB acc ++ r ∧ ∀ a ∈ acc, SmA a) ∧ Hid (RS wr D gi false r) ∧ Hid (Blk wr Bl 23 #[v] ∧ YtcjiofhjognklaaGreat.RowK kA wr n1 v acc) ∧ Hid (CE n0 gi Bl (w.alloc (.cells #[.pointer (some ⟨gi, 0, none⟩)] 96)) wr)) (fun wr => restLen gi wr)
 case atStart => exact ⟨r0, [], .slice none 0 0, Lib.hid ⟨by simp [atsB], fun a ha => by simp at ha⟩, Lib.hid H.out.1, Lib.hid ⟨H.out.2.1, YtcjiofhjognklaaGreat.nil_row kA _ _⟩, Lib.hid (CE.refl _ _ _ _)⟩
 case round =>
   obtain ⟨r, acc, v, HR0, HS, HI, HC⟩ := hrel
   have hbox := HC.out.kp w.heap.size 96 _ (by decide) (by omega) (by omega) H.out.2.2.1
   have cb := hbox.cell 0
   have HT := Lib.hid (tag_any D gi false r wr HS.out)
   have hzr : w.heap.size ≤ wr.heap.size := by have h := HC.out.size; simp at h; omega
   go_wp2_with fail
   refine HT.out.mono ?_
   clear HT
   rintro e w1 ⟨⟨t, rfl, ht⟩, m, rfl⟩
   have hbm : Below wr.heap.size wr (wr.drewN m) := below_drewN (Below.refl _ _) m
   rcases ht with ⟨rfl, ht⟩ | ⟨htz, -, hst, htv⟩
   · have hns : stands r = false := ht.resolve_left (by simp)
     have HNS := Lib.hid hns
     clear hns ht
     go_wp2_with fail
     refine leaves_cons (f := 143) (args := #[.pointer (some ⟨w.heap.size, 0, none⟩)]) (by simp) (by simp [go_sem]) ?_
     refine (each1_idle _ _).mono ?_
     rintro e u' w'' ⟨rfl, rfl, rfl⟩
     exact ⟨_, results_none rfl _ _ _, ⟨_, rfl⟩, false, r, acc, v, .inl ⟨rfl, HR0.out.1, HNS.out, HR0.out.2⟩, HI.out.1.drewN m, HI.out.2.drewN m, HS.out.on hbm, (H.out.2.2.2.trans HC.out).trans (CE.bel hbm (by omega))⟩
   · have htz' : (t == 0) = false := by simpa using htz
     have htz2 : (t != 0) = true := by simpa using htz
     have HST := Lib.hid (And.intro hst htv)
     have HS2 := Lib.hid (HS.out.on hbm)
     obtain ⟨A, c, hblk, _⟩ := HS2.out.2
     have cg := hblk.cell 0
     have hacl := many_le HR0.out.1 HL0.out
     have HRB := Lib.hid (take1_any D gi Bl n0 n1 r v acc (wr.drewN m) HS2.out (HI.out.1.drewN m) (HI.out.2.drewN m) hD hDB h01 (Nat.le_trans hn hzr) hne (by omega))
     have HML := Lib.hid (restLen_rs HS.out)
     have HBY := Lib.hid HS.out.byt
     have hbox2 := hbox.drewN m
     clear hst htv hblk hacl
     have hstep := step_at HBY.out HST.out.1
     go_wp2_with fail
     refine HRB.out.mono ?_
     clear HRB
     rintro e w2 ⟨rfl, hrs, ⟨v2, hbi, hrow⟩, hch⟩
     have cb2 := (hch.kp w.heap.size 96 _ (by decide) (by omega) (by omega) hbox2).cell 0
     have hC2 := Lib.hid (((H.out.2.2.2.trans HC.out).trans (CE.bel hbm (by omega))).trans hch)
     have hC3 := Lib.hid ((HC.out.trans (CE.bel hbm (by omega))).trans hch)
     have HBI := Lib.hid (And.intro hbi hrow)
     have HRS := Lib.hid hrs
     have HFA := Lib.hid (fail_any D gi (tk false r 3).2.1 (tk false r 3).2.2 w2 hrs)
     obtain ⟨A2, c2, hblk2, _⟩ := hrs.2
     have cg2 := hblk2.cell 0
     have hzz : n0 ≤ w2.heap.size := by have h := hch.size; have h2 : (wr.drewN m).heap.size = wr.heap.size := rfl; omega
     clear hbi hrs hch hblk2 hbox2 cb cg hrow
     generalize mkAt ((tk false r 3).1.getD []) = a at hstep HBI
     generalize okAt ((tk false r 3).1.getD []) = bb at hstep ⊢
     generalize (tk false r 3).2.1 = f' at hstep HRS HFA
     generalize (tk false r 3).2.2 = r' at hstep HRS HFA cg2
     rcases hstep with ⟨rfl, rfl, hr, hlen, hsm⟩ | ⟨hor, hbad⟩
     · have hd : ((r'.length : Int) == r.length) = false := by simp; omega
       have HGO := Lib.hid (And.intro hr hsm)
       clear hr hsm
       go_wp2_with fail
       go_roundw
       case rel => exact ⟨r', acc ++ [a], v2, Lib.hid ⟨by rw [atsB_append, HR0.out.1, HGO.out.1]; simp [atsB], fun x hx => (List.mem_append.1 hx).elim (HR0.out.2 x) fun h => by rw [List.mem_singleton.1 h]; exact HGO.out.2⟩, HRS, Lib.hid ⟨HBI.out.1, HBI.out.2⟩, hC3⟩
       case measure => rw [restLen_rs HRS.out, HML.out]; exact hlen
     · have HNE : Hid (∀ l, (∀ a ∈ l, SmA a) → r0 ≠ atsB l) := Lib.hid fun l hl e => by
         obtain ⟨l', h5, h6⟩ := atsB_prefix acc l r HR0.out.2 hl (HR0.out.1.symm.trans e)
         exact hbad l' (fun x hx => hl x (by rw [h5]; exact List.mem_append_right _ hx)) h6
       clear hbad
       have fin : ∀ (w3 : World), RS w3 D gi true r' → w2.grownBy w3 (some gi) → ∃ (f'' : Bool) (r'' : List Int) (acc' : List At) (v' : Value), EachE r0 f'' r'' acc' ∧ Blk w3 Bl 23 #[v'] ∧ YtcjiofhjognklaaGreat.RowK kA w3 n1 v' acc' ∧ RS w3 D gi f'' r'' ∧ CE n0 gi Bl w w3 := fun w3 h4 h5 =>
         ⟨true, r', acc ++ [a], v2, .inr ⟨rfl, HNE.out⟩, Blk.grown HBI.out.1 h5 (fun e => by injection e with e; exact hne e.symm), RowK.fit HBI.out.2 fun g e => h5.block g (own_at HBI.out.2 e).2.1 (fun e2 => by
           injection e2 with e2
           subst e2
           obtain ⟨_, _, cs, hc⟩ := own_at HBI.out.2 e
           obtain ⟨_, A9, c9, h9, _⟩ := HRS.out
           exact blk_ne hc h9 (by decide) rfl), h4, hC2.out.trans (CE.of h5 hzz)⟩
       have HFIN := Lib.hid fin
       clear fin
       cases bb with
       | false =>
         clear hor
         go_wp2_with fail
         refine HFA.out.mono ?_
         rintro e w3 ⟨⟨vv, rfl⟩, h4, h5⟩
         go_wp2_with fail
         refine leaves_cons (f := 143) (args := #[.pointer (some ⟨w.heap.size, 0, none⟩)]) (by simp) (by simp [go_sem]) ?_
         refine (each1_idle _ _).mono ?_
         rintro e u' w'' ⟨rfl, rfl, rfl⟩
         exact ⟨_, results_none rfl _ _ _, ⟨_, rfl⟩, HFIN.out _ h4 h5⟩
       | true =>
         have hd : ((r'.length : Int) == r.length) = true := by simp at hor; simp; omega
         clear hor
         go_wp2_with fail
         refine HFA.out.mono ?_
         rintro e w3 ⟨⟨vv, rfl⟩, h4, h5⟩
         go_wp2_with fail
         refine leaves_cons (f := 143) (args := #[.pointer (some ⟨w.heap.size, 0, none⟩)]) (by simp) (by simp [go_sem]) ?_
         refine (each1_idle _ _).mono ?_
         rintro e u' w'' ⟨rfl, rfl, rfl⟩
         exact ⟨_, results_none rfl _ _ _, ⟨_, rfl⟩, HFIN.out _ h4 h5⟩
theorem eachE_whole {l : List At} {f' : Bool} {r' : List Int} {acc : List At} (hl : ∀ a ∈ l, SmA a) (h : EachE (atsB l) f' r' acc) : f' = false ∧ r' = [] ∧ acc = l := by
 rcases h with ⟨h1, h2, h3, h4⟩ | ⟨_, h2⟩
 · obtain ⟨l', h5, h6⟩ := atsB_prefix acc l r' h4 hl h2.symm
   cases l' with
   | nil => exact ⟨h1, by rw [h6]; rfl, by rw [h5, List.append_nil]⟩
   | cons a l' =>
     rw [h6, atsB_cons] at h3
     have ha := hl a (by rw [h5]; simp)
     unfold SmA at ha
     have := (stands_put (tag := 3) (xs := valB 1 (bytesOf (sx a.t)) ++ valB 2 (bytesOf (sx a.v))) (r := atsB l') (by decide) (by rw [List.length_append, valB_length, valB_length, bytes_sx, bytes_sx]; omega)).2.1
     unfold atB at h3
     rw [this] at h3
     cases h3
 · exact absurd rfl (h2 l hl)
def ListOut (D g Bl n0 n1 : Nat) (f : Bool) (r : List Int) (tag : Int) (w : World) (e : Ending) (w' : World) : Prop :=
 ∃ (b : Bool) (f' : Bool) (r' : List Int) (acc : List At) (v : Value), e = .returned (.bool b) ∧ Blk w' Bl 23 #[v] ∧ YtcjiofhjognklaaGreat.RowK kA w' n1 v acc ∧ RS w' D g f' r' ∧ CE n0 g Bl w w' ∧
   (b = true → f' = false ∧ tk f r tag = (some (atsB acc), (false, r')) ∧ ∀ a ∈ acc, SmA a) ∧ (∀ l r1, (∀ a ∈ l, SmA a) → tk f r tag = (some (atsB l), (false, r1)) → b = true ∧ acc = l ∧ f' = false ∧ r' = r1)
set_option maxHeartbeats 8000000 in
theorem listE_any (D g Bl n0 n1 : Nat) (f : Bool) (r : List Int) (tag : Int) (w : World) (hs : RS w D g f r) (hb : Blk w Bl 23 #[.slice none 0 0]) (hD : D ≤ n0) (hDB : D ≤ Bl) (h01 : n0 ≤ n1) (hn : n1 ≤ w.heap.size) (hne : g ≠ Bl) (hDg : D ≤ g) :
   Calls Tryz.prog 56 #[.pointer (some ⟨g, 0, none⟩), .int .u8 tag, .func (.func 151) #[] #[.pointer (some ⟨Bl, 0, none⟩)]] w (ListOut D g Bl n0 n1 f r tag w) := by
 have HT := Lib.hid (take_any D g f r tag w hs)
 have hbyt := hs.byt
 have hgl := hs.lt
 have hbl := hb.lt
 have HSO : Hid (∀ v q, tk f r tag = (some v, q) → q = (false, q.2) ∧ v.length ≤ 4194304 ∧ Byt v) := Lib.hid fun v q h => by
   obtain ⟨q1, q2⟩ := q
   obtain ⟨_, h2, _, h4, h5⟩ := tk_some hbyt h
   exact ⟨by rw [h2], h5, fun x hx => hbyt x (by rw [h4]; simp [valB, hx])⟩
 have H := Lib.hid hb
 have HTK : Hid (tk f r tag = tk f r tag) := Lib.hid rfl
 generalize htk : tk f r tag = t at HT HSO
 have HTT := Lib.hid htk
 obtain ⟨v0, f0, rr0⟩ := t
 clear hs hb hbyt htk HTK
 go_enter Tryz.func56, Tryz.ntmps56
 go_wp2_with fail
 refine HT.out.mono ?_
 clear HT
 rintro e w1 ⟨h, hrs, hg⟩
 have hsz1 := hg.size
 have HRS := Lib.hid (And.intro hrs hg)
 have HI1 := Lib.hid (Blk.grown H.out hg (fun e => by injection e with e; exact hne e.symm))
 clear hrs hg
 rcases h with ⟨v, A1, rfl, rfl, hr⟩ | ⟨rfl, rfl⟩
 · obtain ⟨hq, hvl, hvb⟩ := HSO.out v _ rfl
   simp only [Prod.mk.injEq, and_true] at hq
   subst hq
   have hb2 : Below w1.heap.size w1 (w1.alloc (.cells #[.slice A1 v.length v.length, .bool true, .bool false] 160)) := (Below.refl _ _).alloc (Nat.le_refl _) _
   have hin : RS (w1.alloc (.cells #[.slice A1 v.length v.length, .bool true, .bool false] 160)) D w1.heap.size false v :=
     ⟨by omega, A1, v.length, Blk.new w1 160 _, hr.below (hb2.mono (by omega)), hvb, Nat.le_refl _, by omega, by omega⟩
   have HE := Lib.hid (eachE_any D w1.heap.size Bl n0 n1 v _ hin (HI1.out.on hb2) hD hDB h01 (by have := hb2.size; omega) (by omega))
   clear hin hr
   go_wp2_with fail
   refine HE.out.mono ?_
   clear HE
   rintro e w3 ⟨⟨vv, rfl⟩, fe, re, acc, va, her, hbi, hrow, hre, hch⟩
   have HER := Lib.hid her
   have HBI := Lib.hid (And.intro hbi hrow)
   have hrs3 := hch.rs (HRS.out.1.on hb2) (show g ≠ w1.heap.size by omega) hne (by omega) hDB hD
   have HR3 := Lib.hid hrs3
   have hch0 : CE n0 w1.heap.size Bl w1 w3 := (CE.bel hb2 (by omega)).trans hch
   have HC3 : Hid (CE n0 g Bl w w3) := Lib.hid ((CE.of HRS.out.2 (by omega)).trans (hch0.under (Nat.le_refl _) (by omega)))
   have HFA := Lib.hid (fail_any D g false rr0 w3 hrs3)
   have hn03 : n0 ≤ w3.heap.size := by have := hch0.size; omega
   obtain ⟨A4, c4, hblk4, _⟩ := hre.2
   have e0 := hblk4.cell 0
   have e2 := hblk4.cell 2
   obtain ⟨A5, c5, hblk5, _⟩ := hrs3.2
   have g2 := hblk5.cell 2
   clear her hbi hrow hre hch hrs3 hblk4 hblk5 hb2 hch0
   by_cases hgood : fe = false ∧ re = []
   · obtain ⟨rfl, rfl⟩ := hgood
     go_wp2_with fail
     go_ret
     refine ⟨true, false, rr0, acc, va, rfl, HBI.out.1, HBI.out.2, HR3.out, HC3.out, fun _ => ?_, fun l r1 hl hr1 => ?_⟩
     · rcases HER.out with ⟨_, h5, h6, h7⟩ | ⟨h5, _⟩
       · exact ⟨rfl, by rw [HTT.out, h5, List.append_nil], h7⟩
       · cases h5
     · rw [HTT.out] at hr1
       simp only [Prod.mk.injEq, Option.some.injEq] at hr1
       obtain ⟨rfl, -, rfl⟩ := hr1
       exact ⟨rfl, (eachE_whole hl HER.out).2.2, rfl, rfl⟩
   · have HGO := Lib.hid hgood
     have fin : ∀ (w' : World), RS w' D g true rr0 → w3.grownBy w' (some g) → ListOut D g Bl n0 n1 f r tag w (.returned (.bool false)) w' := fun w' h4 h5 =>
       ⟨false, true, rr0, acc, va, rfl, Blk.grown HBI.out.1 h5 (fun e => by injection e with e; exact hne e.symm), RowK.fit HBI.out.2 fun g' e => h5.block g' (own_at HBI.out.2 e).2.1 (fun e2 => by
           injection e2 with e2
           subst e2
           obtain ⟨_, _, cs, hc⟩ := own_at HBI.out.2 e
           obtain ⟨_, A9, c9, h9, _⟩ := HR3.out
           exact blk_ne hc h9 (by decide) rfl), h4, HC3.out.trans (CE.of h5 hn03), fun h => (by cases h), fun l r1 hl hr1 => by
         rw [HTT.out] at hr1
         simp only [Prod.mk.injEq, Option.some.injEq] at hr1
         obtain ⟨rfl, -, rfl⟩ := hr1
         have := eachE_whole hl HER.out
         exact (HGO.out ⟨this.1, this.2.1⟩).elim⟩
     have HFIN := Lib.hid fin
     have hd : fe = true ∨ (fe = false ∧ 0 < re.length) := by
       cases fe with
       | true => exact .inl rfl
       | false =>
         refine .inr ⟨rfl, ?_⟩
         cases re with
         | nil => exact (hgood ⟨rfl, rfl⟩).elim
         | cons x t => simp
     clear hgood fin
     rcases hd with rfl | ⟨rfl, hd⟩
     · go_wp2_with fail
       refine HFA.out.mono ?_
       rintro e w4 ⟨⟨v4, rfl⟩, h4, h5⟩
       obtain ⟨A6, c6, hblk6, _⟩ := h4.2
       have g6 := hblk6.cell 2
       have HF := Lib.hid (HFIN.out _ h4 h5)
       clear hblk6 h4 h5
       go_wp2_with fail
       go_ret
       exact HF.out
     · go_wp2_with fail
       refine HFA.out.mono ?_
       rintro e w4 ⟨⟨v4, rfl⟩, h4, h5⟩
       obtain ⟨A6, c6, hblk6, _⟩ := h4.2
       have g6 := hblk6.cell 2
       have HF := Lib.hid (HFIN.out _ h4 h5)
       clear hblk6 h4 h5
       go_wp2_with fail
       go_ret
       exact HF.out
 · go_wp2_with fail
   go_ret
   exact ⟨false, f0, rr0, [], .slice none 0 0, rfl, HI1.out, YtcjiofhjognklaaGreat.nil_row kA _ _, HRS.out.1, CE.of HRS.out.2 (by omega), fun h => (by cases h), fun l r1 hl h => by rw [HTT.out] at h; simp at h⟩
def TakeOut (D g : Nat) (f : Bool) (r : List Int) (tag : Int) (w : World) (e : Ending) (w' : World) : Prop :=
 ∃ (f' : Bool) (r' : List Int) (acc : List At) (v' : Value), e = .returned v' ∧ YtcjiofhjognklaaGreat.RowK kA w' w.heap.size v' acc ∧ RS w' D g f' r' ∧ w.grownBy w' (some g) ∧
   (f' = false → tk f r tag = (some (atsB acc), (false, r')) ∧ mayL acc = true) ∧ (∀ l r1, (∀ a ∈ l, SmA a) → mayL l = true → tk f r tag = (some (atsB l), (false, r1)) → acc = l ∧ f' = false ∧ r' = r1)
theorem sm_of_may {l : List At} (h : mayL l = true) : ∀ a ∈ l, SmA a := fun a ha => by
 have h1 := mayA_len ((mayL_iff.1 h).2.1 a ha)
 unfold SmA
 omega
theorem ce_grown {n0 g : Nat} {w w1 w' : World} (h1 : Below w.heap.size w w1) (h : CE n0 g n0 w1 w') (hn : n0 = w.heap.size) : w.grownBy w' (some g) :=
 ⟨h.os.trans h1.os, h.tape.trans h1.tape, h.output.trans h1.output, Nat.le_trans h1.size h.size, fun k hk hne => (h.low k (by omega) (fun e => hne (by rw [e])) (by omega)).trans (h1.block k hk)⟩
set_option maxHeartbeats 8000000 in
theorem takeE_any (D g : Nat) (f : Bool) (r : List Int) (tag : Int) (w : World) (hs : RS w D g f r) :
   Calls Tryz.prog 131 #[.pointer (some ⟨g, 0, none⟩), .int .u8 tag] w (TakeOut D g f r tag w) := by
 have hmf : ∀ (fn : Fn) (first cap : Array Value) (w : World), (Instr.makeFunc fn first cap).run Tryz.prog w = .ok (.func fn first cap) w := fun _ _ _ _ => rfl
 have hgl := hs.lt
 have hDg := hs.1
 have hbyt := hs.byt
 have hb1 : Below w.heap.size w (w.alloc (.cells #[.slice none 0 0] 23)) := (Below.refl _ _).alloc (Nat.le_refl _) _
 have HL := Lib.hid (listE_any D g w.heap.size w.heap.size (w.heap.size + 1) f r tag _ (hs.on hb1) (Blk.new w 23 #[.slice none 0 0]) (by omega) (by omega) (by omega) (by simp) (by omega) hDg)
 have HB1 := Lib.hid hb1
 have HV : Hid (∀ v q, tk f r tag = (some v, q) → v.length ≤ 4194304) := Lib.hid fun v q h => by
   obtain ⟨q1, q2⟩ := q
   exact (tk_some hbyt h).2.2.2.2
 clear hs hb1 hbyt
 go_enter Tryz.func131, Tryz.ntmps131
 go_wp2_with fail
 refine HL.out.mono ?_
 clear HL
 rintro e w2 ⟨b, f', r', acc, v, rfl, hbi, hrow, hrs, hch, hT1, hT2⟩
 have hgr := ce_grown HB1.out hch rfl
 have HG := Lib.hid hgr
 have HRS := Lib.hid hrs
 have HFA := Lib.hid (fail_any D g f' r' w2 hrs)
 have HBI := Lib.hid (And.intro hbi hrow)
 have HT := Lib.hid (And.intro hT1 hT2)
 have hv := YtcjiofhjognklaaGreat.RowK.rdv hrow
 have HVV := Lib.hid hv
 obtain ⟨Av, cv, rfl, _, _⟩ := hv
 have c5 : w2.cell? ⟨w.heap.size, 0, none⟩ = some (.slice Av acc.length cv) := hbi.cell 0
 clear hbi hrow hrs hch hT1 hT2 hgr
 cases b with
 | false =>
   go_wp2_with (go_at_call 115; (with_reducible refine HFA.out.mono ?_); rintro e w4 ⟨⟨v4, rfl⟩, h4, h5⟩)
   go_ret
   exact ⟨true, r', [], _, rfl, YtcjiofhjognklaaGreat.nil_row kA _ _, h4, grownBy_trans HG.out h5, fun h => (by cases h), fun l r1 hl hm h => by have := (HT.out.2 l r1 hl h).1; cases this⟩
 | true =>
   obtain ⟨hf, htk, hsm⟩ := HT.out.1 rfl
   subst hf
   have hln := HV.out _ _ htk
   rw [atsB_len] at hln
   have HTK := Lib.hid (And.intro htk hsm)
   have HMA := Lib.hid (mayAttrs_any acc _ w2 HVV.out (fun x hx => by have := hsm x hx; unfold SmA at this; omega) (by omega))
   clear htk hsm hln
   cases hm : mayL acc with
   | false =>
     rw [hm] at HMA
     have HM := Lib.hid hm
     clear hm
     go_wp2_with (first
       | (go_at_call 124; (with_reducible refine HMA.out.mono ?_); clear HMA; rintro e w3 ⟨rfl, hb3⟩; have HFB := Lib.hid (fail_any D g false r' w3 (HRS.out.on hb3)); have HB3 := Lib.hid hb3; clear hb3)
       | (go_at_call 115; (with_reducible refine HFB.out.mono ?_); rintro e w4 ⟨⟨v4, rfl⟩, h4, h5⟩))
     go_ret
     exact ⟨true, r', [], _, rfl, YtcjiofhjognklaaGreat.nil_row kA _ _, h4, grownBy_trans (grownBy_trans HG.out (grownBy_of HB3.out)) h5, fun h => (by cases h), fun l r1 hl hm h => by
       have h6 := (HT.out.2 l r1 hl h).2.1
       rw [← h6, HM.out] at hm
       cases hm⟩
   | true =>
     rw [hm] at HMA
     have HM := Lib.hid hm
     clear hm
     go_wp2_with (go_at_call 124; (with_reducible refine HMA.out.mono ?_); clear HMA c5; rintro e w3 ⟨rfl, hb3⟩; have HB3 := Lib.hid hb3; have c5 : w3.cell? ⟨w.heap.size, 0, none⟩ = some (.slice Av acc.length cv) := (HBI.out.1.on hb3).cell 0; clear hb3)
     go_ret
     exact ⟨false, r', acc, _, rfl, YtcjiofhjognklaaGreat.RowK.low (YtcjiofhjognklaaGreat.RowK.on HBI.out.2 HB3.out) (Nat.le_succ _), HRS.out.on HB3.out, grownBy_trans HG.out (grownBy_of HB3.out), fun _ => ⟨HTK.out.1, HM.out⟩, fun l r1 hl hm h => by
       obtain ⟨_, h7, h8, h9⟩ := HT.out.2 l r1 hl h
       exact ⟨h7, rfl, h9⟩⟩
end Go.Proofs.YtcjiofhjognklaaGreat.Tlv
