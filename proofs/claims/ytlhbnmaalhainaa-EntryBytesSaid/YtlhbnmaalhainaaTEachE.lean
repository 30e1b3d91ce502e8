/- A reader's list of attributes: each. -/
import Derived.Test.YtlhbnmaalhainaaTTake1
namespace Go.Proofs.Ytlhbnmaalhainaa.Tlv
open Go.RowKit
set_option maxRecDepth 100000
set_option linter.unusedVariables false
set_option linter.unusedSimpArgs false

theorem each1_idle (p : Addr) (w : World) :
    CallsD Try.prog 91 #[.pointer (some p)] .returning w fun e u' w' => e = .returned (.tuple #[]) ∧ u' = .returning ∧ w' = w := by
  refine callsD_of_wpS Try.func91 rfl fun c₀ cs hu => ?_
  apply wpS_seq
  apply wpS_region
  simp [wpOpsS, go_sem, recoverD, hu, Try.ntmps91, Exit.thenS]
  refine wpS_cond (t := false) (by simp [Act.eval, Array.replicate]) ?_
  simp only [Bool.false_eq_true, if_false]
  refine wpS_of_wp (wp_skip ?_)
  cases c₀
  simp_all [bodyPostS, results, Try.results91]
/-- What each leaves. -/
def EachE (r0 : List Int) (f' : Bool) (r' : List Int) (acc : List At) : Prop :=
  (f' = false ∧ r0 = atsB acc ++ r' ∧ stands r' = false ∧ ∀ a ∈ acc, SmA a) ∨ (f' = true ∧ ∀ l, (∀ a ∈ l, SmA a) → r0 ≠ atsB l)
/-- How many bytes are left. -/
def restLen (gi : Nat) (w : World) : Nat := match w.cell? ⟨gi, 0, none⟩ with | some (.slice _ n _) => n | _ => 0
theorem restLen_rs {w : World} {D gi : Nat} {f : Bool} {r : List Int} (h : RS w D gi f r) : restLen gi w = r.length := by
  obtain ⟨_, A, c, hb, _⟩ := h
  have := hb.cell 0
  unfold restLen
  rw [this]
  rfl
theorem many_le {r0 r : List Int} {acc : List At} (h : r0 = atsB acc ++ r) (hl : r0.length ≤ 100000000) : acc.length ≤ 100000000 := by
  have := congrArg List.length h
  rw [List.length_append, atsB_len] at this
  omega
set_option maxHeartbeats 8000000 in
theorem eachE_any (D gi Bl n0 n1 : Nat) (r0 : List Int) (w : World) (hs : RS w D gi false r0) (hb : Blk w Bl 22 #[.slice none 0 0]) (hD : D ≤ n0) (hDB : D ≤ Bl) (h01 : n0 ≤ n1) (hn : n1 ≤ w.heap.size) (hne : gi ≠ Bl) :
    Calls Try.prog 77 #[.pointer (some ⟨gi, 0, none⟩), .func (.func 56) #[] #[.pointer (some ⟨Bl, 0, none⟩)]] w fun e w' => (∃ v, e = .returned v) ∧ ∃ (f' : Bool) (r' : List Int) (acc : List At) (v : Value), EachE r0 f' r' acc ∧ Blk w' Bl 22 #[v] ∧ Ytlhbnmaalhainaa.RowK kA w' n1 v acc ∧ RS w' D gi f' r' ∧ CE n0 gi Bl w w' := by
  have hmf : ∀ (fn : Fn) (first cap : Array Value) (w : World), (Instr.makeFunc fn first cap).run Try.prog w = .ok (.func fn first cap) w := fun _ _ _ _ => rfl
  have hnf : ∀ W, (binOp BinOp.eql 82 (Value.func (.func 56) #[] #[.pointer (some ⟨Bl, 0, none⟩)]) Value.nilFunc).run Try.prog W = .ok (.bool false) W := fun W => rfl
  have hb1 : Below w.heap.size w (w.alloc (.cells #[.pointer (some ⟨gi, 0, none⟩)] 49)) := (Below.refl _ _).alloc (Nat.le_refl _) _
  have hgl := hs.lt
  have hbl := hb.lt
  have HL0 : Hid (r0.length ≤ 100000000) := Lib.hid (by obtain ⟨_, A, c, _, _, _, _, _, h⟩ := hs; exact h)
  have H := Lib.hid (And.intro (hs.on hb1) (And.intro (hb.on hb1) (And.intro (Blk.new w 49 #[.pointer (some ⟨gi, 0, none⟩)]) (CE.bel (n0 := n0) (a := gi) (b := Bl) hb1 (by omega)))))
  clear hs hb hb1
  go_enter_defers Try.func77, Try.ntmps77
  go_wp2
  go_step3
  go_wp2
  go_step3
  go_wp2
  go_loopw [] (fun wr => ∃ (r : List Int) (acc : List At) (v : Value), Hid (r0 = atsB acc ++ r ∧ ∀ a ∈ acc, SmA a) ∧ Hid (RS wr D gi false r) ∧ Hid (Blk wr Bl 22 #[v] ∧ Ytlhbnmaalhainaa.RowK kA wr n1 v acc) ∧ Hid (CE n0 gi Bl (w.alloc (.cells #[.pointer (some ⟨gi, 0, none⟩)] 49)) wr)) (fun wr => restLen gi wr)
  case atStart => exact ⟨r0, [], .slice none 0 0, Lib.hid ⟨by simp [atsB], fun a ha => by simp at ha⟩, Lib.hid H.out.1, Lib.hid ⟨H.out.2.1, Ytlhbnmaalhainaa.nil_row kA _ _⟩, Lib.hid (CE.refl _ _ _ _)⟩
  case round =>
    obtain ⟨r, acc, v, HR0, HS, HI, HC⟩ := hrel
    have hbox := HC.out.kp w.heap.size 49 _ (by decide) (by omega) (by omega) H.out.2.2.1
    have cb := hbox.cell 0
    have HT := Lib.hid (tag_any D gi false r wr HS.out)
    have hzr : w.heap.size ≤ wr.heap.size := by have h := HC.out.size; simp at h; omega
    go_wp2_with fail
    refine HT.out.mono ?_
    clear HT
    rintro e w1 ⟨⟨t, rfl, ht⟩, m, rfl⟩
    have hbm : Below wr.heap.size wr (wr.drewN m) := below_drewN (Below.refl _ _) m
    rcases ht with ⟨rfl, ht⟩ | ⟨htz, -, hst, htv⟩
    · have hns : stands r = false := ht.resolve_left (by simp)
      have HNS := Lib.hid hns
      clear hns ht
      go_wp2_with fail
      refine leaves_cons (f := 91) (args := #[.pointer (some ⟨w.heap.size, 0, none⟩)]) (by simp) (by simp [go_sem]) ?_
      refine (each1_idle _ _).mono ?_
      rintro e u' w'' ⟨rfl, rfl, rfl⟩
      exact ⟨_, results_none rfl _ _ _, ⟨_, rfl⟩, false, r, acc, v, .inl ⟨rfl, HR0.out.1, HNS.out, HR0.out.2⟩, HI.out.1.drewN m, HI.out.2.drewN m, HS.out.on hbm, (H.out.2.2.2.trans HC.out).trans (CE.bel hbm (by omega))⟩
    · have htz' : (t == 0) = false := by simpa using htz
      have htz2 : (t != 0) = true := by simpa using htz
      have HST := Lib.hid (And.intro hst htv)
      have HS2 := Lib.hid (HS.out.on hbm)
      obtain ⟨A, c, hblk, _⟩ := HS2.out.2
      have cg := hblk.cell 0
      have hacl := many_le HR0.out.1 HL0.out
      have HRB := Lib.hid (take1_any D gi Bl n0 n1 r v acc (wr.drewN m) HS2.out (HI.out.1.drewN m) (HI.out.2.drewN m) hD hDB h01 (Nat.le_trans hn hzr) hne (by omega))
      have HML := Lib.hid (restLen_rs HS.out)
      have HBY := Lib.hid HS.out.byt
      have hbox2 := hbox.drewN m
      clear hst htv hblk hacl
      have hstep := step_at HBY.out HST.out.1
      go_wp2_with fail
      refine HRB.out.mono ?_
      clear HRB
      rintro e w2 ⟨rfl, hrs, ⟨v2, hbi, hrow⟩, hch⟩
      have cb2 := (hch.kp w.heap.size 49 _ (by decide) (by omega) (by omega) hbox2).cell 0
      have hC2 := Lib.hid (((H.out.2.2.2.trans HC.out).trans (CE.bel hbm (by omega))).trans hch)
      have hC3 := Lib.hid ((HC.out.trans (CE.bel hbm (by omega))).trans hch)
      have HBI := Lib.hid (And.intro hbi hrow)
      have HRS := Lib.hid hrs
      have HFA := Lib.hid (fail_any D gi (tk false r 3).2.1 (tk false r 3).2.2 w2 hrs)
      obtain ⟨A2, c2, hblk2, _⟩ := hrs.2
      have cg2 := hblk2.cell 0
      have hzz : n0 ≤ w2.heap.size := by have h := hch.size; have h2 : (wr.drewN m).heap.size = wr.heap.size := rfl; omega
      clear hbi hrs hch hblk2 hbox2 cb cg hrow
      generalize mkAt ((tk false r 3).1.getD []) = a at hstep HBI
      generalize okAt ((tk false r 3).1.getD []) = bb at hstep ⊢
      generalize (tk false r 3).2.1 = f' at hstep HRS HFA
      generalize (tk false r 3).2.2 = r' at hstep HRS HFA cg2
      rcases hstep with ⟨rfl, rfl, hr, hlen, hsm⟩ | ⟨hor, hbad⟩
      · have hd : ((r'.length : Int) == r.length) = false := by simp; omega
        have HGO := Lib.hid (And.intro hr hsm)
        clear hr hsm
        go_wp2_with fail
        go_roundw
        case rel => exact ⟨r', acc ++ [a], v2, Lib.hid ⟨by rw [atsB_append, HR0.out.1, HGO.out.1]; simp [atsB], fun x hx => (List.mem_append.1 hx).elim (HR0.out.2 x) fun h => by rw [List.mem_singleton.1 h]; exact HGO.out.2⟩, HRS, Lib.hid ⟨HBI.out.1, HBI.out.2⟩, hC3⟩
        case measure => rw [restLen_rs HRS.out, HML.out]; exact hlen
      · have HNE : Hid (∀ l, (∀ a ∈ l, SmA a) → r0 ≠ atsB l) := Lib.hid fun l hl e => by
          obtain ⟨l', h5, h6⟩ := atsB_prefix acc l r HR0.out.2 hl (HR0.out.1.symm.trans e)
          exact hbad l' (fun x hx => hl x (by rw [h5]; exact List.mem_append_right _ hx)) h6
        clear hbad
        have fin : ∀ (w3 : World), RS w3 D gi true r' → w2.grownBy w3 (some gi) → ∃ (f'' : Bool) (r'' : List Int) (acc' : List At) (v' : Value), EachE r0 f'' r'' acc' ∧ Blk w3 Bl 22 #[v'] ∧ Ytlhbnmaalhainaa.RowK kA w3 n1 v' acc' ∧ RS w3 D gi f'' r'' ∧ CE n0 gi Bl w w3 := fun w3 h4 h5 =>
          ⟨true, r', acc ++ [a], v2, .inr ⟨rfl, HNE.out⟩, Blk.grown HBI.out.1 h5 (fun e => by injection e with e; exact hne e.symm), RowK.fit HBI.out.2 fun g e => h5.block g (own_at HBI.out.2 e).2.1 (fun e2 => by
            injection e2 with e2
            subst e2
            obtain ⟨_, _, cs, hc⟩ := own_at HBI.out.2 e
            obtain ⟨_, A9, c9, h9, _⟩ := HRS.out
            exact blk_ne hc h9 (by decide) rfl), h4, hC2.out.trans (CE.of h5 hzz)⟩
        have HFIN := Lib.hid fin
        clear fin
        cases bb with
        | false =>
          clear hor
          go_wp2_with fail
          refine HFA.out.mono ?_
          rintro e w3 ⟨⟨vv, rfl⟩, h4, h5⟩
          go_wp2_with fail
          refine leaves_cons (f := 91) (args := #[.pointer (some ⟨w.heap.size, 0, none⟩)]) (by simp) (by simp [go_sem]) ?_
          refine (each1_idle _ _).mono ?_
          rintro e u' w'' ⟨rfl, rfl, rfl⟩
          exact ⟨_, results_none rfl _ _ _, ⟨_, rfl⟩, HFIN.out _ h4 h5⟩
        | true =>
          have hd : ((r'.length : Int) == r.length) = true := by simp at hor; simp; omega
          clear hor
          go_wp2_with fail
          refine HFA.out.mono ?_
          rintro e w3 ⟨⟨vv, rfl⟩, h4, h5⟩
          go_wp2_with fail
          refine leaves_cons (f := 91) (args := #[.pointer (some ⟨w.heap.size, 0, none⟩)]) (by simp) (by simp [go_sem]) ?_
          refine (each1_idle _ _).mono ?_
          rintro e u' w'' ⟨rfl, rfl, rfl⟩
          exact ⟨_, results_none rfl _ _ _, ⟨_, rfl⟩, HFIN.out _ h4 h5⟩
end Go.Proofs.Ytlhbnmaalhainaa.Tlv
