/- Ahead of the law on bytes. -/
import Derived.Test.YtlhbnmaalhainaaTRefO
import Derived.Test.YtlhbnmaalhainaaTMeanA
import Derived.Test.YtlhbnmaalhainaaTRefP
namespace Go.Proofs.Ytlhbnmaalhainaa.Tlv
open Go.RowKit Go.Lib Go.Sort
set_option maxRecDepth 100000
set_option linter.unusedVariables false
set_option linter.unusedSimpArgs false

def TakeOutB (D g : Nat) (f : Bool) (r : List Int) (tag : Int) (w : World) (e : Ending) (w' : World) : Prop :=
  ∃ (f' : Bool) (r' : List Int) (acc : List At) (v' : Value), e = .returned v' ∧ Ytlhbnmaalhainaa.RowK kA w' w.heap.size v' acc ∧ RS w' D g f' r' ∧ w.grownBy w' (some g) ∧
    (f' = true → acc = []) ∧ (f' = false → tk f r tag = (some (atsB acc), (false, r')) ∧ mayL acc = true) ∧ (∀ l r1, (∀ a ∈ l, SmA a) → mayL l = true → tk f r tag = (some (atsB l), (false, r1)) → acc = l ∧ f' = false ∧ r' = r1)
set_option maxHeartbeats 8000000 in
theorem takeB_any (D g : Nat) (f : Bool) (r : List Int) (tag : Int) (w : World) (hs : RS w D g f r) :
    Calls Try.prog 28 #[.pointer (some ⟨g, 0, none⟩), .int .u8 tag] w (TakeOutB D g f r tag w) := by
  have hmf : ∀ (fn : Fn) (first cap : Array Value) (w : World), (Instr.makeFunc fn first cap).run Try.prog w = .ok (.func fn first cap) w := fun _ _ _ _ => rfl
  have hgl := hs.lt
  have hDg := hs.1
  have hbyt := hs.byt
  have hb1 : Below w.heap.size w (w.alloc (.cells #[.slice none 0 0] 22)) := (Below.refl _ _).alloc (Nat.le_refl _) _
  have HL := Lib.hid (listE_any D g w.heap.size w.heap.size (w.heap.size + 1) f r tag _ (hs.on hb1) (Blk.new w 22 #[.slice none 0 0]) (by omega) (by omega) (by omega) (by simp) (by omega) hDg)
  have HB1 := Lib.hid hb1
  have HV : Hid (∀ v q, tk f r tag = (some v, q) → v.length ≤ 4194304) := Lib.hid fun v q h => by
    obtain ⟨q1, q2⟩ := q
    exact (tk_some hbyt h).2.2.2.2
  clear hs hb1 hbyt
  go_enter Try.func28, Try.ntmps28
  go_wp2_with fail
  refine HL.out.mono ?_
  clear HL
  rintro e w2 ⟨b, f', r', acc, v, rfl, hbi, hrow, hrs, hch, hT1, hT2⟩
  have hgr := ce_grown HB1.out hch rfl
  have HG := Lib.hid hgr
  have HRS := Lib.hid hrs
  have HFA := Lib.hid (fail_any D g f' r' w2 hrs)
  have HBI := Lib.hid (And.intro hbi hrow)
  have HT := Lib.hid (And.intro hT1 hT2)
  have hv := Ytlhbnmaalhainaa.RowK.rdv hrow
  have HVV := Lib.hid hv
  obtain ⟨Av, cv, rfl, _, _⟩ := hv
  have c5 : w2.cell? ⟨w.heap.size, 0, none⟩ = some (.slice Av acc.length cv) := hbi.cell 0
  clear hbi hrow hrs hch hT1 hT2 hgr
  cases b with
  | false =>
    go_wp2_with (go_at_call 58; (with_reducible refine HFA.out.mono ?_); rintro e w4 ⟨⟨v4, rfl⟩, h4, h5⟩)
    go_ret
    exact ⟨true, r', [], _, rfl, Ytlhbnmaalhainaa.nil_row kA _ _, h4, grownBy_trans HG.out h5, fun _ => rfl, fun h => (by cases h), fun l r1 hl hm h => by have := (HT.out.2 l r1 hl h).1; cases this⟩
  | true =>
    obtain ⟨hf, htk, hsm⟩ := HT.out.1 rfl
    subst hf
    have hln := HV.out _ _ htk
    rw [atsB_len] at hln
    have HTK := Lib.hid (And.intro htk hsm)
    have HMA := Lib.hid (mayAttrs_any acc _ w2 HVV.out (fun x hx => by have := hsm x hx; unfold SmA at this; omega) (by omega))
    clear htk hsm hln
    cases hm : mayL acc with
    | false =>
      rw [hm] at HMA
      have HM := Lib.hid hm
      clear hm
      go_wp2_with (first
        | (go_at_call 15; (with_reducible refine HMA.out.mono ?_); clear HMA; rintro e w3 ⟨rfl, hb3⟩; have HFB := Lib.hid (fail_any D g false r' w3 (HRS.out.on hb3)); have HB3 := Lib.hid hb3; clear hb3)
        | (go_at_call 58; (with_reducible refine HFB.out.mono ?_); rintro e w4 ⟨⟨v4, rfl⟩, h4, h5⟩))
      go_ret
      exact ⟨true, r', [], _, rfl, Ytlhbnmaalhainaa.nil_row kA _ _, h4, grownBy_trans (grownBy_trans HG.out (grownBy_of HB3.out)) h5, fun _ => rfl, fun h => (by cases h), fun l r1 hl hm h => by
        have h6 := (HT.out.2 l r1 hl h).2.1
        rw [← h6, HM.out] at hm
        cases hm⟩
    | true =>
      rw [hm] at HMA
      have HM := Lib.hid hm
      clear hm
      go_wp2_with (go_at_call 15; (with_reducible refine HMA.out.mono ?_); clear HMA c5; rintro e w3 ⟨rfl, hb3⟩; have HB3 := Lib.hid hb3; have c5 : w3.cell? ⟨w.heap.size, 0, none⟩ = some (.slice Av acc.length cv) := (HBI.out.1.on hb3).cell 0; clear hb3)
      go_ret
      exact ⟨false, r', acc, _, rfl, Ytlhbnmaalhainaa.RowK.low (Ytlhbnmaalhainaa.RowK.on HBI.out.2 HB3.out) (Nat.le_succ _), HRS.out.on HB3.out, grownBy_trans HG.out (grownBy_of HB3.out), fun h => (by cases h), fun _ => ⟨HTK.out.1, HM.out⟩, fun l r1 hl hm h => by
        obtain ⟨_, h7, h8, h9⟩ := HT.out.2 l r1 hl h
        exact ⟨h7, rfl, h9⟩⟩

theorem len_sumA : ∀ (l : List At), (∀ x ∈ l, szA x ≤ 20000) → sumA l = (l.map szA).sum
  | [], _ => rfl
  | a :: l, h => by
    have h1 := len_sumA l fun x hx => h x (List.mem_cons_of_mem _ hx)
    have h2 := h a (List.mem_cons_self ..)
    unfold sumA at h1 ⊢
    rw [List.map_cons, List.sum_cons, List.map_cons, List.sum_cons, h1]
    unfold szA at h2 ⊢
    omega
theorem sz_mem {l : List At} {x : At} (hx : x ∈ l) : szA x ≤ (l.map szA).sum := by
  induction l with
  | nil => simp at hx
  | cons a l ih =>
    rw [List.map_cons, List.sum_cons]
    rcases List.mem_cons.1 hx with rfl | hx
    · omega
    · have := ih hx
      omega
theorem sumK_all (l : List At) : sumK l l.length = (l.map szA).sum := by
  unfold sumK
  congr 1
  apply List.ext_getElem (by simp)
  intro i h1 h2
  simp at h1
  simp [List.getD_eq_getElem?_getD, h1]
/-- What is gone through is little. -/
theorem few_much {l : List At} (h : muchV l = false) : FewA l ∧ ∀ a ∈ l, SmA a := by
  have h1 := much_len h
  unfold muchV at h
  rw [Bool.or_eq_false_iff] at h
  have h2 := of_decide_eq_false h.2
  rw [show min l.length 121 = l.length by omega, sumK_all] at h2
  have h3 : ∀ x ∈ l, szA x ≤ 20000 := fun x hx => by have := sz_mem hx; omega
  refine ⟨⟨by omega, by rw [len_sumA l h3]; omega⟩, fun a ha => ?_⟩
  have h4 := h3 a ha
  unfold szA at h4
  unfold SmA
  omega
theorem refOf_yes (A : Option Addr) (c : Nat) (name : List UInt8) (l : List At) (w : World) (hr : Rd w w.heap.size A (entB name l)) (hm : mayE name l = true) (hc : (entB name l).length ≤ c) (hcm : c ≤ 9223372036854775807) :
    Calls Try.prog 21 #[.slice A (entB name l).length c] w fun e w' => ∃ Aa ca, e = .returned (.tuple #[.agg #[.string (sx name), .slice Aa l.length ca], .bool true]) ∧ RdV w' (.slice Aa l.length ca) l ∧ Below w.heap.size w w' := by
  have hl : (entB name l).length ≤ 1000000 := by
    obtain ⟨h1, h2⟩ := Bool.and_eq_true_iff.1 hm
    have h3 := mayN_len h1
    have h4 := few_may h2
    have h5 := h4.many
    have h6 := h4.sum
    unfold entB
    rw [List.length_append, valB_length, valB_length, bytes_sx, atsB_len]
    omega
  refine (refOf_any A c (entB name l) w hr (byt_ent hm) hl hc hcm).mono fun e w' h => ?_
  rcases h with ⟨n2, l2, va, h2, h3, he, hv, hb⟩ | ⟨h3, _⟩
  · obtain ⟨e1, e2⟩ := ent_inj hm h2 h3
    subst e1 e2
    have hv2 := hv
    obtain ⟨Aa, ca, e1, _, _⟩ := hv
    subst e1
    exact ⟨Aa, ca, he, hv2, hb⟩
  · exact absurd rfl (h3 name l hm)
theorem refOf_no (A : Option Addr) (c : Nat) (l : List Int) (w : World) (hr : Rd w w.heap.size A l) (hby : Byt l) (hn : l.length ≤ 1000000) (hc : l.length ≤ c) (hcm : c ≤ 9223372036854775807) (hno : ∀ name at', mayE name at' = true → l ≠ entB name at') :
    Calls Try.prog 21 #[.slice A l.length c] w fun e w' => e = .returned (.tuple #[.agg #[.string ⟨#[]⟩, .slice none 0 0], .bool false]) ∧ Below w.heap.size w w' := by
  refine (refOf_any A c l w hr hby hn hc hcm).mono fun e w' h => ?_
  rcases h with ⟨n2, l2, va, h2, h3, _⟩ | ⟨_, he, hb⟩
  · exact absurd h3 (hno n2 l2 h2)
  · exact ⟨he, hb⟩
/-- What was put is taken, if it may be; nothing else is. -/
theorem take_put (D g : Nat) (tag : Int) (l : List At) (w : World) (hs : RS w D g false (valB tag (atsB l))) (ht : tag ≠ 0) (hf : FewA l) (hsm : ∀ a ∈ l, SmA a) :
    Calls Try.prog 28 #[.pointer (some ⟨g, 0, none⟩), .int .u8 tag] w fun e w' => ∃ (f' : Bool) (r' : List Int) (acc : List At) (A : Option Addr) (c : Nat), e = .returned (.slice A acc.length c) ∧ RdV w' (.slice A acc.length c) acc ∧ RS w' D g f' r' ∧ w.grownBy w' (some g) ∧ (if mayL l = true then acc = l ∧ f' = false ∧ r' = [] else acc = [] ∧ f' = true) := by
  refine (takeB_any D g false _ tag w hs).mono fun e w' h => ?_
  obtain ⟨f', r', acc, v', he, hrow, hrs, hg, h0, h1, h2⟩ := h
  have hv := Ytlhbnmaalhainaa.RowK.rdv hrow
  have hv2 := hv
  obtain ⟨A, c, e1, _, _⟩ := hv
  subst e1
  have hlen : (atsB l).length ≤ 4194304 := by
    rw [atsB_len]
    have h5 := hf.many
    have h6 := hf.sum
    omega
  have htk : tk false (valB tag (atsB l)) tag = (some (atsB l), (false, [])) := by
    have := tk_put (tag := tag) (xs := atsB l) (r := []) ht hlen
    rwa [List.append_nil] at this
  refine ⟨f', r', acc, A, c, he, hv2, hrs, hg, ?_⟩
  by_cases hm : mayL l = true
  · rw [if_pos hm]
    obtain ⟨a1, a2, a3⟩ := h2 l [] hsm hm htk
    exact ⟨a1, a2, a3⟩
  · rw [if_neg hm]
    cases f' with
    | true => exact ⟨h0 rfl, rfl⟩
    | false =>
      exfalso
      obtain ⟨b1, b2⟩ := h1 rfl
      rw [htk] at b1
      simp only [Prod.mk.injEq, Option.some.injEq] at b1
      obtain ⟨l', e2, e3⟩ := atsB_prefix acc l [] (sm_of_may b2) hsm (by rw [List.append_nil]; exact b1.1.symm)
      cases l' with
      | nil => rw [List.append_nil] at e2; rw [e2] at hm; exact hm b2
      | cons a t =>
        rw [atsB_cons] at e3
        have := congrArg List.length e3
        rw [List.length_append, atB_len] at this
        rw [List.length_nil] at this
        omega
abbrev KnownB (w : World) (args : Array Value) : Prop := Calls Try.prog 4 args w fun e w' => e = .returned (.bool true) ∧ Below w.heap.size w w'
theorem puts_ok {tag : Int} {xs : List Int} (h : tag ≠ 0) : putS (some []) tag xs = some (valB tag xs) := by
  unfold putS valB
  simp [h]
theorem same_nil (W : World) : Calls Try.prog 22 #[.agg #[.string ⟨#[]⟩, .slice none 0 0], .agg #[.string ⟨#[]⟩, .slice none 0 0]] W fun e w' => e = .returned (.bool true) ∧ Below W.heap.size W w' := refSameE_any [] [] [] [] _ _ W (RdV.nil _) (RdV.nil _) (by decide) (by decide)
/-- The entry's bytes, and the document's, as texts. -/
theorem pack_x (va : Value) (n1 : List UInt8) (l1 : List At) (Ax : Option Addr) (cx base : Nat) (w3 W0 : World) (hrx : Row w3 base (.slice Ax (entB n1 l1).length cx) (entB n1 l1)) (hpk : ∀ W, Below W0.heap.size W0 W → Calls Try.prog 31 #[.agg #[.string (sx n1), va]] W fun e w' => ∃ u, e = .returned u ∧ Row w' W.heap.size u (entB n1 l1) ∧ Below W.heap.size W w') (k : Nat) (s : ByteArray) (hk : k = (entB n1 l1).length) (hs : s = mkS (entB n1 l1)) :
    ∀ W, Below W0.heap.size W0 W → Below w3.heap.size w3 W → (convert 33 9 (.slice Ax k cx)).run Try.prog W = .ok (.string s) W ∧ (convert 33 9 (.slice Ax k cx)).run Try.prog W.drew = .ok (.string s) W.drew ∧
      Hid (Calls Try.prog 31 #[.agg #[.string (sx n1), va]] W.drew fun e w' => ∃ A c, e = .returned (.slice A k c) ∧ Below W.heap.size W w' ∧ (convert 33 9 (.slice Ax k cx)).run Try.prog w' = .ok (.string s) w' ∧ (convert 33 9 (.slice A k c)).run Try.prog w' = .ok (.string s) w') := by
  subst hk hs
  intro W h0 h3
  obtain ⟨A', c', e1, _, hrd⟩ := hrx.rd
  injection e1 with e1 _ e2
  subst e1 e2
  have hx := hrd.below h3
  have hd : Below W.heap.size W W.drew := below_drew (Below.refl _ _)
  refine ⟨conv_of W Ax cx _ _ hx (by cases Ax <;> simp), conv_of W.drew Ax cx _ _ hx (by cases Ax <;> simp), Lib.hid ?_⟩
  refine (hpk W.drew (h0.trans (hd.mono h0.size))).mono fun e w' h => ?_
  obtain ⟨u, he, hrow, hb⟩ := h
  obtain ⟨A2, c2, e3, _, hr2⟩ := hrow.rd
  have hb2 := hd.trans (hb.mono hd.size)
  exact ⟨A2, c2, by rw [he, e3], hb2, conv_of w' Ax cx _ _ (hx.below (hb2.mono h3.size)) (by cases Ax <;> simp), conv_of w' A2 c2 _ _ hr2 (by cases A2 <;> simp)⟩
end Go.Proofs.Ytlhbnmaalhainaa.Tlv
