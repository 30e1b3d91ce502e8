/- Attributes taken off a reader. -/
import Derived.Test.YtlhbnmaalhainaaTListE
namespace Go.Proofs.Ytlhbnmaalhainaa.Tlv
open Go.RowKit
set_option maxRecDepth 100000
set_option linter.unusedVariables false
set_option linter.unusedSimpArgs false

def TakeOut (D g : Nat) (f : Bool) (r : List Int) (tag : Int) (w : World) (e : Ending) (w' : World) : Prop :=
  ∃ (f' : Bool) (r' : List Int) (acc : List At) (v' : Value), e = .returned v' ∧ Ytlhbnmaalhainaa.RowK kA w' w.heap.size v' acc ∧ RS w' D g f' r' ∧ w.grownBy w' (some g) ∧
    (f' = false → tk f r tag = (some (atsB acc), (false, r')) ∧ mayL acc = true) ∧ (∀ l r1, (∀ a ∈ l, SmA a) → mayL l = true → tk f r tag = (some (atsB l), (false, r1)) → acc = l ∧ f' = false ∧ r' = r1)
theorem sm_of_may {l : List At} (h : mayL l = true) : ∀ a ∈ l, SmA a := fun a ha => by
  have h1 := mayA_len ((mayL_iff.1 h).2.1 a ha)
  unfold SmA
  omega
theorem ce_grown {n0 g : Nat} {w w1 w' : World} (h1 : Below w.heap.size w w1) (h : CE n0 g n0 w1 w') (hn : n0 = w.heap.size) : w.grownBy w' (some g) :=
  ⟨h.os.trans h1.os, h.tape.trans h1.tape, h.output.trans h1.output, Nat.le_trans h1.size h.size, fun k hk hne => (h.low k (by omega) (fun e => hne (by rw [e])) (by omega)).trans (h1.block k hk)⟩
set_option maxHeartbeats 8000000 in
theorem takeE_any (D g : Nat) (f : Bool) (r : List Int) (tag : Int) (w : World) (hs : RS w D g f r) :
    Calls Try.prog 28 #[.pointer (some ⟨g, 0, none⟩), .int .u8 tag] w (TakeOut D g f r tag w) := by
  have hmf : ∀ (fn : Fn) (first cap : Array Value) (w : World), (Instr.makeFunc fn first cap).run Try.prog w = .ok (.func fn first cap) w := fun _ _ _ _ => rfl
  have hgl := hs.lt
  have hDg := hs.1
  have hbyt := hs.byt
  have hb1 : Below w.heap.size w (w.alloc (.cells #[.slice none 0 0] 22)) := (Below.refl _ _).alloc (Nat.le_refl _) _
  have HL := Lib.hid (listE_any D g w.heap.size w.heap.size (w.heap.size + 1) f r tag _ (hs.on hb1) (Blk.new w 22 #[.slice none 0 0]) (by omega) (by omega) (by omega) (by simp) (by omega) hDg)
  have HB1 := Lib.hid hb1
  have HV : Hid (∀ v q, tk f r tag = (some v, q) → v.length ≤ 4194304) := Lib.hid fun v q h => by
    obtain ⟨q1, q2⟩ := q
    exact (tk_some hbyt h).2.2.2.2
  clear hs hb1 hbyt
  go_enter Try.func28, Try.ntmps28
  go_wp2_with fail
  refine HL.out.mono ?_
  clear HL
  rintro e w2 ⟨b, f', r', acc, v, rfl, hbi, hrow, hrs, hch, hT1, hT2⟩
  have hgr := ce_grown HB1.out hch rfl
  have HG := Lib.hid hgr
  have HRS := Lib.hid hrs
  have HFA := Lib.hid (fail_any D g f' r' w2 hrs)
  have HBI := Lib.hid (And.intro hbi hrow)
  have HT := Lib.hid (And.intro hT1 hT2)
  have hv := Ytlhbnmaalhainaa.RowK.rdv hrow
  have HVV := Lib.hid hv
  obtain ⟨Av, cv, rfl, _, _⟩ := hv
  have c5 : w2.cell? ⟨w.heap.size, 0, none⟩ = some (.slice Av acc.length cv) := hbi.cell 0
  clear hbi hrow hrs hch hT1 hT2 hgr
  cases b with
  | false =>
    go_wp2_with (go_at_call 58; (with_reducible refine HFA.out.mono ?_); rintro e w4 ⟨⟨v4, rfl⟩, h4, h5⟩)
    go_ret
    exact ⟨true, r', [], _, rfl, Ytlhbnmaalhainaa.nil_row kA _ _, h4, grownBy_trans HG.out h5, fun h => (by cases h), fun l r1 hl hm h => by have := (HT.out.2 l r1 hl h).1; cases this⟩
  | true =>
    obtain ⟨hf, htk, hsm⟩ := HT.out.1 rfl
    subst hf
    have hln := HV.out _ _ htk
    rw [atsB_len] at hln
    have HTK := Lib.hid (And.intro htk hsm)
    have HMA := Lib.hid (mayAttrs_any acc _ w2 HVV.out (fun x hx => by have := hsm x hx; unfold SmA at this; omega) (by omega))
    clear htk hsm hln
    cases hm : mayL acc with
    | false =>
      rw [hm] at HMA
      have HM := Lib.hid hm
      clear hm
      go_wp2_with (first
        | (go_at_call 15; (with_reducible refine HMA.out.mono ?_); clear HMA; rintro e w3 ⟨rfl, hb3⟩; have HFB := Lib.hid (fail_any D g false r' w3 (HRS.out.on hb3)); have HB3 := Lib.hid hb3; clear hb3)
        | (go_at_call 58; (with_reducible refine HFB.out.mono ?_); rintro e w4 ⟨⟨v4, rfl⟩, h4, h5⟩))
      go_ret
      exact ⟨true, r', [], _, rfl, Ytlhbnmaalhainaa.nil_row kA _ _, h4, grownBy_trans (grownBy_trans HG.out (grownBy_of HB3.out)) h5, fun h => (by cases h), fun l r1 hl hm h => by
        have h6 := (HT.out.2 l r1 hl h).2.1
        rw [← h6, HM.out] at hm
        cases hm⟩
    | true =>
      rw [hm] at HMA
      have HM := Lib.hid hm
      clear hm
      go_wp2_with (go_at_call 15; (with_reducible refine HMA.out.mono ?_); clear HMA c5; rintro e w3 ⟨rfl, hb3⟩; have HB3 := Lib.hid hb3; have c5 : w3.cell? ⟨w.heap.size, 0, none⟩ = some (.slice Av acc.length cv) := (HBI.out.1.on hb3).cell 0; clear hb3)
      go_ret
      exact ⟨false, r', acc, _, rfl, Ytlhbnmaalhainaa.RowK.low (Ytlhbnmaalhainaa.RowK.on HBI.out.2 HB3.out) (Nat.le_succ _), HRS.out.on HB3.out, grownBy_trans HG.out (grownBy_of HB3.out), fun _ => ⟨HTK.out.1, HM.out⟩, fun l r1 hl hm h => by
        obtain ⟨_, h7, h8, h9⟩ := HT.out.2 l r1 hl h
        exact ⟨h7, rfl, h9⟩⟩
end Go.Proofs.Ytlhbnmaalhainaa.Tlv
