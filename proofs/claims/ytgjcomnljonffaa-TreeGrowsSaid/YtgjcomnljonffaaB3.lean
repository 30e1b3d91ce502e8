/- slices.BinarySearchFunc over items; find. -/
import Derived.Test.YtgjcomnljonffaaB2
import Derived.Deep.DeepCutAuto
import Derived.Deep.Cut
import Derived.Deep.CutBlock
namespace Go.Proofs.Ytgjcomnljonffaa.Tlv
open Go.RowKit
set_option maxRecDepth 100000
set_option linter.unusedVariables false
set_option linter.unusedSimpArgs false
theorem rise_lo {its : List It} {key : Key} {m : Nat} (h : Rise its) (hm : m < its.length) (hk : klt (its.getD m default).k key) : ∀ x ∈ its.take (m + 1), klt x.k key := fun x hx => by
  obtain ⟨j, h1, h2, rfl⟩ := mem_take_getD hx
  rcases Nat.lt_or_ge j m with hj | hj
  · exact klt_trans (h.lt hj hm) hk
  · have : j = m := by omega
    subst this
    exact hk
theorem rise_hi {its : List It} {key : Key} {m : Nat} (h : Rise its) (hm : m < its.length) (hk : ¬ klt (its.getD m default).k key) : ∀ x ∈ its.drop m, ¬ klt x.k key := fun x hx hx2 => by
  obtain ⟨j, h1, h2, rfl⟩ := mem_drop_getD hx
  rcases Nat.lt_or_ge m j with hj | hj
  · exact hk (klt_trans (h.lt hj h2) hx2)
  · have : j = m := by omega
    subst this
    exact hk hx2
theorem fnd_yes {its : List It} {key : Key} {i : Nat} (hi : i < its.length) (lo : ∀ x ∈ its.take i, klt x.k key) (hk : kcmp (its.getD i default).k key = 0) : Fnd its key i true :=
  ⟨by omega, lo, fun _ => ⟨hi, kcmp_eq _ _ hk⟩, fun h => by cases h⟩
theorem fnd_no {its : List It} {key : Key} {i : Nat} (hs : Rise its) (hi : i < its.length) (lo : ∀ x ∈ its.take i, klt x.k key) (hk : kcmp (its.getD i default).k key = 1) : Fnd its key i false := by
  refine ⟨by omega, lo, (fun h => by cases h), fun _ x hx => ?_⟩
  have h1 : klt key (its.getD i default).k := klt_swap.2 hk
  obtain ⟨j, h2, h3, rfl⟩ := mem_drop_getD hx
  rcases Nat.lt_or_ge i j with hj | hj
  · exact klt_trans h1 (hs.lt hj h3)
  · have : j = i := by omega
    subst this
    exact h1
theorem fnd_end {its : List It} {key : Key} {i : Nat} (hi : i = its.length) (lo : ∀ x ∈ its.take i, klt x.k key) : Fnd its key i false := by
  subst hi
  exact ⟨Nat.le_refl _, lo, (fun h => by cases h), fun _ x hx => by simp at hx⟩
def SearchOut (its : List It) (key : Key) (w : World) (e : Ending) (w' : World) : Prop :=
  ∃ (i : Nat) (is : Bool), e = .returned (.tuple #[.int .i64 i, .bool is]) ∧ Fnd its key i is ∧ Below w.heap.size w w'
set_option maxHeartbeats 4000000 in
theorem search_any (A B : Option Addr) (n c nk ck : Nat) (its : List It) (key : Key) (w : World) (hr : RdK kI w w.heap.size A its) (hn : n = its.length) (hmax : n ≤ 1000) (hs : Rise its)
    (hk : ∀ x ∈ its, KAt w x.A x.k) (hB : KAt w B key) (hnk : nk = key.length) :
    Calls Try.prog 45 #[.slice A n c, .slice B nk ck, .func (.func 46) #[] #[]] w (SearchOut its key w) := by
  have H := Lib.hid (And.intro hr (And.intro hn (And.intro hs (And.intro hk (And.intro hB hnk)))))
  clear hr hn hs hk hB hnk
  go_enter Try.func45, Try.ntmps45
  go_upto_region 3 with fail
  go_loopg [9, 10] n (fun g s9 s10 wr => ∃ i j : Nat, i ≤ j ∧ j ≤ n ∧ j - i ≤ g ∧ s9 = .int .i64 i ∧ s10 = .int .i64 j ∧ Hid (Below w.heap.size w wr) ∧ Hid ((∀ x ∈ its.take i, klt x.k key) ∧ ∀ x ∈ its.drop j, ¬ klt x.k key))
  case atStart => exact ⟨0, n, Nat.zero_le _, Nat.le_refl _, Nat.le_refl _, rfl, rfl, Lib.hid (Below.refl _ _), Lib.hid ⟨by simp, by have := H.out.2.1; simp [this]⟩⟩
  case round =>
    obtain ⟨i, j, hij, hjn, hg, rfl, rfl, HB, HF⟩ := hrel
    by_cases hlt : i < j
    · have hlti : (i : Int) < (j : Int) := by omega
      obtain ⟨m, hm⟩ : ∃ m : Nat, m = (i + j) / 2 := ⟨_, rfl⟩
      have e1 : ((i : Int) + (j : Int)) / 2 = (m : Int) := by omega
      have E1 := Lib.hid e1
      clear e1
      have HMM := Lib.hid hm
      have hmn : m < its.length := by have := H.out.2.1; omega
      have hmi : i ≤ m ∧ m < j := by omega
      obtain ⟨b, off, rfl, hbw, c0, c1⟩ := item_cells (RdK.on H.out.1 HB.out) hmn
      have hxk := H.out.2.2.2.1 (its.getD m default) (by rw [List.getD_eq_getElem?_getD, List.getElem?_eq_getElem hmn]; exact List.getElem_mem hmn)
      generalize hx : its.getD m default = x at c0 c1 hxk
      have HX := Lib.hid hx
      obtain ⟨nx, hnx⟩ : ∃ n, n = x.k.length := ⟨_, rfl⟩
      rw [← hnx] at c0
      have HC := Lib.hid (at_any x.A B nx x.c nk ck x.v x.k key wr (hxk.on HB.out) (H.out.2.2.2.2.1.on HB.out) (Lib.hid hnx) (Lib.hid H.out.2.2.2.2.2))
      have hmni : (m : Int) < (n : Int) := by omega
      have HM := Lib.hid hmi
      clear hx hnx hxk hm hmi
      obtain ⟨xA, xc, xk, xv⟩ := x
      dsimp only at c0 c1 HC
      go_upto_region 5 with fail
      rw [E1.out]
      have hm0 : 0 ≤ m := Nat.zero_le _
      rcases kcmp_range xk key with hc | hc | hc
      · have HCL := Lib.hid hc
        rw [hc] at HC
        go_wp2_with ((with_reducible refine HC.out.mono ?_); rintro e w1 ⟨rfl, hb⟩; dsimp only)
        go_roundg (j - (m + 1))
        case measure => have := HM.out; omega
        case rel =>
          refine ⟨m + 1, j, by have := HM.out; omega, hjn, Nat.le_refl _, by go_num, rfl, Lib.hid (HB.out.trans (hb.mono HB.out.size)), Lib.hid ⟨rise_lo H.out.2.2.1 hmn ?_, HF.out.2⟩⟩
          rw [HX.out]
          exact HCL.out
      · have HCL := Lib.hid hc
        rw [hc] at HC
        go_wp2_with ((with_reducible refine HC.out.mono ?_); rintro e w1 ⟨rfl, hb⟩; dsimp only)
        go_roundg (m - i)
        case measure => have := HM.out; omega
        case rel =>
          refine ⟨i, m, HM.out.1, by omega, Nat.le_refl _, rfl, rfl, Lib.hid (HB.out.trans (hb.mono HB.out.size)), Lib.hid ⟨HF.out.1, rise_hi H.out.2.2.1 hmn ?_⟩⟩
          rw [HX.out]
          have := HCL.out
          unfold klt
          dsimp only at this ⊢
          omega
      · have HCL := Lib.hid hc
        rw [hc] at HC
        go_wp2_with ((with_reducible refine HC.out.mono ?_); rintro e w1 ⟨rfl, hb⟩; dsimp only)
        go_roundg (m - i)
        case measure => have := HM.out; omega
        case rel =>
          refine ⟨i, m, HM.out.1, by omega, Nat.le_refl _, rfl, rfl, Lib.hid (HB.out.trans (hb.mono HB.out.size)), Lib.hid ⟨HF.out.1, rise_hi H.out.2.2.1 hmn ?_⟩⟩
          rw [HX.out]
          have := HCL.out
          unfold klt
          dsimp only at this ⊢
          omega
    · have hlti : ¬ (i : Int) < (j : Int) := by omega
      have hij' : j = i := by omega
      subst hij'
      rcases Nat.lt_or_ge j n with hl | hl
      · have hli : (j : Int) < (n : Int) := by omega
        have hmn : j < its.length := by have := H.out.2.1; omega
        obtain ⟨b, off, rfl, hbw, c0, c1⟩ := item_cells (RdK.on H.out.1 HB.out) hmn
        have hxk := H.out.2.2.2.1 (its.getD j default) (by rw [List.getD_eq_getElem?_getD, List.getElem?_eq_getElem hmn]; exact List.getElem_mem hmn)
        generalize hx : its.getD j default = x at c0 c1 hxk
        have HX := Lib.hid hx
        obtain ⟨nx, hnx⟩ : ∃ n, n = x.k.length := ⟨_, rfl⟩
        rw [← hnx] at c0
        have HC := Lib.hid (at_any x.A B nx x.c nk ck x.v x.k key wr (hxk.on HB.out) (H.out.2.2.2.2.1.on HB.out) (Lib.hid hnx) (Lib.hid H.out.2.2.2.2.2))
        clear hx hnx hxk
        obtain ⟨xA, xc, xk, xv⟩ := x
        dsimp only at c0 c1 HC
        rcases kcmp_range xk key with hc | hc | hc
        · exfalso
          refine HF.out.2 (its.getD j default) ?_ (by rw [HX.out]; exact hc)
          rw [List.getD_eq_getElem?_getD, List.getElem?_eq_getElem hmn, Option.getD_some]
          have h0 : 0 < (its.drop j).length := by simp; omega
          have := List.getElem_mem h0
          simpa using this
        · have HCL := Lib.hid hc
          rw [hc] at HC
          go_wp2_with ((with_reducible refine HC.out.mono ?_); rintro e w1 ⟨rfl, hb⟩; dsimp only)
          go_ret2
          exact ⟨j, true, rfl, fnd_yes hmn HF.out.1 (by rw [HX.out]; exact HCL.out), HB.out.trans (hb.mono HB.out.size)⟩
        · have HCL := Lib.hid hc
          rw [hc] at HC
          go_wp2_with ((with_reducible refine HC.out.mono ?_); rintro e w1 ⟨rfl, hb⟩; dsimp only)
          go_ret2
          exact ⟨j, false, rfl, fnd_no H.out.2.2.1 hmn HF.out.1 (by rw [HX.out]; exact HCL.out), HB.out.trans (hb.mono HB.out.size)⟩
      · have hli : ¬ (j : Int) < (n : Int) := by omega
        go_wp2_with fail
        go_ret2
        exact ⟨j, false, rfl, fnd_end (by have := H.out.2.1; omega) HF.out.1, HB.out⟩
/-- find. -/
theorem find_any (N : Nat) (A B : Option Addr) (n c nk ck : Nat) (vk : Value) (its : List It) (key : Key) (w : World) (hN : Blk w N 59 #[.slice A n c, vk]) (hr : RdK kI w w.heap.size A its) (hn : n = its.length) (hmax : n ≤ 1000) (hs : Rise its)
    (hk : ∀ x ∈ its, KAt w x.A x.k) (hB : KAt w B key) (hnk : nk = key.length) :
    Calls Try.prog 35 #[.pointer (some ⟨N, 0, none⟩), .slice B nk ck] w (SearchOut its key w) := by
  have H := Lib.hid (search_any A B n c nk ck its key w hr hn hmax hs hk hB hnk)
  have c0 := hN.cell 0
  simp only [List.getElem?_toArray, List.getElem?_cons_zero, List.getElem?_cons_succ] at c0
  clear hr hn hs hk hB hnk hN
  go_enter Try.func35, Try.ntmps35
  go_wp2_with ((with_reducible refine H.out.mono ?_); rintro e w1 ⟨i, is, rfl, hf, hb⟩; dsimp only)
  go_ret2
  exact ⟨i, is, rfl, hf, hb⟩
end Go.Proofs.Ytgjcomnljonffaa.Tlv
