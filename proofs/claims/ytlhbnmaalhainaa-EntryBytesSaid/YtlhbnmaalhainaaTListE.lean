/- A reader's list of attributes. -/
import Derived.Test.YtlhbnmaalhainaaTEachE
namespace Go.Proofs.Ytlhbnmaalhainaa.Tlv
open Go.RowKit
set_option maxRecDepth 100000
set_option linter.unusedVariables false
set_option linter.unusedSimpArgs false

theorem stands_nil : stands [] = false := rfl
theorem eachE_whole {l : List At} {f' : Bool} {r' : List Int} {acc : List At} (hl : ∀ a ∈ l, SmA a) (h : EachE (atsB l) f' r' acc) : f' = false ∧ r' = [] ∧ acc = l := by
  rcases h with ⟨h1, h2, h3, h4⟩ | ⟨_, h2⟩
  · obtain ⟨l', h5, h6⟩ := atsB_prefix acc l r' h4 hl h2.symm
    cases l' with
    | nil => exact ⟨h1, by rw [h6]; rfl, by rw [h5, List.append_nil]⟩
    | cons a l' =>
      rw [h6, atsB_cons] at h3
      have ha := hl a (by rw [h5]; simp)
      unfold SmA at ha
      have := (stands_put (tag := 3) (xs := valB 1 (bytesOf (sx a.t)) ++ valB 2 (bytesOf (sx a.v))) (r := atsB l') (by decide) (by rw [List.length_append, valB_length, valB_length, bytes_sx, bytes_sx]; omega)).2.1
      unfold atB at h3
      rw [this] at h3
      cases h3
  · exact absurd rfl (h2 l hl)
def ListOut (D g Bl n0 n1 : Nat) (f : Bool) (r : List Int) (tag : Int) (w : World) (e : Ending) (w' : World) : Prop :=
  ∃ (b : Bool) (f' : Bool) (r' : List Int) (acc : List At) (v : Value), e = .returned (.bool b) ∧ Blk w' Bl 22 #[v] ∧ Ytlhbnmaalhainaa.RowK kA w' n1 v acc ∧ RS w' D g f' r' ∧ CE n0 g Bl w w' ∧
    (b = true → f' = false ∧ tk f r tag = (some (atsB acc), (false, r')) ∧ ∀ a ∈ acc, SmA a) ∧ (∀ l r1, (∀ a ∈ l, SmA a) → tk f r tag = (some (atsB l), (false, r1)) → b = true ∧ acc = l ∧ f' = false ∧ r' = r1)
set_option maxHeartbeats 8000000 in
theorem listE_any (D g Bl n0 n1 : Nat) (f : Bool) (r : List Int) (tag : Int) (w : World) (hs : RS w D g f r) (hb : Blk w Bl 22 #[.slice none 0 0]) (hD : D ≤ n0) (hDB : D ≤ Bl) (h01 : n0 ≤ n1) (hn : n1 ≤ w.heap.size) (hne : g ≠ Bl) (hDg : D ≤ g) :
    Calls Try.prog 55 #[.pointer (some ⟨g, 0, none⟩), .int .u8 tag, .func (.func 56) #[] #[.pointer (some ⟨Bl, 0, none⟩)]] w (ListOut D g Bl n0 n1 f r tag w) := by
  have HT := Lib.hid (take_any D g f r tag w hs)
  have hbyt := hs.byt
  have hgl := hs.lt
  have hbl := hb.lt
  have HSO : Hid (∀ v q, tk f r tag = (some v, q) → q = (false, q.2) ∧ v.length ≤ 4194304 ∧ Byt v) := Lib.hid fun v q h => by
    obtain ⟨q1, q2⟩ := q
    obtain ⟨_, h2, _, h4, h5⟩ := tk_some hbyt h
    exact ⟨by rw [h2], h5, fun x hx => hbyt x (by rw [h4]; simp [valB, hx])⟩
  have H := Lib.hid hb
  have HTK : Hid (tk f r tag = tk f r tag) := Lib.hid rfl
  generalize htk : tk f r tag = t at HT HSO
  have HTT := Lib.hid htk
  obtain ⟨v0, f0, rr0⟩ := t
  clear hs hb hbyt htk HTK
  go_enter Try.func55, Try.ntmps55
  go_wp2_with fail
  refine HT.out.mono ?_
  clear HT
  rintro e w1 ⟨h, hrs, hg⟩
  have hsz1 := hg.size
  have HRS := Lib.hid (And.intro hrs hg)
  have HI1 := Lib.hid (Blk.grown H.out hg (fun e => by injection e with e; exact hne e.symm))
  clear hrs hg
  rcases h with ⟨v, A1, rfl, rfl, hr⟩ | ⟨rfl, rfl⟩
  · obtain ⟨hq, hvl, hvb⟩ := HSO.out v _ rfl
    simp only [Prod.mk.injEq, and_true] at hq
    subst hq
    have hb2 : Below w1.heap.size w1 (w1.alloc (.cells #[.slice A1 v.length v.length, .bool true, .bool false] 79)) := (Below.refl _ _).alloc (Nat.le_refl _) _
    have hin : RS (w1.alloc (.cells #[.slice A1 v.length v.length, .bool true, .bool false] 79)) D w1.heap.size false v :=
      ⟨by omega, A1, v.length, Blk.new w1 79 _, hr.below (hb2.mono (by omega)), hvb, Nat.le_refl _, by omega, by omega⟩
    have HE := Lib.hid (eachE_any D w1.heap.size Bl n0 n1 v _ hin (HI1.out.on hb2) hD hDB h01 (by have := hb2.size; omega) (by omega))
    clear hin hr
    go_wp2_with fail
    refine HE.out.mono ?_
    clear HE
    rintro e w3 ⟨⟨vv, rfl⟩, fe, re, acc, va, her, hbi, hrow, hre, hch⟩
    have HER := Lib.hid her
    have HBI := Lib.hid (And.intro hbi hrow)
    have hrs3 := hch.rs (HRS.out.1.on hb2) (show g ≠ w1.heap.size by omega) hne (by omega) hDB hD
    have HR3 := Lib.hid hrs3
    have hch0 : CE n0 w1.heap.size Bl w1 w3 := (CE.bel hb2 (by omega)).trans hch
    have HC3 : Hid (CE n0 g Bl w w3) := Lib.hid ((CE.of HRS.out.2 (by omega)).trans (hch0.under (Nat.le_refl _) (by omega)))
    have HFA := Lib.hid (fail_any D g false rr0 w3 hrs3)
    have hn03 : n0 ≤ w3.heap.size := by have := hch0.size; omega
    obtain ⟨A4, c4, hblk4, _⟩ := hre.2
    have e0 := hblk4.cell 0
    have e2 := hblk4.cell 2
    obtain ⟨A5, c5, hblk5, _⟩ := hrs3.2
    have g2 := hblk5.cell 2
    clear her hbi hrow hre hch hrs3 hblk4 hblk5 hb2 hch0
    by_cases hgood : fe = false ∧ re = []
    · obtain ⟨rfl, rfl⟩ := hgood
      go_wp2_with fail
      go_ret
      refine ⟨true, false, rr0, acc, va, rfl, HBI.out.1, HBI.out.2, HR3.out, HC3.out, fun _ => ?_, fun l r1 hl hr1 => ?_⟩
      · rcases HER.out with ⟨_, h5, h6, h7⟩ | ⟨h5, _⟩
        · exact ⟨rfl, by rw [HTT.out, h5, List.append_nil], h7⟩
        · cases h5
      · rw [HTT.out] at hr1
        simp only [Prod.mk.injEq, Option.some.injEq] at hr1
        obtain ⟨rfl, -, rfl⟩ := hr1
        exact ⟨rfl, (eachE_whole hl HER.out).2.2, rfl, rfl⟩
    · have HGO := Lib.hid hgood
      have fin : ∀ (w' : World), RS w' D g true rr0 → w3.grownBy w' (some g) → ListOut D g Bl n0 n1 f r tag w (.returned (.bool false)) w' := fun w' h4 h5 =>
        ⟨false, true, rr0, acc, va, rfl, Blk.grown HBI.out.1 h5 (fun e => by injection e with e; exact hne e.symm), RowK.fit HBI.out.2 fun g' e => h5.block g' (own_at HBI.out.2 e).2.1 (fun e2 => by
            injection e2 with e2
            subst e2
            obtain ⟨_, _, cs, hc⟩ := own_at HBI.out.2 e
            obtain ⟨_, A9, c9, h9, _⟩ := HR3.out
            exact blk_ne hc h9 (by decide) rfl), h4, HC3.out.trans (CE.of h5 hn03), fun h => (by cases h), fun l r1 hl hr1 => by
          rw [HTT.out] at hr1
          simp only [Prod.mk.injEq, Option.some.injEq] at hr1
          obtain ⟨rfl, -, rfl⟩ := hr1
          have := eachE_whole hl HER.out
          exact (HGO.out ⟨this.1, this.2.1⟩).elim⟩
      have HFIN := Lib.hid fin
      have hd : fe = true ∨ (fe = false ∧ 0 < re.length) := by
        cases fe with
        | true => exact .inl rfl
        | false =>
          refine .inr ⟨rfl, ?_⟩
          cases re with
          | nil => exact (hgood ⟨rfl, rfl⟩).elim
          | cons x t => simp
      clear hgood fin
      rcases hd with rfl | ⟨rfl, hd⟩
      · go_wp2_with fail
        refine HFA.out.mono ?_
        rintro e w4 ⟨⟨v4, rfl⟩, h4, h5⟩
        obtain ⟨A6, c6, hblk6, _⟩ := h4.2
        have g6 := hblk6.cell 2
        have HF := Lib.hid (HFIN.out _ h4 h5)
        clear hblk6 h4 h5
        go_wp2_with fail
        go_ret
        exact HF.out
      · go_wp2_with fail
        refine HFA.out.mono ?_
        rintro e w4 ⟨⟨v4, rfl⟩, h4, h5⟩
        obtain ⟨A6, c6, hblk6, _⟩ := h4.2
        have g6 := hblk6.cell 2
        have HF := Lib.hid (HFIN.out _ h4 h5)
        clear hblk6 h4 h5
        go_wp2_with fail
        go_ret
        exact HF.out
  · go_wp2_with fail
    go_ret
    exact ⟨false, f0, rr0, [], .slice none 0 0, rfl, HI1.out, Ytlhbnmaalhainaa.nil_row kA _ _, HRS.out.1, CE.of HRS.out.2 (by omega), fun h => (by cases h), fun l r1 hl h => by rw [HTT.out] at h; simp at h⟩
end Go.Proofs.Ytlhbnmaalhainaa.Tlv
