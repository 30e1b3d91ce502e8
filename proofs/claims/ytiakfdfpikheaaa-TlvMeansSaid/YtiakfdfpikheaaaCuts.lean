/- TlvCuts: the walk. -/
import Derived.Test.YtiakfdfpikheaaaCutsA
namespace Go.Proofs.Ytiakfdfpikheaaa
open Go.RowKit
set_option linter.unusedVariables false
set_option linter.unusedSimpArgs false

theorem rd_take {w : World} {B : Nat} {A : Option Addr} {l : List Int} (h : Rd w B A l) (k : Nat) : Rd w B A (l.take k) := fun hp => by
  obtain ⟨b, off, e, hlt, hc⟩ := h (by rw [List.length_take] at hp; omega)
  refine ⟨b, off, e, hlt, fun j hj => ?_⟩
  rw [List.length_take] at hj
  rw [getD_take (by omega)]
  exact hc j (by omega)
theorem rdK_take {α : Type} [Inhabited α] {K : Kind α} {w : World} {B : Nat} {A : Option Addr} {l : List α} (h : RdK K w B A l) (k : Nat) : RdK K w B A (l.take k) := fun hp => by
  obtain ⟨b, off, e, hlt, hc⟩ := h (by rw [List.length_take] at hp; omega)
  refine ⟨b, off, e, hlt, fun j hj i u hu => ?_⟩
  rw [List.length_take] at hj
  refine hc j (by omega) i u ?_
  rwa [List.getD_eq_getElem?_getD, List.getElem?_take_of_lt (by omega), ← List.getD_eq_getElem?_getD] at hu
theorem pos_snoc {hs : List Hand} {k : Nat} (hk : k < hs.length) : posI ((hs.map Hand.it).take (k + 1)) = posI ((hs.map Hand.it).take k) + (5 + (hs.getD k default).bs.length) := by
  unfold posI
  rw [List.take_add_one, List.getElem?_map, List.getElem?_eq_getElem hk, List.getD_eq_getElem?_getD, List.getElem?_eq_getElem hk]
  simp [Hand.it]

theorem pos_items : ∀ (n : Nat) (l : List Int), l.length ≤ n → posI (items l) ≤ l.length := by
  intro n
  induction n with
  | zero => intro l hl; rw [items_no (by simp [stands]; omega)]; simp [posI]
  | succ n ih =>
    intro l hl
    cases hs : stands l with
    | false => rw [items_no hs]; simp [posI]
    | true =>
      obtain ⟨h1, h2, h3, h4⟩ := stands_parts hs
      have := ih (l.drop (5 + nv l)) (by rw [List.length_drop]; omega)
      have hl : ((l.drop 5).take (nv l)).length = nv l := by rw [List.length_take, List.length_drop]; omega
      rw [items_yes hs]
      rw [List.length_drop] at this
      simp only [posI, List.map_cons, List.sum_cons, hl] at this ⊢
      omega
theorem pos_take (l : List (Int × List Int)) (k : Nat) : posI (l.take k) ≤ posI l := by
  have : posI l = posI (l.take k) + posI (l.drop k) := by
    unfold posI
    rw [← List.sum_append, ← List.map_append, List.take_append_drop]
  omega
theorem row_cap {α : Type} [Inhabited α] {K : Kind α} {w : World} {base n c : Nat} {A : Option Addr} {l : List α} (h : RowK K w base (.slice A n c) l) : n ≤ c := by
  rcases h.2 with ⟨e, h0⟩ | ⟨g, cap, cur, e, h3, hg, h5, h6⟩
  · injection e with e1 e2 e3; omega
  · injection e with e1 e2 e3; omega

set_option maxHeartbeats 16000000 in
theorem cuts_any (A : Option Addr) (c : Nat) (l : List Pt) (cut : Int) (w : World) (hr : RdK kP w w.heap.size A l) (hok : ∀ p ∈ l, PtOk w w.heap.size p) (hl0 : l.length ≤ maxLen) (hls : ∀ p ∈ l, p.b.length ≤ maxLen ∧ p.ls.length ≤ maxLen) (hcut : cut ≤ 9223372036854775807) :
    Calls Try.prog 6 #[.slice A l.length c, .int .i64 cut] w fun e w' => e = .returned (.bool true) ∧ Below w.heap.size w w' := by
  have HR := Lib.hid hr
  have HOK := Lib.hid hok
  have HLS := Lib.hid hls
  clear hr hok hls
  go_enter Try.func6, Try.ntmps6
  go_wp2_with fail
  refine (known_any w).mono ?_
  rintro e w0 ⟨rfl, hb0⟩
  have hs0 := hb0.size
  have HM := Lib.hid (much_any A c l w0 (HR.out.on hb0) (fun p hp => ((HOK.out p hp).below hb0).more hs0) hl0 HLS.out)
  have HB0 := Lib.hid hb0
  clear hb0 HLS
  go_wp2_with fail
  refine HM.out.mono ?_
  rintro e w1 ⟨b, rfl, hw, hbf⟩
  have hw' := hw.symm
  subst hw'
  clear HM hw
  cases b with
  | true =>
    go_wp2_with fail
    go_ret
    exact ⟨rfl, HB0.out⟩
  | false =>
  obtain ⟨hl, hf⟩ := hbf rfl
  have HF := Lib.hid hf
  clear hf hbf
  have hP := Lib.hid (put_any A c l w0 (HR.out.on HB0.out) (fun p hp => ((HOK.out p hp).below HB0.out).more hs0) HF.out hl)
  have hlen := want_len HF.out l.length (Nat.le_refl _)
  have HBY := Lib.hid (byt_want HOK.out HF.out)
  rw [List.take_length] at hlen
  rw [putL_is] at hP
  cases hgood : goodB l with
  | false =>
    rw [hgood] at hP
    simp only [Bool.false_eq_true, if_false] at hP
    clear hgood
    go_wp2_with fail
    refine hP.out.mono ?_
    clear hP
    rintro e w2 ⟨g, m, rfl, hws, hg, hb2⟩
    have HB2 := Lib.hid (HB0.out.trans (hb2.mono hs0))
    have HE := Lib.hid (end_fail g _ m _ hws)
    clear hws hb2
    go_wp2_with fail
    refine HE.out.mono ?_
    rintro e w3 ⟨rfl, hb3⟩
    have HB3 := Lib.hid (HB2.out.trans (hb3.mono HB2.out.size))
    clear hb3
    go_wp2_with (go_at_call 12; refine (num_any _ _).mono ?_; rintro e w' ⟨rfl, rfl⟩)
    go_ret
    exact ⟨rfl, HB3.out⟩
  | true =>
  rw [hgood] at hP
  simp only [if_true] at hP
  have HWL : Hid (∀ k, k ≤ l.length → wantL (l.take k) = (l.take k).flatMap fun p => (encP p).getD []) := Lib.hid fun _ _ => rfl
  generalize hW : wantL l = want at *
  go_wp2_with fail
  refine hP.out.mono ?_
  clear hP
  rintro e w2 ⟨g, m, rfl, ⟨v, hblk, hrow⟩, hg, hb2⟩
  have HB2 := Lib.hid (HB0.out.trans (hb2.mono hs0))
  have HE := Lib.hid (end_ok g v m want _ w2 hblk hrow (by omega))
  clear hblk hrow hb2
  go_wp2_with fail
  refine HE.out.mono ?_
  clear HE
  rintro e w3 ⟨v3, rfl, hrow3, hb3⟩
  obtain ⟨A3, c3, rfl, hlc, hcm, hrd3⟩ := hrow3.rdc
  have HB3 := Lib.hid (HB2.out.trans (hb3.mono HB2.out.size))
  have HD3 := Lib.hid hrd3
  clear hb3 hrow3 hrd3 HB2
  by_cases hneg : cut < 0
  · go_wp2_with (go_at_call 12; refine (num_any _ _).mono ?_; rintro e w' ⟨rfl, rfl⟩)
    go_ret
    exact ⟨rfl, HB3.out⟩
  by_cases hbig : (want.length : Int) ≤ cut
  · go_wp2_with (go_at_call 12; refine (num_any _ _).mono ?_; rintro e w' ⟨rfl, rfl⟩)
    go_ret
    exact ⟨rfl, HB3.out⟩
  obtain ⟨q, rfl⟩ := Int.eq_ofNat_of_zero_le (show 0 ≤ cut by omega)
  have hq : q < want.length := by omega
  have hqc : q ≤ c3 := by omega
  obtain ⟨b3, off3, rfl, hb3, _⟩ := HD3.out (by omega)
  have hql : (want.take q).length = q := by rw [List.length_take]; omega
  have HRD := read_any (some ⟨b3, off3, none⟩) c3 (want.take q) w3 (rd_take HD3.out q) (HBY.out.take q) (by omega)
  rw [hql] at HRD
  have HRD := Lib.hid HRD
  have HQL := Lib.hid hql
  clear hneg hbig hql
  go_wp2_with (go_at_call 12; refine (num_any _ _).mono ?_; rintro e w' ⟨rfl, rfl⟩)
  refine HRD.out.mono ?_
  clear HRD
  rintro e W0 ⟨g0, rfl, hrs0, hg0, hb0⟩
  have hg1 := hrs0.lt
  have hN3 := HB3.out.size
  have HBW := Lib.hid (HB3.out.trans (hb0.mono HB3.out.size))
  have HDW := Lib.hid (HD3.out.below hb0)
  have HRS0 := Lib.hid hrs0
  have HL := Lib.hid hlen
  clear hrs0 hb0 HB3 HD3 hlen
  have hTK : Hid (∀ r : List Int, want.take q = want ++ r → False) := Lib.hid fun r e => by
    have := congrArg List.length e
    rw [List.length_take, List.length_append] at this
    omega
  go_wp2_with fail
  go_loopw [8, 9] (fun s8 i wr => ∃ (k : Nat) (gd f : Bool) (r : List Int), i = .int .i64 k ∧ k ≤ l.length ∧ s8 = .bool gd ∧ Hid (RS wr g0 g0 f r) ∧ Hid (Below g0 W0 wr) ∧ Hid (gd = true → f = false → want.take q = wantL (l.take k) ++ r)) (fun _ i _ => l.length - (intOf i).toNat)
  case atStart => exact ⟨0, true, false, want.take q, rfl, Nat.zero_le _, rfl, HRS0, Lib.hid (Below.refl _ _), Lib.hid fun _ _ => rfl⟩
  case round =>
    obtain ⟨k, gd, f, r, rfl, hk, rfl, HS, HB, HI⟩ := hrel
    have hle := HB.out.size
    have hbw := HBW.out.trans (HB.out.mono (show w.heap.size ≤ g0 by omega))
    by_cases hlt : k < l.length
    · obtain ⟨b, off, rfl, hbl, y0, y1, y2, y3, y4⟩ := pt_cells HR.out hbw hlt
      have hmem : l.getD k default ∈ l := by rw [List.getD_eq_getElem?_getD, List.getElem?_eq_getElem hlt]; exact List.getElem_mem _
      have hsome : ∃ x, encP (l.getD k default) = some x := by
        unfold goodB at hgood
        exact Option.isSome_iff_exists.1 (List.all_eq_true.1 hgood _ hmem)
      obtain ⟨x, hx⟩ := hsome
      have HC := Lib.hid (back_any g0 g0 w.heap.size f r x (l.getD k default) wr HS.out ((HOK.out _ hmem).below hbw) (HF.out _ hmem) hx (by omega) hbw.size)
      have HWS := Lib.hid (want_snoc hlt)
      rw [hx] at HWS
      clear hmem hbw
      generalize l.getD k default = p at *
      obtain ⟨kind, tag, n, pA, pc, pb, pLA, plc, pls⟩ := p
      simp only [Pt.cells] at HC
      simp only at y0 y1 y2 y3 y4
      clear hx
      cases gd with
      | true =>
        have HI2 := Lib.hid (HI.out rfl)
        clear HI
        go_wp2_with (go_at_call 16; refine HC.out.mono ?_; clear HC; rintro e w4 ⟨b4, f4, r4, rfl, hrs4, hgr4, hbk⟩)
        have HST : Hid (b4 = true → f4 = false → want.take q = wantL (l.take (k + 1)) ++ r4) := Lib.hid fun e1 e2 => by
          obtain ⟨a1, a2⟩ := hbk.1 e1 e2
          rw [HI2.out a1, HWS.out, a2]
          simp
        have HR4 := Lib.hid hrs4
        have HB4 := Lib.hid (HB.out.grown hgr4 (by omega) (fun k e => by cases e; exact Nat.le_refl _))
        clear hrs4 hgr4 hbk
        go_roundw
        case rel => exact ⟨k + 1, b4, f4, r4, by go_num, by omega, rfl, HR4, HB4, HST⟩
        case measure => simp [intOf]; omega
      | false =>
        go_wp2_with fail
        go_roundw
        case rel => exact ⟨k + 1, false, f, r, by go_num, by omega, rfl, HS, HB, Lib.hid fun e => by cases e⟩
        case measure => simp [intOf]; omega
    · have : k = l.length := by omega
      subst this
      have hI := HI.out
      rw [List.take_length, hW] at hI
      have HBB := Lib.hid hbw
      have HD := Lib.hid (HDW.out.below (HB.out.mono (show w3.heap.size ≤ g0 by omega)))
      have hs3 : w3.heap.size ≤ wr.heap.size := by omega
      have HE := Lib.hid (rend_any g0 g0 f r wr HS.out)
      have HK := Lib.hid (book_some b3 off3 c3 want wr (HD.out.more hs3) HBY.out (by have := HL.out; omega) hlc hcm (by omega))
      have HNO : Hid (gd = true → ¬ (f = false ∧ r = [])) := Lib.hid fun e ⟨e1, e2⟩ => hTK.out [] (by rw [hI e e1, e2])
      have HFIN : Hid (∀ (hs : List Hand) (A4 : Option Addr) (c4 n : Nat) (w5 : World), hs.map Hand.it = items want → RdK kI w5 w5.heap.size A4 hs → Good w5 wr.heap.size hs → Below wr.heap.size wr w5 → n ≤ hs.length → posI ((hs.map Hand.it).take n) ≤ q → (n = hs.length ∨ q < posI ((hs.map Hand.it).take (n + 1))) →
          Calls Try.prog 14 #[.slice (some ⟨b3, off3, none⟩) q c3, .slice A4 n c4, .int .i64 0] w5.drew fun e w' => e = .returned (.bool true) ∧ Below w.heap.size w w') := Lib.hid fun hs A4 c4 n w5 hit hrk hgood hb5 hn h1 h2 => by
        have h3 := items_len _ want (Nat.le_refl _)
        have h4 := congrArg List.length hit
        rw [List.length_map] at h4
        have hlw := HL.out
        have hcut := items_cut n want q (by omega) (by omega) (by rw [← hit]; exact h1) (by rw [← hit, List.length_map]; exact h2)
        have h5 : (hs.take n).length = n := by rw [List.length_take]; omega
        have hd : Below w5.heap.size w5 w5.drew := (Below.refl _ _).drew
        have := once_any (some ⟨b3, off3, none⟩) c3 (want.take q) A4 c4 (hs.take n) 0 w5.drew ((rd_take ((HD.out.below (hb5.mono hs3)).more (Nat.le_trans hs3 hb5.size)) q).below hd) (by rw [HQL.out]; omega) (by rw [h5]; omega) (HBY.out.take q)
          (rdK_take (hrk.on hd) n) (by rw [hcut, ← hit, List.map_take]) (fun x hx => ((hgood x (List.mem_of_mem_take hx)).more hb5.size).below hd)
        rw [HQL.out, h5] at this
        refine this.mono fun e w' ⟨e1, e2⟩ => ⟨e1, ?_⟩
        have hz := HBB.out.size
        exact ((HBB.out.trans (hb5.mono hz)).drew).trans (e2.mono (by have := hb5.size; show w.heap.size ≤ w5.heap.size; omega))
      clear hI HI HS HB HRS0 HR HOK HF HBW HDW hbw HD HBY
      cases gd with
      | true =>
        have HNO2 := HNO.out rfl
        go_wp2_with (first
          | (go_at_call 17; refine HE.out.mono ?_; rintro e w4 ⟨⟨n4, rfl, hn4⟩, rfl⟩; have hn0 : (n4 == 0) = false := by (simpa using fun e => HNO2 (hn4.1 e)))
          | (go_at_call 12; refine (num_any _ _).mono ?_; rintro e w' ⟨rfl, rfl⟩))
        refine HK.out.mono ?_
        clear HK
        rintro e w5 ⟨v5, hs, kk, rfl, hit, hrow5, hgd5, hb5⟩
        obtain ⟨A4, c4, n4, hn4, rfl, hA4, hrd5⟩ := hrow5.rdn
        have hn4' := hn4.out
        subst hn4'
        have HFI : Hid (∀ n, n ≤ hs.length → posI ((hs.map Hand.it).take n) ≤ q → (n = hs.length ∨ q < posI ((hs.map Hand.it).take (n + 1))) →
          Calls Try.prog 14 #[.slice (some ⟨b3, off3, none⟩) q c3, .slice A4 n c4, .int .i64 0] w5.drew fun e w' => e = .returned (.bool true) ∧ Below w.heap.size w w') := Lib.hid fun n => HFIN.out hs A4 c4 n w5 hit hrd5 hgd5 hb5
        have HRD5 := Lib.hid hrd5
        have HA4 := Lib.hid hA4
        have hsm : hs.length ≤ 1000000 := by
          have h3 := items_len _ want (Nat.le_refl _)
          have h4 := congrArg List.length hit
          rw [List.length_map] at h4
          have := HL.out
          omega
        have HPW : Hid (∀ k, posI ((hs.map Hand.it).take k) ≤ 1000000) := Lib.hid fun k => by
          have h3 := pos_items _ want (Nat.le_refl _)
          rw [← hit] at h3
          have h4 := pos_take (hs.map Hand.it) k
          have := HL.out
          omega
        have hc4 : hs.length ≤ c4 := row_cap hrow5
        clear HFIN hit hrow5 hgd5 hb5 hrd5 hn4 hA4
        go_wp2_with fail
        go_loopw [12, 13] (fun at_ i wr => ∃ n : Nat, i = .int .i64 n ∧ at_ = .int .i64 (posI ((hs.map Hand.it).take n)) ∧ n ≤ hs.length ∧ posI ((hs.map Hand.it).take n) ≤ q ∧ wr = w5) (fun _ i _ => hs.length - (intOf i).toNat)
        case atStart => exact ⟨0, rfl, by simp [posI], Nat.zero_le _, by simp [posI], rfl⟩
        case round =>
          obtain ⟨n, rfl, rfl, hn, hp, rfl⟩ := hrel
          by_cases hnl : n < hs.length
          · obtain ⟨b4, off4, rfl, hb4, hc5⟩ := HRD5.out (by omega)
            have z1 : wr.cell? ⟨b4, off4 + n * 2 + 1, none⟩ = some (.slice (hs.getD n default).A (hs.getD n default).bs.length (hs.getD n default).c) := hc5 n hnl 1 _ rfl
            have hps := pos_snoc hnl
            have hpw := HPW.out (n + 1)
            have HF1 := Lib.hid (HFI.out n hn hp)
            clear hc5 HFI
            generalize hs.getD n default = x at *
            generalize posI ((hs.map Hand.it).take n) = P at *
            by_cases hle5 : P + 5 + x.bs.length ≤ q
            · go_wp2_with fail
              go_roundw
              case rel => exact ⟨n + 1, by go_num, by rw [hps]; go_num, by omega, by omega, by trivial⟩
              case measure => simp [intOf]; omega
            · have HC := HF1.out (.inr (by omega))
              have hpw2 : P + 5 + x.bs.length ≤ 1000000 := by omega
              clear HF1 hps hpw
              go_wp2_with fail
              go_region_with (go_at_call 14; refine HC.mono ?_; rintro e w6 ⟨rfl, hb6⟩)
              all_goals
                go_wp2
                go_ret
                exact ⟨rfl, hb6⟩
          · have HC := HFI.out n hn hp (.inl (by omega))
            clear HFI
            generalize posI ((hs.map Hand.it).take n) = P at *
            go_wp2_with fail
            go_region_with (go_at_call 14; refine HC.mono ?_; rintro e w6 ⟨rfl, hb6⟩)
            all_goals
              go_wp2
              go_ret
              exact ⟨rfl, hb6⟩
      | false =>
        clear HE
        go_wp2_with fail
        refine HK.out.mono ?_
        clear HK
        rintro e w5 ⟨v5, hs, kk, rfl, hit, hrow5, hgd5, hb5⟩
        obtain ⟨A4, c4, n4, hn4, rfl, hA4, hrd5⟩ := hrow5.rdn
        have hn4' := hn4.out
        subst hn4'
        have HFI : Hid (∀ n, n ≤ hs.length → posI ((hs.map Hand.it).take n) ≤ q → (n = hs.length ∨ q < posI ((hs.map Hand.it).take (n + 1))) →
          Calls Try.prog 14 #[.slice (some ⟨b3, off3, none⟩) q c3, .slice A4 n c4, .int .i64 0] w5.drew fun e w' => e = .returned (.bool true) ∧ Below w.heap.size w w') := Lib.hid fun n => HFIN.out hs A4 c4 n w5 hit hrd5 hgd5 hb5
        have HRD5 := Lib.hid hrd5
        have HA4 := Lib.hid hA4
        have hsm : hs.length ≤ 1000000 := by
          have h3 := items_len _ want (Nat.le_refl _)
          have h4 := congrArg List.length hit
          rw [List.length_map] at h4
          have := HL.out
          omega
        have HPW : Hid (∀ k, posI ((hs.map Hand.it).take k) ≤ 1000000) := Lib.hid fun k => by
          have h3 := pos_items _ want (Nat.le_refl _)
          rw [← hit] at h3
          have h4 := pos_take (hs.map Hand.it) k
          have := HL.out
          omega
        have hc4 : hs.length ≤ c4 := row_cap hrow5
        clear HFIN hit hrow5 hgd5 hb5 hrd5 hn4 hA4
        go_wp2_with fail
        go_loopw [12, 13] (fun at_ i wr => ∃ n : Nat, i = .int .i64 n ∧ at_ = .int .i64 (posI ((hs.map Hand.it).take n)) ∧ n ≤ hs.length ∧ posI ((hs.map Hand.it).take n) ≤ q ∧ wr = w5) (fun _ i _ => hs.length - (intOf i).toNat)
        case atStart => exact ⟨0, rfl, by simp [posI], Nat.zero_le _, by simp [posI], rfl⟩
        case round =>
          obtain ⟨n, rfl, rfl, hn, hp, rfl⟩ := hrel
          by_cases hnl : n < hs.length
          · obtain ⟨b4, off4, rfl, hb4, hc5⟩ := HRD5.out (by omega)
            have z1 : wr.cell? ⟨b4, off4 + n * 2 + 1, none⟩ = some (.slice (hs.getD n default).A (hs.getD n default).bs.length (hs.getD n default).c) := hc5 n hnl 1 _ rfl
            have hps := pos_snoc hnl
            have hpw := HPW.out (n + 1)
            have HF1 := Lib.hid (HFI.out n hn hp)
            clear hc5 HFI
            generalize hs.getD n default = x at *
            generalize posI ((hs.map Hand.it).take n) = P at *
            by_cases hle5 : P + 5 + x.bs.length ≤ q
            · go_wp2_with fail
              go_roundw
              case rel => exact ⟨n + 1, by go_num, by rw [hps]; go_num, by omega, by omega, by trivial⟩
              case measure => simp [intOf]; omega
            · have HC := HF1.out (.inr (by omega))
              have hpw2 : P + 5 + x.bs.length ≤ 1000000 := by omega
              clear HF1 hps hpw
              go_wp2_with fail
              go_region_with (go_at_call 14; refine HC.mono ?_; rintro e w6 ⟨rfl, hb6⟩)
              all_goals
                go_wp2
                go_ret
                exact ⟨rfl, hb6⟩
          · have HC := HFI.out n hn hp (.inl (by omega))
            clear HFI
            generalize posI ((hs.map Hand.it).take n) = P at *
            go_wp2_with fail
            go_region_with (go_at_call 14; refine HC.mono ?_; rintro e w6 ⟨rfl, hb6⟩)
            all_goals
              go_wp2
              go_ret
              exact ⟨rfl, hb6⟩
end Go.Proofs.Ytiakfdfpikheaaa
