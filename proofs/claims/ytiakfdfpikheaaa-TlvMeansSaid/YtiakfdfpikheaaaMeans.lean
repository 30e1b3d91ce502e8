/- TlvMeans: the walk. -/
import Derived.Test.YtiakfdfpikheaaaMeansR
namespace Go.Proofs.Ytiakfdfpikheaaa
open Go.RowKit Go.Shelf
set_option linter.unusedVariables false
set_option linter.unusedSimpArgs false
attribute [local go_sem] Oper.semAt_some

theorem tail_start {w wx : World} (h : Below w.heap.size w wx) :
    ((wx.alloc (.cells #[.slice none 0 0, .int .i64 0, .int .i64 0] 48)).alloc (.cells #[.pointer (some ⟨wx.heap.size, 0, none⟩)] 32)).heap.size = wx.heap.size + 2 ∧
    Blk ((wx.alloc (.cells #[.slice none 0 0, .int .i64 0, .int .i64 0] 48)).alloc (.cells #[.pointer (some ⟨wx.heap.size, 0, none⟩)] 32)) (wx.heap.size + 1) 32 #[.pointer (some ⟨wx.heap.size, 0, none⟩)] ∧
    Blk ((wx.alloc (.cells #[.slice none 0 0, .int .i64 0, .int .i64 0] 48)).alloc (.cells #[.pointer (some ⟨wx.heap.size, 0, none⟩)] 32)) wx.heap.size 48 #[.slice none 0 0, .int .i64 0, .int .i64 0] ∧
    Below w.heap.size w ((wx.alloc (.cells #[.slice none 0 0, .int .i64 0, .int .i64 0] 48)).alloc (.cells #[.pointer (some ⟨wx.heap.size, 0, none⟩)] 32)) := by
  have h1 := Blk.new (wx.alloc (.cells #[.slice none 0 0, .int .i64 0, .int .i64 0] 48)) 32 #[.pointer (some ⟨wx.heap.size, 0, none⟩)]
  rw [World.size_alloc] at h1
  exact ⟨by simp, h1, (Blk.new wx 48 _).alloc _, (h.alloc h.size _).alloc (by have := h.size; simp; omega) _⟩

set_option maxRecDepth 100000 in
set_option maxHeartbeats 16000000 in
theorem means_any (A : Option Addr) (c : Nat) (l : List Pt) (A1 : Option Addr) (c1 : Nat) (z : List Int) (w : World) (hr : RdK kP w w.heap.size A l) (hok : ∀ p ∈ l, PtOk w w.heap.size p) (hl0 : l.length ≤ maxLen) (hls : ∀ p ∈ l, p.b.length ≤ maxLen ∧ p.ls.length ≤ maxLen)
    (hrz : Rd w w.heap.size A1 z) (hyz : Byt z) (hzc : z.length ≤ c1) (hcm1 : c1 ≤ 9223372036854775807) :
    Calls Try.prog 5 #[.slice A l.length c, .slice A1 z.length c1] w fun e w' => e = .returned (.bool true) ∧ Below w.heap.size w w' := by
  have HR := Lib.hid hr
  have HOK := Lib.hid hok
  have HLS := Lib.hid hls
  have HZ := Lib.hid hrz
  have HYZ := Lib.hid hyz
  clear hr hok hls hrz hyz
  refine (callsIn_wide (n := 3)).1 ?_
  refine callsIn_of_wp_marks Try.func5 rfl trivial ?_ rfl
  refine wpIn_wide.2 ?_
  simp only [Try.ntmps5, List.size_toArray, List.length_cons, List.length_nil, Nat.reduceAdd, Nat.reduceSub, Array.replicate_succ, Array.replicate_zero, List.push_toArray, List.append_toArray, List.nil_append, List.cons_append]
  generalize hQ : bodyPostM _ _ _ _ _ = Q'
  have HQ := Lib.hid hQ
  clear hQ
  go_wp2_with fail
  refine (known_any w).mono ?_
  rintro e w0 ⟨rfl, hb0⟩
  have hs0 := hb0.size
  have HM := Lib.hid (much_any A c l w0 (HR.out.on hb0) (fun p hp => ((HOK.out p hp).below hb0).more hs0) hl0 HLS.out)
  have HB0 := Lib.hid hb0
  clear hb0 HLS
  by_cases hz9 : 9000 < z.length
  · go_wp2_with fail
    refine HM.out.mono ?_
    rintro e w1 ⟨b, rfl, hw, hbf⟩
    have hw' := hw.symm
    subst hw'
    clear HM hw hbf
    cases b <;>
    · go_wp2_with fail
      rw [← HQ.out]
      exact ⟨.bool true, results_tmp (t := 4) rfl _ _ _, rfl, HB0.out⟩
  go_wp2_with fail
  refine HM.out.mono ?_
  rintro e w1 ⟨b, rfl, hw, hbf⟩
  have hw' := hw.symm
  subst hw'
  clear HM hw
  cases b with
  | true =>
    go_wp2_with fail
    rw [← HQ.out]
    exact ⟨.bool true, results_tmp (t := 4) rfl _ _ _, rfl, HB0.out⟩
  | false =>
  obtain ⟨hl, hf⟩ := hbf rfl
  have HF := Lib.hid hf
  clear hf hbf
  have hP := Lib.hid (put_any A c l w0 (HR.out.on HB0.out) (fun p hp => ((HOK.out p hp).below HB0.out).more hs0) HF.out hl)
  have hlen := want_len HF.out l.length (Nat.le_refl _)
  have HBY := Lib.hid (byt_want HOK.out HF.out)
  rw [List.take_length] at hlen
  rw [putL_is] at hP
  cases hgood : goodB l with
  | false =>
    rw [hgood] at hP
    simp only [Bool.false_eq_true, if_false] at hP
    clear hgood
    go_wp2_with fail
    refine hP.out.mono ?_
    clear hP
    rintro e w2 ⟨g, m, rfl, hws, hg, hb2⟩
    have HB2 := Lib.hid (HB0.out.trans (hb2.mono hs0))
    have HE := Lib.hid (end_fail g _ m _ hws)
    clear hws hb2
    go_wp2_with fail
    refine HE.out.mono ?_
    rintro e w3 ⟨rfl, hb3⟩
    have HBX := Lib.hid (HB2.out.trans (hb3.mono HB2.out.size))
    clear hb3 HB2 HE HB0 HBY HF HOK HR
    go_wp2_with (go_at_call 12; refine (num_any _ _).mono ?_; rintro e w' ⟨rfl, rfl⟩)
    have HS := tail_start HBX.out
    have hNX := HBX.out.size
    generalize (w3.alloc (.cells #[.slice none 0 0, .int .i64 0, .int .i64 0] 48)).alloc (.cells #[.pointer (some ⟨w3.heap.size, 0, none⟩)] 32) = W5 at *
    obtain ⟨hs5, h95, hg5, hb5⟩ := HS
    have HA := Lib.hid (fun (W : World) (hb : Below w.heap.size w W) => all_any A1 c1 z W ((HZ.out.below hb).more hb.size) (by omega))
    refine (HA.out W5 hb5).mono ?_
    rintro e w6 ⟨B6, A6, c6, rfl, _, _, _, _, hb6⟩
    have hnf := eql_nil_func (.func 38) #[.pointer (some ⟨B6, 0, none⟩)]
    have HB6 := Lib.hid (hb5.trans (hb6.mono hb5.size))
    have H96 := Lib.hid (h95.on hb6)
    have HG6 := Lib.hid (hg5.on hb6)
    clear h95 hg5 hb5 hb6
    go_wp2_with fail
    refine (HA.out w6 HB6.out).mono ?_
    clear hnf HA
    rintro e w7 ⟨B, A', c', rfl, hbB, hr7, hc1', hc2', hb7⟩
    have HB7 := Lib.hid (HB6.out.trans (hb7.mono HB6.out.size))
    have H97 := Lib.hid (H96.out.on hb7)
    have hN7 := HB7.out.size
    have HG7 := Lib.hid (HG6.out.on hb7)
    have HBB := Lib.hid hbB
    have HR7 := Lib.hid hr7
    clear hbB hr7 hb7 H96 HG6 HB6
    go_wp2_with fail
    refine means_range ?Fw3 w.heap.size (w3.heap.size + 1) w3.heap.size B A' c' z w rfl rfl (by omega) hc1' hc2' HYZ.out HBB.out HR7.out H97.out HG7.out (by omega) (by omega) (by omega) HB7.out ?hassignw3 ?hbodyw3 ?hdonew3
    case hassignw3 =>
      intro lb x W K hK
      gi_wp2
      exact hK
    case hbodyw3 =>
      intro lb x W R h9 hC
      have c9 := h9.cell 0
      have HC := Lib.hid hC
      clear h9 hC HBB HR7 H97 HG7 HB7 HZ HYZ HBX
      gi_wp2_with (refine ⟨trivial, ?_⟩; gi_at_call 19; refine (CallsIn.inRound lb (callsIn_wide.2 HC.out)).mono ?_; rintro e w8 ⟨rfl, h98, hR8⟩; have f98 := h98.frozen 0; have c98 := h98.cell 0; have HR8 := Lib.hid hR8; clear hR8 h98 HC)
      exact HR8.out
    case hdonew3 =>
      intro D ys W hD hys hI hK
      obtain ⟨m8, hm8, v8, hb8, hr8⟩ := hI.ws
      have hE : ∃ E r, encH ys = E ∧ z = E ++ r := by
        obtain ⟨r, hr⟩ := enc_items _ z (Nat.le_refl _) HYZ.out
        exact ⟨_, r, rfl, by unfold encH; rw [hys]; exact hr⟩
      obtain ⟨E, r, hE1, hE2⟩ := hE
      rw [hE1] at hr8
      have hzl := congrArg List.length hE2
      rw [List.length_append] at hzl
      have hzE : E.length ≤ z.length := by omega
      clear hzl
      have HE := Lib.hid (end_ok w3.heap.size v8 m8 E w7.heap.size W hb8 hr8 (by omega))
      have c9 := hI.box.cell 0
      have HBW := Lib.hid hI.bel
      have HKD := Lib.hid hK
      have hle8 := hI.le
      have HDL := Lib.hid (Array.getElem?_eq_some_iff.1 hK).1
      have HRE : Hid (∀ W', Below w.heap.size w W' → Rd W' w.heap.size A1 E) := Lib.hid fun W' hb => by
        have h1 := rd_take (HZ.out.below hb) E.length
        have e : z.take E.length = E := by rw [hE2]; simp
        rwa [e] at h1
      clear hI hb8 hr8 hK hE1 hE2 hys HBB HR7 H97 HG7 HB7 HYZ
      go_wp2_with fail
      refine HE.out.mono ?_
      clear HE
      rintro e w9 ⟨v9, rfl, hr9, hb9⟩
      obtain ⟨A9, c9', rfl, hl9, hm9, hd9⟩ := hr9.rdc
      have HB9 := Lib.hid (HBW.out.trans (hb9.mono HBW.out.size))
      have HK9 : Hid (∀ n, (w9.drewN n).heap[D]? = some (.deferred (some []))) := Lib.hid fun n => (hb9.block D HDL.out).trans HKD.out
      have hcx := fun n => conv_of (w9.drewN n) A1 c1 w.heap.size E (HRE.out _ (below_drewN HB9.out n)) (by cases A1 <;> simp)
      have hcy := fun n => conv_of (w9.drewN n) A9 c9' w9.heap.size E (hd9.drewN n) (by cases A9 <;> simp)
      have HNQ : Hid (∀ n, Calls Try.prog 12 #[.int .i64 0] (w9.drewN n) fun e w' => e = .returned (.int .i64 0) ∧ ∃ m, w' = w9.drewN m) := Lib.hid fun n => (num_any 0 _).mono fun e w' ⟨h1, h2⟩ => ⟨h1, n, h2.symm⟩
      have hE9 : E.length ≤ c1 := by omega
      clear hr9 hb9 hd9 HRE HBW HKD HDL
      go_wp2_with fail
      go_quiet ((go_at_call 12; exact HNQ.out _))
      go_wp2
      rw [← HQ.out]
      exact ⟨by simp, .inl ⟨_, _, rfl, run_takeDeferred (HK9.out _), .bool true, results_tmp (t := 4) rfl _ _ _, rfl, below_put (below_drewN HB9.out _) (by have := HB9.out.size; show w.heap.size ≤ w9.heap.size; omega) (by omega) _⟩⟩
  | true =>
  rw [hgood] at hP
  simp only [if_true] at hP
  have hW2 : ∃ want, wantL l = want := ⟨_, rfl⟩
  obtain ⟨want, hW⟩ := hW2
  rw [hW] at hP hlen HBY
  go_wp2_with fail
  refine hP.out.mono ?_
  clear hP
  rintro e w2 ⟨g, m, rfl, ⟨v, hblk, hrow⟩, hg, hb2⟩
  have HB2 := Lib.hid (HB0.out.trans (hb2.mono hs0))
  have HE := Lib.hid (end_ok g v m want _ w2 hblk hrow (by omega))
  clear hblk hrow hb2
  go_wp2_with fail
  refine HE.out.mono ?_
  clear HE
  rintro e w3 ⟨v3, rfl, hrow3, hb3⟩
  obtain ⟨A3, c3, rfl, hlc, hcm, hrd3⟩ := hrow3.rdc
  have HB3 := Lib.hid (HB2.out.trans (hb3.mono HB2.out.size))
  have HRD := Lib.hid (read_any A3 c3 want w3 hrd3 HBY.out (by omega))
  clear hb3 hrow3 hrd3 HB2 HB0
  go_wp2_with (go_at_call 12; refine (num_any _ _).mono ?_; rintro e w' ⟨rfl, rfl⟩)
  refine HRD.out.mono ?_
  clear HRD
  rintro e W0 ⟨g0, rfl, hrs0, hg0, hb0⟩
  have hg1 := hrs0.lt
  have hN3 := HB3.out.size
  have HBW := Lib.hid (HB3.out.trans (hb0.mono HB3.out.size))
  have HRS0 := Lib.hid hrs0
  clear hrs0 hb0 HB3 HBY
  have HEND : Hid (∀ k, k ≤ l.length → ∃ y, want = wantL (l.take k) ++ y ∧ y = (l.drop k).flatMap fun p => (encP p).getD []) := Lib.hid fun k _ => ⟨_, by rw [← hW]; unfold wantL; rw [← List.flatMap_append, List.take_append_drop], rfl⟩
  go_wp2_with fail
  go_loopw [8] (fun i wr => ∃ (k : Nat), i = .int .i64 k ∧ k ≤ l.length ∧ Hid (RS wr g0 g0 false ((l.drop k).flatMap fun p => (encP p).getD [])) ∧ Hid (Below g0 W0 wr)) (fun i _ => l.length - (intOf i).toNat)
  case atStart => exact ⟨0, rfl, Nat.zero_le _, Lib.hid (by rw [List.drop_zero]; show RS _ _ _ _ (wantL l); rw [hW]; exact HRS0.out), Lib.hid (Below.refl _ _)⟩
  case round =>
    obtain ⟨k, rfl, hk, HS, HB⟩ := hrel
    have hle := HB.out.size
    have hbw := HBW.out.trans (HB.out.mono (show w.heap.size ≤ g0 by omega))
    by_cases hlt : k < l.length
    · obtain ⟨b, off, rfl, hbl, y0, y1, y2, y3, y4⟩ := pt_cells HR.out hbw hlt
      have hmem : l.getD k default ∈ l := by rw [List.getD_eq_getElem?_getD, List.getElem?_eq_getElem hlt]; exact List.getElem_mem _
      have hsome : ∃ x, encP (l.getD k default) = some x := by
        unfold goodB at hgood
        exact Option.isSome_iff_exists.1 (List.all_eq_true.1 hgood _ hmem)
      obtain ⟨x, hx⟩ := hsome
      have hsp : (l.drop k).flatMap (fun p => (encP p).getD []) = x ++ (l.drop (k + 1)).flatMap (fun p => (encP p).getD []) := by
        rw [List.drop_eq_getElem_cons hlt, List.flatMap_cons]
        have e : l[k] = l.getD k default := by rw [List.getD_eq_getElem?_getD, List.getElem?_eq_getElem hlt]; rfl
        rw [e, hx]
        rfl
      have HC := Lib.hid (back_any g0 g0 w.heap.size false _ x (l.getD k default) wr HS.out ((HOK.out _ hmem).below hbw) (HF.out _ hmem) hx (by omega) hbw.size)
      rw [hsp] at HC
      clear hmem hbw hsp HEND HRS0
      generalize l.getD k default = p at *
      obtain ⟨r1, hr1e⟩ : ∃ r1, (l.drop (k + 1)).flatMap (fun p => (encP p).getD []) = r1 := ⟨_, rfl⟩
      rw [hr1e] at HC
      have HR1 := Lib.hid hr1e
      clear hr1e
      obtain ⟨kind, tag, n, pA, pc, pb, pLA, plc, pls⟩ := p
      simp only [Pt.cells] at HC
      simp only at y0 y1 y2 y3 y4
      clear hx
      go_wp2_with fail
      refine HC.out.mono ?_
      clear HC
      rintro e w4 ⟨b4, f4, r4, rfl, hrs4, hgr4, hbk⟩
      obtain ⟨e1, e2, e3⟩ := hbk.2 r1 rfl rfl
      subst e1 e2 e3
      have HR4 := Lib.hid hrs4
      have HB4 := Lib.hid (HB.out.grown hgr4 (by omega) (fun k e => by cases e; exact Nat.le_refl _))
      clear hrs4 hgr4 hbk
      go_wp2_with fail
      go_roundw
      case rel => exact ⟨k + 1, by go_num, by omega, Lib.hid (by rw [HR1.out]; exact HR4.out), HB4⟩
      case measure => simp only [intOf]; omega
    · have : k = l.length := by omega
      subst this
      have hs1 := HS.out
      rw [List.drop_length] at hs1
      have HE := Lib.hid (rend_any g0 g0 false [] wr hs1)
      have HBX := Lib.hid hbw
      clear HS HB HRS0 HR HOK HF HBW hbw hs1 HEND
      go_wp2_with fail
      refine HE.out.mono ?_
      rintro e w4 ⟨⟨n4, rfl, hn4⟩, rfl⟩
      have hn0 : n4 = 0 := hn4.2 (by simp)
      subst hn0
      clear hn4 HE hle hlen
      go_wp2_with (go_at_call 12; refine (num_any _ _).mono ?_; rintro e w' ⟨rfl, rfl⟩)
      have HS := tail_start HBX.out
      have hNX := HBX.out.size
      generalize (w4.alloc (.cells #[.slice none 0 0, .int .i64 0, .int .i64 0] 48)).alloc (.cells #[.pointer (some ⟨w4.heap.size, 0, none⟩)] 32) = W5 at *
      obtain ⟨hs5, h95, hg5, hb5⟩ := HS
      have HA := Lib.hid (fun (W : World) (hb : Below w.heap.size w W) => all_any A1 c1 z W ((HZ.out.below hb).more hb.size) (by omega))
      refine (HA.out W5 hb5).mono ?_
      rintro e w6 ⟨B6, A6, c6, rfl, _, _, _, _, hb6⟩
      have hnf := eql_nil_func (.func 38) #[.pointer (some ⟨B6, 0, none⟩)]
      have HB6 := Lib.hid (hb5.trans (hb6.mono hb5.size))
      have H96 := Lib.hid (h95.on hb6)
      have HG6 := Lib.hid (hg5.on hb6)
      clear h95 hg5 hb5 hb6
      go_wp2_with fail
      refine (HA.out w6 HB6.out).mono ?_
      clear hnf HA
      rintro e w7 ⟨B, A', c', rfl, hbB, hr7, hc1', hc2', hb7⟩
      have HB7 := Lib.hid (HB6.out.trans (hb7.mono HB6.out.size))
      have H97 := Lib.hid (H96.out.on hb7)
      have hN7 := HB7.out.size
      have HG7 := Lib.hid (HG6.out.on hb7)
      have HBB := Lib.hid hbB
      have HR7 := Lib.hid hr7
      clear hbB hr7 hb7 H96 HG6 HB6
      go_wp2_with fail
      refine means_range ?Fw4 w.heap.size (w4.heap.size + 1) w4.heap.size B A' c' z w rfl rfl (by omega) hc1' hc2' HYZ.out HBB.out HR7.out H97.out HG7.out (by omega) (by omega) (by omega) HB7.out ?hassignw4 ?hbodyw4 ?hdonew4
      case hassignw4 =>
        intro lb x W K hK
        gi_wp2
        exact hK
      case hbodyw4 =>
        intro lb x W R h9 hC
        have c9 := h9.cell 0
        have HC := Lib.hid hC
        clear h9 hC HBB HR7 H97 HG7 HB7 HZ HYZ HBX
        gi_wp2_with (refine ⟨trivial, ?_⟩; gi_at_call 19; refine (CallsIn.inRound lb (callsIn_wide.2 HC.out)).mono ?_; rintro e w8 ⟨rfl, h98, hR8⟩; have f98 := h98.frozen 0; have c98 := h98.cell 0; have HR8 := Lib.hid hR8; clear hR8 h98 HC)
        exact HR8.out
      case hdonew4 =>
        intro D ys W hD hys hI hK
        obtain ⟨m8, hm8, v8, hb8, hr8⟩ := hI.ws
        have hE : ∃ E r, encH ys = E ∧ z = E ++ r := by
          obtain ⟨r, hr⟩ := enc_items _ z (Nat.le_refl _) HYZ.out
          exact ⟨_, r, rfl, by unfold encH; rw [hys]; exact hr⟩
        obtain ⟨E, r, hE1, hE2⟩ := hE
        rw [hE1] at hr8
        have hzl := congrArg List.length hE2
        rw [List.length_append] at hzl
        have hzE : E.length ≤ z.length := by omega
        clear hzl
        have HE := Lib.hid (end_ok w4.heap.size v8 m8 E w7.heap.size W hb8 hr8 (by omega))
        have c9 := hI.box.cell 0
        have HBW := Lib.hid hI.bel
        have HKD := Lib.hid hK
        have hle8 := hI.le
        have HDL := Lib.hid (Array.getElem?_eq_some_iff.1 hK).1
        have HRE : Hid (∀ W', Below w.heap.size w W' → Rd W' w.heap.size A1 E) := Lib.hid fun W' hb => by
          have h1 := rd_take (HZ.out.below hb) E.length
          have e : z.take E.length = E := by rw [hE2]; simp
          rwa [e] at h1
        clear hI hb8 hr8 hK hE1 hE2 hys HBB HR7 H97 HG7 HB7 HYZ
        go_wp2_with fail
        refine HE.out.mono ?_
        clear HE
        rintro e w9 ⟨v9, rfl, hr9, hb9⟩
        obtain ⟨A9, c9', rfl, hl9, hm9, hd9⟩ := hr9.rdc
        have HB9 := Lib.hid (HBW.out.trans (hb9.mono HBW.out.size))
        have HK9 : Hid (∀ n, (w9.drewN n).heap[D]? = some (.deferred (some []))) := Lib.hid fun n => (hb9.block D HDL.out).trans HKD.out
        have hcx := fun n => conv_of (w9.drewN n) A1 c1 w.heap.size E (HRE.out _ (below_drewN HB9.out n)) (by cases A1 <;> simp)
        have hcy := fun n => conv_of (w9.drewN n) A9 c9' w9.heap.size E (hd9.drewN n) (by cases A9 <;> simp)
        have HNQ : Hid (∀ n, Calls Try.prog 12 #[.int .i64 0] (w9.drewN n) fun e w' => e = .returned (.int .i64 0) ∧ ∃ m, w' = w9.drewN m) := Lib.hid fun n => (num_any 0 _).mono fun e w' ⟨h1, h2⟩ => ⟨h1, n, h2.symm⟩
        have hE9 : E.length ≤ c1 := by omega
        clear hr9 hb9 hd9 HRE HBW HKD HDL
        go_wp2_with fail
        go_quiet ((go_at_call 12; exact HNQ.out _))
        go_wp2
        rw [← HQ.out]
        exact ⟨by simp, .inl ⟨_, _, rfl, run_takeDeferred (HK9.out _), .bool true, results_tmp (t := 4) rfl _ _ _, rfl, below_put (below_drewN HB9.out _) (by have := HB9.out.size; show w.heap.size ≤ w9.heap.size; omega) (by omega) _⟩⟩
end Go.Proofs.Ytiakfdfpikheaaa
