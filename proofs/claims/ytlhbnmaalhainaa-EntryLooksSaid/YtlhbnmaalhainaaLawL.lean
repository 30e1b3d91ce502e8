/- The law on how attributes stand, and on entries. -/
import Derived.Test.YtlhbnmaalhainaaCopy
namespace Go.Proofs.Ytlhbnmaalhainaa
open Go.RowKit Go.Lib Go.Sort
set_option linter.unusedVariables false
set_option linter.unusedSimpArgs false

theorem compare_below (x y : At) (w : World) : Calls Try.prog 37 #[x.val, y.val] w fun e w' => e = .returned (.int .i64 (cmpA x y)) ∧ Below w.heap.size w w' := (compare_any x y w).mono fun e w' ⟨h1, h2⟩ => ⟨h1, by
  rw [h2]
  exact below_drew ((((Below.refl _ _).alloc (Nat.le_refl _) _).alloc (by simp) _).alloc (by simp; omega) _)⟩
/-- A row of attributes that may be written. -/
def Wri (w : World) (g n : Nat) : Prop := ∃ cur : Array Value, Blk w g 29 cur ∧ n * 2 ≤ cur.size
theorem Wri.at_ {w : World} {g n : Nat} (h : Wri w g n) {k : Nat} (hk : k < n) : ∃ u, w.cell? ⟨g, k * 2, none⟩ = some u ∧ w.frozen? ⟨g, k * 2, none⟩ = false := by
  obtain ⟨cur, hb, hs⟩ := h
  have hlt : k * 2 < cur.size := by omega
  exact ⟨cur[k * 2], by rw [hb.cell]; exact Array.getElem?_eq_getElem hlt, hb.frozen _⟩
theorem Wri.set {w : World} {g n : Nat} (h : Wri w g n) (i : Nat) (u : Value) : Wri (w.setCell ⟨g, i, none⟩ u) g n := by
  obtain ⟨cur, hb, hs⟩ := h
  exact ⟨_, hb.set_ i u, by simpa using hs⟩
theorem RowK.wri {w : World} {base n c : Nat} {A : Option Addr} {l : List At} (h : RowK kA w base (.slice A n c) l) (hp : 0 < n) : ∃ g, A = some ⟨g, 0, none⟩ ∧ base ≤ g ∧ g < w.heap.size ∧ Wri w g n := by
  rcases h.2 with ⟨e, h0⟩ | ⟨g, cap, cur, e, hg, hh, h5, h6, h7, h8⟩
  · injection e with e1 e2 e3
    omega
  · injection e with e1 e2 e3
    subst e1 e3
    have hn : n = l.length := e2
    refine ⟨g, rfl, hg, (Array.getElem?_eq_some_iff.1 hh).1, cur, hh, ?_⟩
    have h7' : cur.size = c * 2 := h7
    omega
abbrev KnownL (w : World) (args : Array Value) : Prop := Calls Try.prog 5 args w fun e w' => e = .returned (.bool true) ∧ Below w.heap.size w w'
def AskL (l by' : List At) (name : List UInt8) : Prop := muchV l = false ∧ muchV by' = false ∧ name.length ≤ 9000
set_option maxRecDepth 100000 in
set_option maxHeartbeats 8000000 in
theorem looks_out (l by' : List At) (name : List UInt8) (v vb : Value) (w : World) (hv : RdV w v l) (hvb : RdV w vb by') (hs : Sm l) (hsb : Sm by') (hl : l.length ≤ 9223372036854775807) (hlb : by'.length ≤ 9223372036854775807) (hn : name.length ≤ 9223372036854775807) (h : ¬ AskL l by' name) :
    KnownL w #[v, vb, .string (sx name)] := by
  have HM1 := Lib.hid (much_any l v w hv hs hl)
  have HM2 := Lib.hid fun W' (hb : Below w.heap.size w W') => much_any by' vb W' (hvb.on hb) hsb hlb
  have HK := Lib.hid fun W => known_any W
  have z1 := sx_size name
  have hcases : muchV l = true ∨ (muchV l = false ∧ muchV by' = true) ∨ (muchV l = false ∧ muchV by' = false ∧ 9000 < name.length) := by
    unfold AskL at h
    cases h1 : muchV l <;> cases h2 : muchV by' <;> simp [h1, h2] at h ⊢
    exact h
  obtain ⟨A, c, rfl, _, _⟩ := hv
  obtain ⟨B, d, rfl, _, _⟩ := hvb
  clear h hs hsb
  generalize name.length = tn at z1 hcases hn
  generalize muchV l = r1 at HM1 hcases
  generalize muchV by' = r2 at HM2 hcases
  generalize l.length = n at HM1 hl ⊢
  generalize by'.length = m at HM2 hlb ⊢
  rcases hcases with rfl | ⟨rfl, rfl⟩ | ⟨rfl, rfl, hc⟩
  · go_enter Try.func5, Try.ntmps5
    go_wp2_with (first
      | (go_at_call 9; (with_reducible refine HM1.out.mono ?_); rintro e w1 ⟨rfl, hb1⟩; have HB1 := Lib.hid hb1; clear hb1 HM1)
      | (go_at_call 10; (with_reducible refine (HK.out _).mono ?_); rintro e w9 ⟨rfl, hb9⟩; have HB9 := Lib.hid (HB1.out.trans (hb9.mono HB1.out.size))))
    go_ret
    exact ⟨rfl, HB9.out⟩
  · go_enter Try.func5, Try.ntmps5
    go_wp2_with (first
      | (go_at_call 9; (with_reducible refine HM1.out.mono ?_); rintro e w1 ⟨rfl, hb1⟩; have HB1 := Lib.hid hb1; clear hb1 HM1)
      | (go_at_call 9; (with_reducible refine (HM2.out _ HB1.out).mono ?_); rintro e w2 ⟨rfl, hb2⟩; have HB2 := Lib.hid (HB1.out.trans (hb2.mono HB1.out.size)); clear hb2 HM2)
      | (go_at_call 10; (with_reducible refine (HK.out _).mono ?_); rintro e w9 ⟨rfl, hb9⟩; have HB9 := Lib.hid (HB2.out.trans (hb9.mono HB2.out.size))))
    go_ret
    exact ⟨rfl, HB9.out⟩
  · go_enter Try.func5, Try.ntmps5
    go_wp2_with (first
      | (go_at_call 9; (with_reducible refine HM1.out.mono ?_); rintro e w1 ⟨rfl, hb1⟩; have HB1 := Lib.hid hb1; clear hb1 HM1)
      | (go_at_call 9; (with_reducible refine (HM2.out _ HB1.out).mono ?_); rintro e w2 ⟨rfl, hb2⟩; have HB2 := Lib.hid (HB1.out.trans (hb2.mono HB1.out.size)); clear hb2 HM2)
      | (go_at_call 10; (with_reducible refine (HK.out _).mono ?_); rintro e w9 ⟨rfl, hb9⟩; have HB9 := Lib.hid (HB2.out.trans (hb9.mono HB2.out.size))))
    go_ret
    exact ⟨rfl, HB9.out⟩
theorem cmp_cases (x y : At) : (ltA x y = true ∧ ltA y x = false ∧ cmpA x y = -1) ∨ (ltA x y = false ∧ ltA y x = true ∧ cmpA x y = 1) ∨ (ltA x y = false ∧ ltA y x = false ∧ cmpA x y = 0) := by
  unfold cmpA
  rcases ltA_tri x y with h | h | h
  · exact .inl ⟨h, ltA_asymm h, by rw [if_pos h]⟩
  · subst h; exact .inr (.inr ⟨ltA_irrefl x, ltA_irrefl x, by rw [if_neg (by rw [ltA_irrefl]; decide), if_neg (by rw [ltA_irrefl]; decide)]⟩)
  · exact .inr (.inl ⟨ltA_asymm h, h, by rw [if_neg (by rw [ltA_asymm h]; decide), if_pos h]⟩)
set_option maxRecDepth 100000 in
set_option maxHeartbeats 8000000 in
theorem looks_in (l by' : List At) (name : List UInt8) (v vb : Value) (w : World) (hv : RdV w v l) (hvb : RdV w vb by') (hs : Sm l) (hsb : Sm by') (hn0 : name.length ≤ 9223372036854775807) (h : AskL l by' name) :
    KnownL w #[v, vb, .string (sx name)] := by
  obtain ⟨h1, h2, h3⟩ := h
  have hl := much_len h1
  have hlb := much_len h2
  have z1 := sx_size name
  have HM1 := Lib.hid (much_any l v w hv hs (by omega))
  have HM2 := Lib.hid fun W' (hb : Below w.heap.size w W') => much_any by' vb W' (hvb.on hb) hsb (by omega)
  rw [h1] at HM1
  rw [h2] at HM2
  have HC := Lib.hid fun W' (hb : Below w.heap.size w W') => change_any l by' v vb W' (hv.on hb) (hvb.on hb) hs hsb (by omega) (by omega)
  have HRC := Lib.hid fun W' (hb : Below w.heap.size w W') => refChange_any l by' v vb W' (hv.on hb) (hvb.on hb) hs hsb (by omega) (by omega)
  have HSO := Lib.hid fun W' (hb : Below w.heap.size w W') => sorted_any v l W' (hv.on hb) (by omega)
  have HRS := Lib.hid fun W' (hb : Below w.heap.size w W') => refSorted_any l v W' (hv.on hb) (by omega)
  have HHL := Lib.hid fun y W' (hb : Below w.heap.size w W') => has_any l y v W' (hv.on hb) (by omega)
  have HLL := Lib.hid fun y W' (hb : Below w.heap.size w W') => lhas_any l y v W' (hv.on hb) (by omega)
  have HK := Lib.hid fun W => known_any W
  have HV := Lib.hid (And.intro hv hvb)
  have HCR : Hid ((changeR l by').1.length ≤ 9223372036854775807) := Lib.hid (by
    unfold changeR
    split
    · split
      · simp
      · have := change_len l by'; show (changeL l by').length ≤ _; omega
    · simp)
  have HSL : Hid ((sortA l).length ≤ 9223372036854775807) := Lib.hid (by have := sort_len l; omega)
  obtain ⟨A, c, rfl, ⟨hAc, _, _⟩, hr⟩ := hv
  obtain ⟨B, d, rfl, _, hrb⟩ := hvb
  have HR := Lib.hid (And.intro hr hrb)
  have HAC := Lib.hid hAc
  obtain ⟨n, hn⟩ : ∃ n, n = l.length := ⟨_, rfl⟩
  obtain ⟨m, hm⟩ : ∃ m, m = by'.length := ⟨_, rfl⟩
  have HN := Lib.hid (And.intro hn hm)
  rw [← hn] at HM1 HC HRC HSO HRS HHL HLL hl ⊢
  rw [← hm] at HM2 HC HRC hlb ⊢
  rw [← hn, ← hm] at HV
  clear h1 h2 hs hsb hr hrb hn hm hAc hn0
  generalize changeR l by' = cr at HC HRC HCR
  obtain ⟨crl, cre⟩ := cr
  dsimp only at HCR
  generalize sortA l = so at HSO HRS HSL
  go_enter Try.func5, Try.ntmps5
  go_wp2_with (first
    | (go_at_call 9; (with_reducible refine HM1.out.mono ?_); rintro e w1 ⟨rfl, hb1⟩; have HB1 := Lib.hid hb1; clear hb1 HM1)
    | (go_at_call 9; (with_reducible refine (HM2.out _ HB1.out).mono ?_); rintro e w2 ⟨rfl, hb2⟩; have HB2 := Lib.hid (HB1.out.trans (hb2.mono HB1.out.size)); clear hb2 HM2)
    | (go_at_call 32; (with_reducible refine (HC.out _ HB2.out).mono ?_); clear HC; rintro e w3 ⟨v3, rfl, hv3, hb3⟩; have HB3 := Lib.hid (HB2.out.trans (hb3.mono HB2.out.size)); clear hb3; have HV3 := Lib.hid hv3; obtain ⟨A3, c3, rfl, _, _⟩ := hv3)
    | (go_at_call 33; (with_reducible refine (HRC.out _ HB3.out).mono ?_); clear HRC; rintro e w4 ⟨v4, rfl, hv4, hb4⟩; have HB4 := Lib.hid (HB3.out.trans (hb4.mono HB3.out.size)); have hs4 := refSame_any crl crl _ _ w4 (HV3.out.on hb4) hv4 HCR.out HCR.out; rw [decide_eq_true rfl] at hs4; have HS4 := Lib.hid hs4; clear hb4 hs4 HV3; obtain ⟨A4, c4, rfl, _, _⟩ := hv4)
    | (go_at_call 30; (with_reducible refine HS4.out.mono ?_); clear HS4; rintro e w5 ⟨rfl, hb5⟩; have HB5 := Lib.hid (HB4.out.trans (hb5.mono HB4.out.size)); clear hb5)
    | (go_at_call 23; (with_reducible refine (num_any _ _).mono ?_); rintro e w6 ⟨rfl, rfl⟩)
    | (go_at_call 34; (with_reducible refine (HSO.out _ HB5.out).mono ?_); clear HSO; rintro e w7 ⟨v7, rfl, hv7, hb7⟩; have HB7 := Lib.hid (HB5.out.trans (hb7.mono HB5.out.size)); clear hb7; have HV7 := Lib.hid hv7; obtain ⟨A7, c7, rfl, _, _⟩ := hv7)
    | (go_at_call 35; (with_reducible refine (HRS.out _ HB7.out).mono ?_); clear HRS; rintro e w8 ⟨v8, rfl, hv8, hb8⟩; have HB8 := Lib.hid (HB7.out.trans (hb8.mono HB7.out.size)); have hs8 := refSame_any so so _ _ w8 (HV7.out.on hb8) hv8 HSL.out HSL.out; rw [decide_eq_true rfl] at hs8; have HS8 := Lib.hid hs8; clear hb8 hs8 HV7; obtain ⟨A8, c8, rfl, _, _⟩ := hv8)
    | (go_at_call 30; (with_reducible refine HS8.out.mono ?_); clear HS8; rintro e w9 ⟨rfl, hb9⟩; have HB9 := Lib.hid (HB8.out.trans (hb9.mono HB8.out.size)); clear hb9))
  go_loopw [11] (fun s11 wr => ∃ k : Nat, s11 = .int .i64 k ∧ k ≤ n ∧ Hid (Below w.heap.size w wr)) (fun s11 _ => n - (intOf s11).toNat)
  case atStart => exact ⟨0, rfl, Nat.zero_le _, HB9⟩
  case round =>
    obtain ⟨k, rfl, hk, HB⟩ := hrel
    by_cases hkk : k < n ∧ k < m
    · obtain ⟨hkn, hkm⟩ := hkk
      have hkl : k < l.length := by have := HN.out; omega
      have hkl2 : k < by'.length := by have := HN.out; omega
      obtain ⟨b1, o1, rfl, hlt1, c0, c1⟩ := at_cells HR.out.1 (Below.refl _ _) hkl
      obtain ⟨b2, o2, rfl, hlt2, d0, d1⟩ := at_cells HR.out.2 (Below.refl _ _) hkl2
      have hmem : l.getD k default ∈ l := by rw [getD_at l k hkl]; exact List.getElem_mem _
      generalize l.getD k default = x at c0 c1 hmem
      generalize by'.getD k default = y at d0 d1
      have HCE := Lib.hid fun W' (hb : Below w.heap.size w W') => And.intro ((hb.cell (p := ⟨b1, o1 + k * 2, none⟩) hlt1).trans c0) (And.intro ((hb.cell (p := ⟨b1, o1 + k * 2 + 1, none⟩) hlt1).trans c1) (And.intro ((hb.cell (p := ⟨b2, o2 + k * 2, none⟩) hlt2).trans d0) ((hb.cell (p := ⟨b2, o2 + k * 2 + 1, none⟩) hlt2).trans d1)))
      have hlxy := fun W => less_any x y W
      have hlyx := fun W => less_any y x W
      have hcxy := fun W => compare_below x y W
      have hhx := fun W hb => HHL.out x W hb
      rw [decide_eq_true hmem] at hhx
      have hhy := fun W hb => HHL.out y W hb
      have hly := fun W hb => HLL.out y W hb
      clear c0 c1 d0 d1 hmem hlt1 hlt2
      rcases cmp_cases x y with ⟨hq1, hq2, hq3⟩ | ⟨hq1, hq2, hq3⟩ | ⟨hq1, hq2, hq3⟩
      · rw [hq1] at hlxy
        rw [hq2] at hlyx
        rw [hq3] at hcxy
        clear hq1 hq2 hq3
        obtain ⟨f0, f1, f2, f3⟩ := HCE.out _ HB.out
        have e0 := cell_regrown f0
        have e1 := cell_regrown f1
        have e2 := cell_regrown f2
        have e3 := cell_regrown f3
        clear f0 f1 f2 f3
        have cA := fun d os => Calls.regrown_of (hlxy (grow (redrawn wr d) os))
        go_wp2_with fail
        refine wp_region_quiet_below (by kernel_rfl) (by kernel_rfl) ?_
        repeat
          with_reducible refine wpQuiet_step (fun K hK => ?_)
          go_simp
          first
            | (with_reducible refine hK _ ?_; clear hK K)
            | (rw [if_neg (by first | decide | (intro h; cases h))]; with_reducible refine hK _ ?_; clear hK K)
            | (apply Exists.intro; refine ⟨fun _ => ?_, hK _ ?_⟩; (first | with_reducible exact cA _ _); clear hK K)
        with_reducible refine wpQuiet_nil ?_
        rintro _ ⟨⟨dq, osq⟩, rfl⟩
        have HY1 := Lib.hid (HB.out.trans ((below_regrown wr dq osq).mono HB.out.size))
        clear e0 e1 e2 e3 cA hlxy
        generalize grow (redrawn wr dq) osq = y1 at HY1 ⊢
        go_wp2_with fail
        obtain ⟨f0, f1, f2, f3⟩ := HCE.out _ HY1.out
        have e0 := cell_regrown f0
        have e1 := cell_regrown f1
        have e2 := cell_regrown f2
        have e3 := cell_regrown f3
        clear f0 f1 f2 f3
        have cA := fun d os => Calls.regrown_of (hlyx (grow (redrawn y1 d) os))
        refine wp_region_quiet_below (by kernel_rfl) (by kernel_rfl) ?_
        repeat
          with_reducible refine wpQuiet_step (fun K hK => ?_)
          go_simp
          first
            | (with_reducible refine hK _ ?_; clear hK K)
            | (rw [if_neg (by first | decide | (intro h; cases h))]; with_reducible refine hK _ ?_; clear hK K)
            | (apply Exists.intro; refine ⟨fun _ => ?_, hK _ ?_⟩; (first | with_reducible exact cA _ _); clear hK K)
        with_reducible refine wpQuiet_nil ?_
        rintro _ ⟨⟨dq, osq⟩, rfl⟩
        have HY2 := Lib.hid (HY1.out.trans ((below_regrown y1 dq osq).mono HY1.out.size))
        clear e0 e1 e2 e3 cA hlyx
        generalize grow (redrawn y1 dq) osq = y2 at HY2 ⊢
        go_wp2_with fail
        obtain ⟨f0, f1, f2, f3⟩ := HCE.out _ HY2.out
        have e0 := cell_regrown f0
        have e1 := cell_regrown f1
        have e2 := cell_regrown f2
        have e3 := cell_regrown f3
        clear f0 f1 f2 f3
        have cA := fun d os => Calls.regrown_of (hcxy (grow (redrawn y2 d) os))
        have cB := fun d os => Calls.regrown_of (hhx (grow (redrawn y2 d) os) (HY2.out.trans ((below_regrown y2 d os).mono HY2.out.size)))
        have cC := fun d os => Calls.regrown_of (hhy (grow (redrawn y2 d) os) (HY2.out.trans ((below_regrown y2 d os).mono HY2.out.size)))
        have cD := fun d os => Calls.regrown_of (hly (grow (redrawn y2 d) os) (HY2.out.trans ((below_regrown y2 d os).mono HY2.out.size)))
        clear hcxy hhx hhy hly
        generalize decide (y ∈ l) = ry at cC cD
        refine wp_region_quiet_below (by kernel_rfl) (by kernel_rfl) ?_
        repeat
          with_reducible refine wpQuiet_step (fun K hK => ?_)
          go_simp
          first
            | (with_reducible refine hK _ ?_; clear hK K)
            | (rw [if_neg (by first | decide | (intro h; cases h))]; with_reducible refine hK _ ?_; clear hK K)
            | (apply Exists.intro; refine ⟨fun _ => ?_, hK _ ?_⟩; (first | with_reducible exact cA _ _ | with_reducible exact cB _ _ | with_reducible exact cC _ _ | with_reducible exact cD _ _); clear hK K)
        with_reducible refine wpQuiet_nil ?_
        rintro _ ⟨⟨dq, osq⟩, rfl⟩
        have HY3 := Lib.hid (HY2.out.trans ((below_regrown y2 dq osq).mono HY2.out.size))
        clear e0 e1 e2 e3 cA cB cC cD
        generalize grow (redrawn y2 dq) osq = y3 at HY3 ⊢
        go_wp2
        go_roundw
        case rel => exact ⟨k + 1, by go_num, by omega, HY3⟩
        case measure => simp [intOf]; omega
      · rw [hq1] at hlxy
        rw [hq2] at hlyx
        rw [hq3] at hcxy
        clear hq1 hq2 hq3
        obtain ⟨f0, f1, f2, f3⟩ := HCE.out _ HB.out
        have e0 := cell_regrown f0
        have e1 := cell_regrown f1
        have e2 := cell_regrown f2
        have e3 := cell_regrown f3
        clear f0 f1 f2 f3
        have cA := fun d os => Calls.regrown_of (hlxy (grow (redrawn wr d) os))
        go_wp2_with fail
        refine wp_region_quiet_below (by kernel_rfl) (by kernel_rfl) ?_
        repeat
          with_reducible refine wpQuiet_step (fun K hK => ?_)
          go_simp
          first
            | (with_reducible refine hK _ ?_; clear hK K)
            | (rw [if_neg (by first | decide | (intro h; cases h))]; with_reducible refine hK _ ?_; clear hK K)
            | (apply Exists.intro; refine ⟨fun _ => ?_, hK _ ?_⟩; (first | with_reducible exact cA _ _); clear hK K)
        with_reducible refine wpQuiet_nil ?_
        rintro _ ⟨⟨dq, osq⟩, rfl⟩
        have HY1 := Lib.hid (HB.out.trans ((below_regrown wr dq osq).mono HB.out.size))
        clear e0 e1 e2 e3 cA hlxy
        generalize grow (redrawn wr dq) osq = y1 at HY1 ⊢
        go_wp2_with fail
        obtain ⟨f0, f1, f2, f3⟩ := HCE.out _ HY1.out
        have e0 := cell_regrown f0
        have e1 := cell_regrown f1
        have e2 := cell_regrown f2
        have e3 := cell_regrown f3
        clear f0 f1 f2 f3
        have cA := fun d os => Calls.regrown_of (hlyx (grow (redrawn y1 d) os))
        refine wp_region_quiet_below (by kernel_rfl) (by kernel_rfl) ?_
        repeat
          with_reducible refine wpQuiet_step (fun K hK => ?_)
          go_simp
          first
            | (with_reducible refine hK _ ?_; clear hK K)
            | (rw [if_neg (by first | decide | (intro h; cases h))]; with_reducible refine hK _ ?_; clear hK K)
            | (apply Exists.intro; refine ⟨fun _ => ?_, hK _ ?_⟩; (first | with_reducible exact cA _ _); clear hK K)
        with_reducible refine wpQuiet_nil ?_
        rintro _ ⟨⟨dq, osq⟩, rfl⟩
        have HY2 := Lib.hid (HY1.out.trans ((below_regrown y1 dq osq).mono HY1.out.size))
        clear e0 e1 e2 e3 cA hlyx
        generalize grow (redrawn y1 dq) osq = y2 at HY2 ⊢
        go_wp2_with fail
        obtain ⟨f0, f1, f2, f3⟩ := HCE.out _ HY2.out
        have e0 := cell_regrown f0
        have e1 := cell_regrown f1
        have e2 := cell_regrown f2
        have e3 := cell_regrown f3
        clear f0 f1 f2 f3
        have cA := fun d os => Calls.regrown_of (hcxy (grow (redrawn y2 d) os))
        have cB := fun d os => Calls.regrown_of (hhx (grow (redrawn y2 d) os) (HY2.out.trans ((below_regrown y2 d os).mono HY2.out.size)))
        have cC := fun d os => Calls.regrown_of (hhy (grow (redrawn y2 d) os) (HY2.out.trans ((below_regrown y2 d os).mono HY2.out.size)))
        have cD := fun d os => Calls.regrown_of (hly (grow (redrawn y2 d) os) (HY2.out.trans ((below_regrown y2 d os).mono HY2.out.size)))
        clear hcxy hhx hhy hly
        generalize decide (y ∈ l) = ry at cC cD
        refine wp_region_quiet_below (by kernel_rfl) (by kernel_rfl) ?_
        repeat
          with_reducible refine wpQuiet_step (fun K hK => ?_)
          go_simp
          first
            | (with_reducible refine hK _ ?_; clear hK K)
            | (rw [if_neg (by first | decide | (intro h; cases h))]; with_reducible refine hK _ ?_; clear hK K)
            | (apply Exists.intro; refine ⟨fun _ => ?_, hK _ ?_⟩; (first | with_reducible exact cA _ _ | with_reducible exact cB _ _ | with_reducible exact cC _ _ | with_reducible exact cD _ _); clear hK K)
        with_reducible refine wpQuiet_nil ?_
        rintro _ ⟨⟨dq, osq⟩, rfl⟩
        have HY3 := Lib.hid (HY2.out.trans ((below_regrown y2 dq osq).mono HY2.out.size))
        clear e0 e1 e2 e3 cA cB cC cD
        generalize grow (redrawn y2 dq) osq = y3 at HY3 ⊢
        go_wp2
        go_roundw
        case rel => exact ⟨k + 1, by go_num, by omega, HY3⟩
        case measure => simp [intOf]; omega
      · rw [hq1] at hlxy
        rw [hq2] at hlyx
        rw [hq3] at hcxy
        clear hq1 hq2 hq3
        obtain ⟨f0, f1, f2, f3⟩ := HCE.out _ HB.out
        have e0 := cell_regrown f0
        have e1 := cell_regrown f1
        have e2 := cell_regrown f2
        have e3 := cell_regrown f3
        clear f0 f1 f2 f3
        have cA := fun d os => Calls.regrown_of (hlxy (grow (redrawn wr d) os))
        go_wp2_with fail
        refine wp_region_quiet_below (by kernel_rfl) (by kernel_rfl) ?_
        repeat
          with_reducible refine wpQuiet_step (fun K hK => ?_)
          go_simp
          first
            | (with_reducible refine hK _ ?_; clear hK K)
            | (rw [if_neg (by first | decide | (intro h; cases h))]; with_reducible refine hK _ ?_; clear hK K)
            | (apply Exists.intro; refine ⟨fun _ => ?_, hK _ ?_⟩; (first | with_reducible exact cA _ _); clear hK K)
        with_reducible refine wpQuiet_nil ?_
        rintro _ ⟨⟨dq, osq⟩, rfl⟩
        have HY1 := Lib.hid (HB.out.trans ((below_regrown wr dq osq).mono HB.out.size))
        clear e0 e1 e2 e3 cA hlxy
        generalize grow (redrawn wr dq) osq = y1 at HY1 ⊢
        go_wp2_with fail
        obtain ⟨f0, f1, f2, f3⟩ := HCE.out _ HY1.out
        have e0 := cell_regrown f0
        have e1 := cell_regrown f1
        have e2 := cell_regrown f2
        have e3 := cell_regrown f3
        clear f0 f1 f2 f3
        have cA := fun d os => Calls.regrown_of (hlyx (grow (redrawn y1 d) os))
        refine wp_region_quiet_below (by kernel_rfl) (by kernel_rfl) ?_
        repeat
          with_reducible refine wpQuiet_step (fun K hK => ?_)
          go_simp
          first
            | (with_reducible refine hK _ ?_; clear hK K)
            | (rw [if_neg (by first | decide | (intro h; cases h))]; with_reducible refine hK _ ?_; clear hK K)
            | (apply Exists.intro; refine ⟨fun _ => ?_, hK _ ?_⟩; (first | with_reducible exact cA _ _); clear hK K)
        with_reducible refine wpQuiet_nil ?_
        rintro _ ⟨⟨dq, osq⟩, rfl⟩
        have HY2 := Lib.hid (HY1.out.trans ((below_regrown y1 dq osq).mono HY1.out.size))
        clear e0 e1 e2 e3 cA hlyx
        generalize grow (redrawn y1 dq) osq = y2 at HY2 ⊢
        go_wp2_with fail
        obtain ⟨f0, f1, f2, f3⟩ := HCE.out _ HY2.out
        have e0 := cell_regrown f0
        have e1 := cell_regrown f1
        have e2 := cell_regrown f2
        have e3 := cell_regrown f3
        clear f0 f1 f2 f3
        have cA := fun d os => Calls.regrown_of (hcxy (grow (redrawn y2 d) os))
        have cB := fun d os => Calls.regrown_of (hhx (grow (redrawn y2 d) os) (HY2.out.trans ((below_regrown y2 d os).mono HY2.out.size)))
        have cC := fun d os => Calls.regrown_of (hhy (grow (redrawn y2 d) os) (HY2.out.trans ((below_regrown y2 d os).mono HY2.out.size)))
        have cD := fun d os => Calls.regrown_of (hly (grow (redrawn y2 d) os) (HY2.out.trans ((below_regrown y2 d os).mono HY2.out.size)))
        clear hcxy hhx hhy hly
        generalize decide (y ∈ l) = ry at cC cD
        refine wp_region_quiet_below (by kernel_rfl) (by kernel_rfl) ?_
        repeat
          with_reducible refine wpQuiet_step (fun K hK => ?_)
          go_simp
          first
            | (with_reducible refine hK _ ?_; clear hK K)
            | (rw [if_neg (by first | decide | (intro h; cases h))]; with_reducible refine hK _ ?_; clear hK K)
            | (apply Exists.intro; refine ⟨fun _ => ?_, hK _ ?_⟩; (first | with_reducible exact cA _ _ | with_reducible exact cB _ _ | with_reducible exact cC _ _ | with_reducible exact cD _ _); clear hK K)
        with_reducible refine wpQuiet_nil ?_
        rintro _ ⟨⟨dq, osq⟩, rfl⟩
        have HY3 := Lib.hid (HY2.out.trans ((below_regrown y2 dq osq).mono HY2.out.size))
        clear e0 e1 e2 e3 cA cB cC cD
        generalize grow (redrawn y2 dq) osq = y3 at HY3 ⊢
        go_wp2
        go_roundw
        case rel => exact ⟨k + 1, by go_num, by omega, HY3⟩
        case measure => simp [intOf]; omega
    · have hsp : ¬ (k < n) ∨ (k < n ∧ ¬ (k < m)) := by omega
      clear hkk
      have HLN := Lib.hid (show ([] : List At).length + l.length ≤ 1000000000 by have := HN.out; simp; omega)
      have HLW := Lib.hid (Nat.le_refl wr.heap.size)
      rcases hsp with hsp | ⟨hsp1, hsp2⟩
      · go_wp2_with (at_builtin; refine wpList_appN kA rfl _ _ rfl l HN.out.1 rfl (nil_row kA _ wr.heap.size) rfl (HR.out.1.below HB.out) HAC.out HLN.out HLW.out ?_; intro v1 w1 hrow1 hgr1; have hrow1' : RowK kA w1 wr.heap.size v1 l := hrow1; obtain ⟨A1, cc1, ee1, _, _⟩ := hrow1'.rd0; rw [← HN.out.1] at ee1; subst ee1)
        have hb1 := grown_none (B := wr.heap.size) hgr1 (Nat.le_refl _)
        have hv1 := RowK.rdv hrow1'
        have hbw1 := HB.out.trans (hb1.mono HB.out.size)
        have hb2a := (Below.refl w1.heap.size w1).alloc (Nat.le_refl _) (.cells #[.string (sx name), .slice A1 n cc1] 26)
        have hb2 := hb2a.alloc hb2a.size (.cells #[.string (sx name), .slice B m d] 26)
        have kA' := (Blk.new w1 26 #[.string (sx name), .slice A1 n cc1]).alloc (.cells #[.string (sx name), .slice B m d] 26)
        have kB' := Blk.new (w1.alloc (.cells #[.string (sx name), .slice A1 n cc1] 26)) 26 #[.string (sx name), .slice B m d]
        rw [show (w1.alloc (.cells #[.string (sx name), .slice A1 n cc1] 26)).heap.size = w1.heap.size + 1 from by rw [World.size_alloc]] at kB'
        generalize hW2 : (w1.alloc (.cells #[.string (sx name), .slice A1 n cc1] 26)).alloc (.cells #[.string (sx name), .slice B m d] 26) = W2 at hb2 kA' kB'
        have hvW2 := hv1.on hb2
        have HCP := Lib.hid (copy_any name l _ W2 hvW2 (by have := HN.out; omega))
        have HW2 := Lib.hid (And.intro (hbw1.trans (hb2.mono hbw1.size)) (And.intro kA' (And.intro kB' hvW2)))
        have c0 := kA'.cell 0
        have c1 := kA'.cell 1
        clear hrow1 hrow1' hgr1 hb1 hv1 hbw1 hb2a hb2 kA' kB' hvW2
        go_wp2_with (go_at_call 40; (with_reducible refine HCP.out.mono ?_); clear HCP; rintro e w3 ⟨v3, rfl, hrow3, hb3⟩; obtain ⟨A3, cc3, ee3, _, _⟩ := hrow3.rd0; rw [← HN.out.1] at ee3; subst ee3)
        have HG : Hid (0 < n → ∃ g, A3 = some ⟨g, 0, none⟩ ∧ W2.heap.size ≤ g ∧ g < w3.heap.size ∧ Wri w3 g n) := Lib.hid fun hp => RowK.wri hrow3 hp
        have hb4 := hb3.alloc hb3.size (.cells #[.string (sx name), .slice A3 n cc3] 26)
        have kC' := Blk.new w3 26 #[.string (sx name), .slice A3 n cc3]
        have HG4 : Hid (∀ g, A3 = some ⟨g, 0, none⟩ → 0 < n → (Wri (w3.alloc (.cells #[.string (sx name), .slice A3 n cc3] 26)) g n ∧ W2.heap.size ≤ g ∧ g < w3.heap.size)) := Lib.hid fun g hg hp => by
          obtain ⟨g', e', h1', h2', cur, h3', h4'⟩ := HG.out hp
          rw [hg] at e'
          injection e' with e'
          injection e' with e'
          subst e'
          exact ⟨⟨cur, h3'.alloc _, h4'⟩, h1', h2'⟩
        generalize hW4 : w3.alloc (.cells #[.string (sx name), .slice A3 n cc3] 26) = W4 at hb4 kC' HG4 ⊢
        have HI := Lib.hid (And.intro hb4 kC')
        clear hb4 kC' hrow3 hb3 c0 c1 hW4 hW2
        go_loopw [16] (fun s16 wx => ∃ i : Nat, s16 = .int .i64 i ∧ i ≤ n ∧ Hid ((Below W2.heap.size W2 wx ∧ Blk wx w3.heap.size 26 #[.string (sx name), .slice A3 n cc3]) ∧ ∀ g, A3 = some ⟨g, 0, none⟩ → 0 < n → (Wri wx g n ∧ W2.heap.size ≤ g ∧ g < w3.heap.size))) (fun s16 _ => n - (intOf s16).toNat)
        case atStart => exact ⟨0, rfl, Nat.zero_le _, Lib.hid ⟨HI.out, HG4.out⟩⟩
        case round =>
          obtain ⟨i, rfl, hi, H⟩ := hrel
          have x0 := H.out.1.2.cell 0
          have x1 := H.out.1.2.cell 1
          by_cases hin : i < n
          · obtain ⟨g, rfl, _, _, _⟩ := HG.out (by omega)
            obtain ⟨hwr, hg1, hg2⟩ := H.out.2 g rfl (by omega)
            obtain ⟨u, hu1, hu2⟩ := hwr.at_ hin
            have HX := Lib.hid (And.intro hwr (And.intro hg1 hg2))
            have hgne : g ≠ w3.heap.size := by omega
            have HNE := Lib.hid hgne
            clear hwr hg1 hg2 hgne
            go_wp2
            go_roundw
            case rel => exact ⟨i + 1, by go_num, by omega, Lib.hid ⟨⟨H.out.1.1.setCell (p := ⟨g, i * 2, none⟩) HX.out.2.1 _, H.out.1.2.far (p := ⟨g, i * 2, none⟩) (fun e => HNE.out e.symm) _⟩, fun g' hg' hp => by
              injection hg' with hg'
              injection hg' with hg'
              subst hg'
              exact ⟨HX.out.1.set _ _, HX.out.2⟩⟩⟩
            case measure => simp [intOf]; omega
          · obtain ⟨wy, hwy⟩ : ∃ wy : World, wy = wr := ⟨_, rfl⟩
            subst hwy
            have HBy := Lib.hid (HW2.out.1.trans (H.out.1.1.mono HW2.out.1.size))
            have a0 := (HW2.out.2.1.on H.out.1.1).cell 0
            have a1 := (HW2.out.2.1.on H.out.1.1).cell 1
            have q0 := (HW2.out.2.2.1.on H.out.1.1).cell 0
            have q1 := (HW2.out.2.2.1.on H.out.1.1).cell 1
            have hva := HW2.out.2.2.2.on H.out.1.1
            have hvl := HV.out.1.on HBy.out
            have hvb := HV.out.2.on HBy.out
            have h30 := fun W (hb : Below wy.heap.size wy W) => refSame_any l l _ _ W (hva.on hb) (hvl.on hb) (by have := HN.out; omega) (by have := HN.out; omega)
            have h41 := fun W (hb : Below wy.heap.size wy W) => sameE_any name name l by' _ _ W (hva.on hb) (hvb.on hb) (by have := HN.out; omega) (by have := HN.out; omega)
            have h22 := fun W (hb : Below wy.heap.size wy W) => refSameE_any name name l by' _ _ W (hva.on hb) (hvb.on hb) (by have := HN.out; omega) (by have := HN.out; omega)
            have h4a := fun W (hb : Below wy.heap.size wy W) => sameE_any name name l l _ _ W (hva.on hb) (hva.on hb) (by have := HN.out; omega) (by have := HN.out; omega)
            rw [decide_eq_true rfl] at h30
            rw [decide_eq_true rfl, decide_eq_true rfl, Bool.true_and] at h4a
            generalize (decide (name = name) && decide (l = by')) = rs at h41 h22
            have e0 := cell_regrown a0
            have e1 := cell_regrown a1
            have e2 := cell_regrown q0
            have e3 := cell_regrown q1
            have e4 := cell_regrown x0
            have e5 := cell_regrown x1
            have cA := fun d os => Calls.regrown_of (h30 (grow (redrawn wy d) os) (below_regrown _ _ _))
            have cB := fun d os => Calls.regrown_of (h41 (grow (redrawn wy d) os) (below_regrown _ _ _))
            have cC := fun d os => Calls.regrown_of (h22 (grow (redrawn wy d) os) (below_regrown _ _ _))
            have cD := fun d os => Calls.regrown_of (h4a (grow (redrawn wy d) os) (below_regrown _ _ _))
            have cE := fun d os => Calls.regrown_of (HK.out (grow (redrawn wy d) os))
            clear h30 h41 h22 h4a a0 a1 q0 q1 hva hvl hvb H HV HR HHL HLL
            go_wp2_with fail
            refine wp_region_quiet_below (by kernel_rfl) (by kernel_rfl) ?_
            repeat
              with_reducible refine wpQuiet_step (fun K hK => ?_)
              go_simp
              first
                | (with_reducible refine hK _ ?_; clear hK K)
                | (rw [if_neg (by first | decide | (intro h; cases h))]; with_reducible refine hK _ ?_; clear hK K)
                | (apply Exists.intro; refine ⟨fun _ => ?_, hK _ ?_⟩; (first | with_reducible exact cA _ _ | with_reducible exact cB _ _ | with_reducible exact cC _ _ | with_reducible exact cD _ _ | with_reducible exact cE _ _); clear hK K)
            with_reducible refine wpQuiet_nil ?_
            rintro _ ⟨⟨dq, osq⟩, rfl⟩
            have HBz := Lib.hid (HBy.out.trans ((below_regrown wy dq osq).mono HBy.out.size))
            clear e0 e1 e2 e3 e4 e5 cA cB cC cD cE
            generalize grow (redrawn wy dq) osq = wz at HBz ⊢
            go_wp2
            go_ret
            exact ⟨rfl, HBz.out⟩
      · go_wp2_with (at_builtin; refine wpList_appN kA rfl _ _ rfl l HN.out.1 rfl (nil_row kA _ wr.heap.size) rfl (HR.out.1.below HB.out) HAC.out HLN.out HLW.out ?_; intro v1 w1 hrow1 hgr1; have hrow1' : RowK kA w1 wr.heap.size v1 l := hrow1; obtain ⟨A1, cc1, ee1, _, _⟩ := hrow1'.rd0; rw [← HN.out.1] at ee1; subst ee1)
        have hb1 := grown_none (B := wr.heap.size) hgr1 (Nat.le_refl _)
        have hv1 := RowK.rdv hrow1'
        have hbw1 := HB.out.trans (hb1.mono HB.out.size)
        have hb2a := (Below.refl w1.heap.size w1).alloc (Nat.le_refl _) (.cells #[.string (sx name), .slice A1 n cc1] 26)
        have hb2 := hb2a.alloc hb2a.size (.cells #[.string (sx name), .slice B m d] 26)
        have kA' := (Blk.new w1 26 #[.string (sx name), .slice A1 n cc1]).alloc (.cells #[.string (sx name), .slice B m d] 26)
        have kB' := Blk.new (w1.alloc (.cells #[.string (sx name), .slice A1 n cc1] 26)) 26 #[.string (sx name), .slice B m d]
        rw [show (w1.alloc (.cells #[.string (sx name), .slice A1 n cc1] 26)).heap.size = w1.heap.size + 1 from by rw [World.size_alloc]] at kB'
        generalize hW2 : (w1.alloc (.cells #[.string (sx name), .slice A1 n cc1] 26)).alloc (.cells #[.string (sx name), .slice B m d] 26) = W2 at hb2 kA' kB'
        have hvW2 := hv1.on hb2
        have HCP := Lib.hid (copy_any name l _ W2 hvW2 (by have := HN.out; omega))
        have HW2 := Lib.hid (And.intro (hbw1.trans (hb2.mono hbw1.size)) (And.intro kA' (And.intro kB' hvW2)))
        have c0 := kA'.cell 0
        have c1 := kA'.cell 1
        clear hrow1 hrow1' hgr1 hb1 hv1 hbw1 hb2a hb2 kA' kB' hvW2
        go_wp2_with (go_at_call 40; (with_reducible refine HCP.out.mono ?_); clear HCP; rintro e w3 ⟨v3, rfl, hrow3, hb3⟩; obtain ⟨A3, cc3, ee3, _, _⟩ := hrow3.rd0; rw [← HN.out.1] at ee3; subst ee3)
        have HG : Hid (0 < n → ∃ g, A3 = some ⟨g, 0, none⟩ ∧ W2.heap.size ≤ g ∧ g < w3.heap.size ∧ Wri w3 g n) := Lib.hid fun hp => RowK.wri hrow3 hp
        have hb4 := hb3.alloc hb3.size (.cells #[.string (sx name), .slice A3 n cc3] 26)
        have kC' := Blk.new w3 26 #[.string (sx name), .slice A3 n cc3]
        have HG4 : Hid (∀ g, A3 = some ⟨g, 0, none⟩ → 0 < n → (Wri (w3.alloc (.cells #[.string (sx name), .slice A3 n cc3] 26)) g n ∧ W2.heap.size ≤ g ∧ g < w3.heap.size)) := Lib.hid fun g hg hp => by
          obtain ⟨g', e', h1', h2', cur, h3', h4'⟩ := HG.out hp
          rw [hg] at e'
          injection e' with e'
          injection e' with e'
          subst e'
          exact ⟨⟨cur, h3'.alloc _, h4'⟩, h1', h2'⟩
        generalize hW4 : w3.alloc (.cells #[.string (sx name), .slice A3 n cc3] 26) = W4 at hb4 kC' HG4 ⊢
        have HI := Lib.hid (And.intro hb4 kC')
        clear hb4 kC' hrow3 hb3 c0 c1 hW4 hW2
        go_loopw [16] (fun s16 wx => ∃ i : Nat, s16 = .int .i64 i ∧ i ≤ n ∧ Hid ((Below W2.heap.size W2 wx ∧ Blk wx w3.heap.size 26 #[.string (sx name), .slice A3 n cc3]) ∧ ∀ g, A3 = some ⟨g, 0, none⟩ → 0 < n → (Wri wx g n ∧ W2.heap.size ≤ g ∧ g < w3.heap.size))) (fun s16 _ => n - (intOf s16).toNat)
        case atStart => exact ⟨0, rfl, Nat.zero_le _, Lib.hid ⟨HI.out, HG4.out⟩⟩
        case round =>
          obtain ⟨i, rfl, hi, H⟩ := hrel
          have x0 := H.out.1.2.cell 0
          have x1 := H.out.1.2.cell 1
          by_cases hin : i < n
          · obtain ⟨g, rfl, _, _, _⟩ := HG.out (by omega)
            obtain ⟨hwr, hg1, hg2⟩ := H.out.2 g rfl (by omega)
            obtain ⟨u, hu1, hu2⟩ := hwr.at_ hin
            have HX := Lib.hid (And.intro hwr (And.intro hg1 hg2))
            have hgne : g ≠ w3.heap.size := by omega
            have HNE := Lib.hid hgne
            clear hwr hg1 hg2 hgne
            go_wp2
            go_roundw
            case rel => exact ⟨i + 1, by go_num, by omega, Lib.hid ⟨⟨H.out.1.1.setCell (p := ⟨g, i * 2, none⟩) HX.out.2.1 _, H.out.1.2.far (p := ⟨g, i * 2, none⟩) (fun e => HNE.out e.symm) _⟩, fun g' hg' hp => by
              injection hg' with hg'
              injection hg' with hg'
              subst hg'
              exact ⟨HX.out.1.set _ _, HX.out.2⟩⟩⟩
            case measure => simp [intOf]; omega
          · obtain ⟨wy, hwy⟩ : ∃ wy : World, wy = wr := ⟨_, rfl⟩
            subst hwy
            have HBy := Lib.hid (HW2.out.1.trans (H.out.1.1.mono HW2.out.1.size))
            have a0 := (HW2.out.2.1.on H.out.1.1).cell 0
            have a1 := (HW2.out.2.1.on H.out.1.1).cell 1
            have q0 := (HW2.out.2.2.1.on H.out.1.1).cell 0
            have q1 := (HW2.out.2.2.1.on H.out.1.1).cell 1
            have hva := HW2.out.2.2.2.on H.out.1.1
            have hvl := HV.out.1.on HBy.out
            have hvb := HV.out.2.on HBy.out
            have h30 := fun W (hb : Below wy.heap.size wy W) => refSame_any l l _ _ W (hva.on hb) (hvl.on hb) (by have := HN.out; omega) (by have := HN.out; omega)
            have h41 := fun W (hb : Below wy.heap.size wy W) => sameE_any name name l by' _ _ W (hva.on hb) (hvb.on hb) (by have := HN.out; omega) (by have := HN.out; omega)
            have h22 := fun W (hb : Below wy.heap.size wy W) => refSameE_any name name l by' _ _ W (hva.on hb) (hvb.on hb) (by have := HN.out; omega) (by have := HN.out; omega)
            have h4a := fun W (hb : Below wy.heap.size wy W) => sameE_any name name l l _ _ W (hva.on hb) (hva.on hb) (by have := HN.out; omega) (by have := HN.out; omega)
            rw [decide_eq_true rfl] at h30
            rw [decide_eq_true rfl, decide_eq_true rfl, Bool.true_and] at h4a
            generalize (decide (name = name) && decide (l = by')) = rs at h41 h22
            have e0 := cell_regrown a0
            have e1 := cell_regrown a1
            have e2 := cell_regrown q0
            have e3 := cell_regrown q1
            have e4 := cell_regrown x0
            have e5 := cell_regrown x1
            have cA := fun d os => Calls.regrown_of (h30 (grow (redrawn wy d) os) (below_regrown _ _ _))
            have cB := fun d os => Calls.regrown_of (h41 (grow (redrawn wy d) os) (below_regrown _ _ _))
            have cC := fun d os => Calls.regrown_of (h22 (grow (redrawn wy d) os) (below_regrown _ _ _))
            have cD := fun d os => Calls.regrown_of (h4a (grow (redrawn wy d) os) (below_regrown _ _ _))
            have cE := fun d os => Calls.regrown_of (HK.out (grow (redrawn wy d) os))
            clear h30 h41 h22 h4a a0 a1 q0 q1 hva hvl hvb H HV HR HHL HLL
            go_wp2_with fail
            refine wp_region_quiet_below (by kernel_rfl) (by kernel_rfl) ?_
            repeat
              with_reducible refine wpQuiet_step (fun K hK => ?_)
              go_simp
              first
                | (with_reducible refine hK _ ?_; clear hK K)
                | (rw [if_neg (by first | decide | (intro h; cases h))]; with_reducible refine hK _ ?_; clear hK K)
                | (apply Exists.intro; refine ⟨fun _ => ?_, hK _ ?_⟩; (first | with_reducible exact cA _ _ | with_reducible exact cB _ _ | with_reducible exact cC _ _ | with_reducible exact cD _ _ | with_reducible exact cE _ _); clear hK K)
            with_reducible refine wpQuiet_nil ?_
            rintro _ ⟨⟨dq, osq⟩, rfl⟩
            have HBz := Lib.hid (HBy.out.trans ((below_regrown wy dq osq).mono HBy.out.size))
            clear e0 e1 e2 e3 e4 e5 cA cB cC cD cE
            generalize grow (redrawn wy dq) osq = wz at HBz ⊢
            go_wp2
            go_ret
            exact ⟨rfl, HBz.out⟩
theorem looks_any (l by' : List At) (name : List UInt8) (v vb : Value) (w : World) (hv : RdV w v l) (hvb : RdV w vb by') (hs : Sm l) (hsb : Sm by') (hl : l.length ≤ 9223372036854775807) (hlb : by'.length ≤ 9223372036854775807) (hn : name.length ≤ 9223372036854775807) :
    KnownL w #[v, vb, .string (sx name)] := by
  by_cases h : AskL l by' name
  · exact looks_in l by' name v vb w hv hvb hs hsb hn h
  · exact looks_out l by' name v vb w hv hvb hs hsb hl hlb hn h
end Go.Proofs.Ytlhbnmaalhainaa
