/- The result of bytes. -/
import Derived.Test.YtcjiofhjognklaaGreatY49
import Derived.Test.YtcjiofhjognklaaGreatY45
namespace Go.Proofs.YtcjiofhjognklaaGreat.Tlv
open Go.RowKit Go.Lib Go.Sort
set_option maxRecDepth 100000
set_option linter.unusedVariables false
set_option linter.unusedSimpArgs false
theorem mayR_lim {r : Res} (h : mayR r = true) (hb : Byt r.cur) : LimR r := by
 obtain ⟨h1, h2⟩ := mayR_parts h
 obtain ⟨_, _, _, h3, h4⟩ := mayF_iff.1 h1
 refine ⟨⟨by omega, fun e he => ?_, fun e he => ?_, fun e he => ?_⟩, by omega, hb⟩
 · have := mayN_len (Bool.and_eq_true_iff.1 (h2 e he)).1; omega
 · have := (mayL_iff.1 (Bool.and_eq_true_iff.1 (h2 e he)).2).1; omega
 · exact fun x hx => by have := sm_of_may (Bool.and_eq_true_iff.1 (h2 e he)).2 x hx; unfold SmA at this; omega
theorem flagN (D g : Nat) (f : Bool) (r : List Int) (tag : Int) (w : World) (hs : RS w D g f r) :
   Calls Tryz.prog 91 #[.pointer (some ⟨g, 0, none⟩), .int .u8 tag] w fun e w' => e = .returned (.bool (flgV (tk f r tag)).1) ∧ RS w' D g (flgV (tk f r tag)).2.1 (flgV (tk f r tag)).2.2 ∧ w.grownBy w' (some g) :=
 (flag_r D g f r tag w hs).mono fun e w' ⟨n, f', r', e1, h1, h2, h3⟩ => by
   obtain ⟨rfl, rfl, rfl⟩ := FlagOut.is hs.byt h3
   exact ⟨e1, h1, h2⟩
structure RT (w : World) (g Bq : Nat) (cs : Array Value) (f : Bool) (r : List Int) (W : World) : Prop where
 bel : Below w.heap.size w W
 rr : Blk W w.heap.size 43 zR
 qq : Blk W Bq 43 cs
 rs : RS W g g f r
 n1 : w.heap.size < g
 n2 : g < Bq
section
variable {w W W' : World} {g Bq : Nat} {cs : Array Value} {f f' : Bool} {r r' : List Int}
theorem RT.gr (h : RT w g Bq cs f r W) (hg : W.grownBy W' (some g)) (hs : RS W' g g f' r') : RT w g Bq cs f' r' W' := by
 have h1 := h.n1
 have h2 := h.n2
 exact ⟨h.bel.trans (below_grown hg (by omega) (by have := h.bel.size; omega)), h.rr.grown hg (fun e => by injection e with e; omega), h.qq.grown hg (fun e => by injection e with e; omega), hs, h1, h2⟩
theorem RT.on (h : RT w g Bq cs f r W) (hb : Below W.heap.size W W') : RT w g Bq cs f r W' := ⟨h.bel.trans (hb.mono h.bel.size), h.rr.on hb, h.qq.on hb, h.rs.on hb, h.n1, h.n2⟩
theorem RT.cq (h : RT w g Bq cs f r W) {cs' : Array Value} (hc : CQ 126 W.heap.size g Bq W W') (hs : RS W' g g f' r') (hq : Blk W' Bq 43 cs') : RT w g Bq cs' f' r' W' := by
 have h1 := h.n1
 have h2 := h.n2
 have h3 := h.rr.lt
 exact ⟨h.bel.trans ⟨hc.os, hc.tape, hc.output, hc.size, fun k hk => hc.low k (by omega) (by omega) (by omega)⟩, hc.kp _ _ _ (by decide) (by omega) (by omega) h.rr, hq, hs, h1, h2⟩
theorem RT.st (h : RT w g Bq cs f r W) (i : Nat) (u : Value) : RT w g Bq (cs.setIfInBounds i u) f r (W.setCell ⟨Bq, i, none⟩ u) := by
 have h1 := h.n1
 have h2 := h.n2
 exact ⟨h.bel.setCell (p := ⟨Bq, i, none⟩) (show w.heap.size ≤ Bq by omega) u, h.rr.far (p := ⟨Bq, i, none⟩) (show w.heap.size ≠ Bq by omega) u, h.qq.set_ i u, h.rs.setT (by omega) (by omega), h1, h2⟩
theorem RT.fin (h : RT w g Bq cs f r W) (cz : Array Value) : Below w.heap.size w (W.setRow w.heap.size cz) ∧ Blk (W.setRow w.heap.size cz) w.heap.size 43 cz :=
 ⟨below_setRow h.bel (Nat.le_refl _) cz, h.rr.row cz⟩
end
def RsOfOut (w : World) (l : List Int) (e : Ending) (w' : World) : Prop :=
 (∃ (r : Res) (ve vc : Value), mayR r = true ∧ l = resB r ∧ e = .returned (.tuple #[rsVal r.k r.y ve vc, .int .i64 0]) ∧ ResAt w' r ve vc ∧ LimR r ∧ Below w.heap.size w w') ∨
 ((∀ r, mayR r = true → l ≠ resB r) ∧ e = .returned (.tuple #[.agg zR, .int .i64 4]) ∧ Below w.heap.size w w')
set_option maxHeartbeats 32000000 in
theorem resultOf_any (A : Option Addr) (c : Nat) (l : List Int) (w : World) (hr : Rd w w.heap.size A l) (hby : Byt l) (hn : l.length ≤ 4194304) :
   Calls Tryz.prog 21 #[.slice A l.length c] w (RsOfOut w l) := by
 have hb1 : Below w.heap.size w (w.alloc (.cells zR 43)) := (Below.refl _ _).alloc (Nat.le_refl _) _
 have k1 := Blk.new w 43 zR
 have HRD := Lib.hid (read_any A c l _ ((hr.below hb1).more hb1.size) hby (by omega))
 have hz1 : w.heap.size < (w.alloc (.cells zR 43)).heap.size := by rw [World.size_alloc]; omega
 have HB1 := Lib.hid (And.intro hb1 (And.intro k1 hz1))
 have T1 := took_smallV (f := false) (tag := 1) (m := 14) hby (by decide) (by decide)
 generalize hq1 : smallV 14 (tk false l 1) = q1 at T1
 obtain ⟨kk, f1, r1⟩ := q1
 dsimp only at T1
 have hb1' : Byt r1 := by
   have h := (tk_byt (f := false) (tag := 1) hby).2.1
   have e : r1 = (tk false l 1).2.2 := by
     have h2 := congrArg (fun x => x.2.2) hq1
     dsimp only at h2
     rw [← h2]
     unfold smallV
     split
     · show (numV _).2.2 = _; rw [numV_rest]
     · rw [numV_rest]
   rw [e]; exact h
 have T2 := took_flgV (f := f1) (tag := 2) hb1' (by decide)
 generalize hq2 : flgV (tk f1 r1 2) = q2 at T2
 obtain ⟨y, f2, r2⟩ := q2
 dsimp only at T2
 have HT := Lib.hid (And.intro T1 (And.intro T2 (And.intro hby hn)))
 have HN1 : Hid (∀ g W, RS W g g false l → Calls Tryz.prog 53 #[.pointer (some ⟨g, 0, none⟩), .int .u8 1, .int .u64 14] W fun e w' => e = .returned (.int .i64 kk) ∧ RS w' g g f1 r1 ∧ W.grownBy w' (some g)) := Lib.hid fun g W h => by
   have h := smallN g g false l 1 14 W h (by decide) (by decide)
   rw [hq1] at h
   exact h
 have HN2 : Hid (∀ g W, RS W g g f1 r1 → Calls Tryz.prog 91 #[.pointer (some ⟨g, 0, none⟩), .int .u8 2] W fun e w' => e = .returned (.bool y) ∧ RS w' g g f2 r2 ∧ W.grownBy w' (some g)) := Lib.hid fun g W h => by
   have h := flagN g g f1 r1 2 W h
   rw [hq2] at h
   exact h
 obtain ⟨n, hnn⟩ : ∃ n, n = l.length := ⟨_, rfl⟩
 rw [← hnn] at HRD ⊢
 clear hr hb1 k1 hn hnn hz1 hq1 hq2 T1 T2 hb1' hby
 go_enter Tryz.func21, Tryz.ntmps21
 go_wp2_with fail
 refine HRD.out.mono ?_
 clear HRD
 rintro e w2 ⟨g, rfl, hrs2, hgq, hb2⟩
 have hg1 : w.heap.size < g := Nat.lt_of_lt_of_le HB1.out.2.2 hgq
 have H2 := Lib.hid (And.intro (HB1.out.1.trans (hb2.mono (Nat.le_of_lt HB1.out.2.2))) (And.intro (HB1.out.2.1.on hb2) (And.intro hg1 hrs2)))
 clear hrs2 hgq hb2 hg1 HB1
 go_upto_region 3 with (first
   | (go_at_call 53; (with_reducible refine (HN1.out g w2 H2.out.2.2.2).mono ?_); clear HN1; rintro e w3 ⟨rfl, hrs3, hg3⟩; dsimp only; have H3 := Lib.hid (And.intro hrs3 hg3); clear hrs3 hg3)
   | (go_at_call 91; (with_reducible refine (HN2.out g w3 H3.out.1).mono ?_); clear HN2; rintro e w4 ⟨rfl, hrs4, hg4⟩; dsimp only; have H4 := Lib.hid (And.intro hrs4 hg4); clear hrs4 hg4)
   | (refine wpList_store_rowTo rfl 43 _ _ rfl rfl w4.heap.size (rsCs kk y (.slice none 0 0) (.slice none 0 0)) rfl rfl 43 zR (Blk.new w4 43 zR) (by kernel_rfl) rfl (by kernel_rfl) ?_))
 have hrt : RT w g w4.heap.size (rsCs kk y (.slice none 0 0) (.slice none 0 0)) f2 r2 ((w4.alloc (.cells zR 43)).setRow w4.heap.size (rsCs kk y (.slice none 0 0) (.slice none 0 0))) := by
   have hb3 : Below w4.heap.size w4 ((w4.alloc (.cells zR 43)).setRow w4.heap.size (rsCs kk y (.slice none 0 0) (.slice none 0 0))) := below_setRow ((Below.refl _ _).alloc (Nat.le_refl _) (.cells zR 43)) (Nat.le_refl _) _
   obtain ⟨x1, x2, x3, x4⟩ := H2.out
   have y1 : Below w.heap.size w w3 := x1.trans (below_grown H3.out.2 (Nat.le_of_lt x3) x1.size)
   have y2 : Below w.heap.size w w4 := y1.trans (below_grown H4.out.2 (Nat.le_of_lt x3) y1.size)
   have z1 := x2.grown H3.out.2 (fun e => by injection e with e; omega)
   have z2 := z1.grown H4.out.2 (fun e => by injection e with e; omega)
   exact ⟨y2.trans (hb3.mono y2.size), z2.on hb3, (Blk.new w4 43 zR).row _, H4.out.1.on hb3, x3, H4.out.1.lt⟩
 obtain ⟨Bq, hBq⟩ : ∃ Bq, Bq = w4.heap.size := ⟨_, rfl⟩
 rw [← hBq] at hrt ⊢
 clear hBq H2 H3 H4
 generalize (w4.alloc (.cells zR 43)).setRow Bq (rsCs kk y (.slice none 0 0) (.slice none 0 0)) = W4 at hrt ⊢
 have HX := Lib.hid hrt
 have HLI := Lib.hid (listE92 g g Bq f2 r2 3 W4 (by decide) hrt.rs hrt.qq (by have := hrt.n2; omega))
 clear hrt
 go_upto_region 4 with (go_at_call 56; (with_reducible refine HLI.out.mono ?_); clear HLI; rintro e w5 ⟨f3, r3, acc, rfl, hI, hrs5, hcq, hT⟩; dsimp only; have H5 := Lib.hid (And.intro hI (And.intro hrs5 (And.intro hcq hT))); clear hI hrs5 hcq hT)
 obtain ⟨v5, es5, hk5, hr5, he5⟩ := H5.out.1
 have hrt5 := HX.out.cq H5.out.2.2.1 H5.out.2.1 hk5
 have hz5 : w.heap.size < W4.heap.size := by have h1 := hrt5.n1; have h2 := HX.out.rs.lt; omega
 have hz6 : W4.heap.size ≤ w5.heap.size := H5.out.2.2.1.size
 have H6 := Lib.hid (And.intro hrt5 (And.intro hr5 (And.intro he5 (And.intro hz5 hz6))))
 have HT3 := Lib.hid H5.out.2.2.2
 have hby3 := H5.out.2.1.byt
 have T4 := took_bytes (f := f3) (tag := 4) hby3 (by decide)
 generalize hq4 : tk f3 r3 4 = q4 at T4
 obtain ⟨o4, f4, r4⟩ := q4
 dsimp only at T4
 obtain ⟨b4, hb4⟩ : ∃ b, b = o4.getD [] := ⟨_, rfl⟩
 rw [← hb4] at T4
 have HT4 := Lib.hid T4
 have HB4 : Hid (Calls Tryz.prog 58 #[.pointer (some ⟨g, 0, none⟩), .int .u8 4] w5 fun e w' => ∃ A4 n4 c4, e = .returned (.slice A4 n4 c4) ∧ (n4 = b4.length ∧ RowK kB w' w5.heap.size (.slice A4 n4 c4) b4) ∧ RS w' g g f4 r4 ∧ w5.grownBy w' (some g)) := Lib.hid (by
   have h := bytes_r g g f3 r3 4 w5 H5.out.2.1
   rw [hq4] at h
   refine h.mono ?_
   rintro e w' ⟨v, rfl, h1, h2, h3⟩
   rw [← hb4] at h1
   obtain ⟨A4, c4, rfl, _, _⟩ := h1.rd
   exact ⟨A4, _, c4, rfl, ⟨rfl, row_k.2 h1⟩, h2, h3⟩)
 clear hk5 hr5 he5 hrt5 hz5 hby3 hq4 T4 hb4 HX H5
 go_upto_region 5 with (go_at_call 58; (with_reducible refine HB4.out.mono ?_); clear HB4; rintro e w6 ⟨A4, n4, c4, rfl, h6, hrs6, hg6⟩; dsimp only; have H7 := Lib.hid (And.intro h6 (And.intro hrs6 hg6)); have f3' := (H6.out.1.qq.grown hg6 (fun e => by injection e with e; have := H6.out.1.n2; omega)).frozen 3; have c3' : w6.cell? ⟨Bq, 3, none⟩ = some (.slice none 0 0) := (H6.out.1.qq.grown hg6 (fun e => by injection e with e; have := H6.out.1.n2; omega)).cell 3; clear h6 hrs6 hg6)
 clear f3' c3'
 have hrt6 := (H6.out.1.gr H7.out.2.2 H7.out.2.1).st 3 (.slice A4 n4 c4)
 have hown : ResOwn (w6.setCell ⟨Bq, 3, none⟩ (.slice A4 n4 c4)) W4.heap.size ⟨kk, y, acc, b4⟩ v5 (.slice A4 n4 c4) := by
   have hq := H6.out.1.gr H7.out.2.2 H7.out.2.1
   obtain ⟨cs9, hk9⟩ := H6.out.1.rs.blk
   refine ⟨⟨es5, RowK.setT (RowK.byT H6.out.2.1 H7.out.2.2 hk9 (by decide)) hq.qq (by decide), (H6.out.2.2.1.fit fun j cs' _ hc => H7.out.2.2.block j (Blk.lt hc) (fun e => by
     injection e with e
     subst e
     exact blk_ne hc hk9 (by decide) rfl)).fit fun j cs' _ hc => Below.heap_setCell w6 ⟨Bq, 3, none⟩ _ j (fun e2 => blk_ne hc hq.qq (by decide) e2)⟩, RowK.setT (RowK.lowR H7.out.1.2 ?_) hq.qq (by decide)⟩
   exact H6.out.2.2.2.2
 have HZ := Lib.hid H6.out.2.2.2.1
 clear H6 H7
 obtain ⟨Av, cv, nv, HNv, rfl, _, _⟩ := (show ∃ A c n, Hid (n = acc.length) ∧ v5 = .slice A n c ∧ True ∧ True from by
   obtain ⟨es9, h1, h2⟩ := hown.e
   obtain ⟨A, c, n, hn, e, _, _⟩ := h1.rdn
   exact ⟨A, c, n, Lib.hid (by rw [hn.out]; exact h2.1), e, trivial, trivial⟩)
 have HN4 : Hid (n4 = b4.length) := Lib.hid (by
   obtain ⟨A, c, n, hn, e, _, _⟩ := hown.c.rdn
   injection e with e1 e2 e3
   rw [e2]; exact hn.out)
 have hrt6' : RT w g Bq (rsCs kk y (.slice Av nv cv) (.slice A4 n4 c4)) f4 r4 (w6.setCell ⟨Bq, 3, none⟩ (.slice A4 n4 c4)) := hrt6
 clear hrt6
 generalize w6.setCell ⟨Bq, 3, none⟩ (.slice A4 n4 c4) = W7 at hrt6' hown ⊢
 have HX := Lib.hid (And.intro hrt6' hown)
 have HE := Lib.hid (rend_any g g f4 r4 W7 hrt6'.rs)
 have hfin := fin_res (l := l) (by decide) HT.out.2.2.1 HT.out.2.2.2 HT.out.1 HT.out.2.1 HT3.out HT4.out
 have HFIN := Lib.hid hfin
 clear hrt6' hown hfin
 by_cases hgood : f4 = false ∧ r4 = []
 · obtain ⟨rfl, rfl⟩ := hgood
   obtain ⟨g1, g2, g3, g4⟩ := HFIN.out.1 rfl rfl
   have HG := Lib.hid (And.intro g1 (And.intro g2 g4))
   clear g1 g2 g3 g4
   have HM : Hid (∀ W, Calls Tryz.prog 82 #[rsVal kk y (.slice Av nv cv) (.slice A4 n4 c4)] W fun e w' => e = .returned (.bool (mayF kk y nv n4)) ∧ Below W.heap.size W w') := Lib.hid fun W => mayF_any kk y Av A4 nv cv n4 c4 W
   cases hm : mayF kk y nv n4 with
   | true =>
     rw [hm] at HM
     have HMR : Hid (mayR ⟨kk, y, acc, b4⟩ = true) := Lib.hid (mayR_is (by show mayF kk y acc.length b4.length = true; rw [← HNv.out, ← HN4.out]; exact hm) HG.out.2.1)
     clear hm
     obtain ⟨a0, a1, a2, a3⟩ := rs_cells HX.out.1.qq
     go_upto_region 7 with (first
       | (go_at_call 59; (with_reducible refine HE.out.mono ?_); clear HE; rintro e wE ⟨⟨n9, rfl, h9⟩, rfl⟩; obtain rfl : n9 = 0 := h9.2 (by simp); clear h9)
       | (go_at_call 82; (with_reducible refine (HM.out _).mono ?_); clear HM a0 a1 a2 a3; rintro e wF ⟨rfl, hbF⟩; dsimp only; have HF := Lib.hid hbF; clear hbF))
     have HX2 := Lib.hid (HX.out.1.on HF.out)
     go_wp2_with (first
       | (refine wpList_load_row rfl 43 _ rfl Bq rfl 43 (rsCs kk y (.slice Av nv cv) (.slice A4 n4 c4)) (0, 0) _ HX2.out.qq rfl rfl (by kernel_rfl) ?_)
       | (refine wpList_store_rowTo rfl 43 _ _ rfl rfl w.heap.size (rsCs kk y (.slice Av nv cv) (.slice A4 n4 c4)) rfl rfl 43 zR HX2.out.rr (by kernel_rfl) rfl (by kernel_rfl) ?_))
     obtain ⟨h8, h9⟩ := HX2.out.fin (rsCs kk y (.slice Av nv cv) (.slice A4 n4 c4))
     have hown2 : ResOwn wF W4.heap.size ⟨kk, y, acc, b4⟩ (.slice Av nv cv) (.slice A4 n4 c4) := HX.out.2.keep fun k h1 h2 => HF.out.block k h2
     have h7 : ResOwn (wF.setRow w.heap.size (rsCs kk y (.slice Av nv cv) (.slice A4 n4 c4))) W4.heap.size ⟨kk, y, acc, b4⟩ (.slice Av nv cv) (.slice A4 n4 c4) := hown2.keep fun k h1 h2 => setRow_other _ _ k _ (by have := HZ.out; omega)
     have t0 := h9.cell 0
     have t1 := h9.cell 1
     have t2 := h9.cell 2
     have t3 := h9.cell 3
     have HE2 := Lib.hid (And.intro h7.at h8)
     clear h7 h8 h9 hown2
     generalize wF.setRow w.heap.size (rsCs kk y (.slice Av nv cv) (.slice A4 n4 c4)) = w9 at t0 t1 t2 t3 HE2 ⊢
     refine bodyPost_ret (v := .tuple #[rsVal kk y (.slice Av nv cv) (.slice A4 n4 c4), .int .i64 0]) ?_ rfl (.inl ⟨⟨kk, y, acc, b4⟩, _, _, HMR.out, HG.out.1, rfl, HE2.out.1, mayR_lim HMR.out HG.out.2.2.2, HE2.out.2⟩)
     simp at t0 t1 t2 t3
     simp [results, Tryz.f21, go_sem, t0, t1, t2, t3]
   | false =>
     rw [hm] at HM
     have HNO : Hid (∀ r0, mayR r0 = true → l ≠ resB r0) := Lib.hid fun r0 h1 h2 => by
       obtain ⟨e1, _⟩ := HFIN.out.2 r0 h1 h2
       have h3 := (mayR_parts h1).1
       rw [e1] at h3
       dsimp only at h3
       rw [← HNv.out, ← HN4.out, hm] at h3
       cases h3
     clear hm
     obtain ⟨a0, a1, a2, a3⟩ := rs_cells HX.out.1.qq
     go_upto_region 6 with (first
       | (go_at_call 59; (with_reducible refine HE.out.mono ?_); clear HE; rintro e wE ⟨⟨n9, rfl, h9⟩, rfl⟩; obtain rfl : n9 = 0 := h9.2 (by simp); clear h9)
       | (go_at_call 82; (with_reducible refine (HM.out _).mono ?_); clear HM a0 a1 a2 a3; rintro e wF ⟨rfl, hbF⟩; dsimp only; have HF := Lib.hid hbF; clear hbF))
     have HX2 := Lib.hid (HX.out.1.on HF.out)
     go_wp2_with (refine wpList_store_rowTo rfl 43 _ _ rfl rfl w.heap.size zR rfl rfl 43 zR HX2.out.rr (by kernel_rfl) rfl (by kernel_rfl) ?_)
     obtain ⟨h8, h9⟩ := HX2.out.fin zR
     have t0 := h9.cell 0
     have t1 := h9.cell 1
     have t2 := h9.cell 2
     have t3 := h9.cell 3
     have HE2 := Lib.hid h8
     clear h8 h9
     generalize wF.setRow w.heap.size zR = w9 at t0 t1 t2 t3 HE2 ⊢
     refine bodyPost_ret (v := .tuple #[.agg zR, .int .i64 4]) ?_ rfl (.inr ⟨HNO.out, rfl, HE2.out⟩)
     simp at t0 t1 t2 t3
     simp [results, Tryz.f21, go_sem, t0, t1, t2, t3]
 · have HNO : Hid (∀ r0, mayR r0 = true → l ≠ resB r0) := Lib.hid fun r0 h1 h2 => hgood (HFIN.out.2 r0 h1 h2).2
   have HNG := Lib.hid hgood
   clear hgood
   go_upto_region 6 with (go_at_call 59; (with_reducible refine HE.out.mono ?_); clear HE; rintro e wE ⟨⟨n9, rfl, h9⟩, rfl⟩; obtain ⟨hnz, hnz2⟩ := end_nz h9 HNG.out; clear h9)
   go_wp2_with (refine wpList_store_rowTo rfl 43 _ _ rfl rfl w.heap.size zR rfl rfl 43 zR HX.out.1.rr (by kernel_rfl) rfl (by kernel_rfl) ?_)
   obtain ⟨h8, h9⟩ := HX.out.1.fin zR
   have t0 := h9.cell 0
   have t1 := h9.cell 1
   have t2 := h9.cell 2
   have t3 := h9.cell 3
   have HE2 := Lib.hid h8
   clear h8 h9
   generalize wE.setRow w.heap.size zR = w9 at t0 t1 t2 t3 HE2 ⊢
   refine bodyPost_ret (v := .tuple #[.agg zR, .int .i64 4]) ?_ rfl (.inr ⟨HNO.out, rfl, HE2.out⟩)
   simp at t0 t1 t2 t3
   simp [results, Tryz.f21, go_sem, t0, t1, t2, t3]
end Go.Proofs.YtcjiofhjognklaaGreat.Tlv
