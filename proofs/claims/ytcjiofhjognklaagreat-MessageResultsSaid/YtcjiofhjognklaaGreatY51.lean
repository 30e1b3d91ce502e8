/- The result of bytes, by the document. -/
import Derived.Test.YtcjiofhjognklaaGreatY46
import Derived.Test.YtcjiofhjognklaaGreatY47
import Derived.Test.YtcjiofhjognklaaGreatY50
import Derived.Test.YtcjiofhjognklaaGreatY32
namespace Go.Proofs.YtcjiofhjognklaaGreat.Tlv
open Go.RowKit Go.Lib Go.Sort
set_option maxRecDepth 100000
set_option linter.unusedVariables false
set_option linter.unusedSimpArgs false
structure RU (w : World) (Bq : Nat) (cs : Array Value) (W : World) : Prop where
 bel : Below w.heap.size w W
 rr : Blk W w.heap.size 43 zR
 qq : Blk W Bq 43 cs
 n1 : w.heap.size < Bq
section
variable {w W W' : World} {g Bq : Nat} {cs : Array Value}
theorem RU.gr (h : RU w Bq cs W) (hg : W.grownBy W' (some g)) (h1 : w.heap.size < g) (h2 : g < Bq) : RU w Bq cs W' :=
 ⟨h.bel.trans (below_grownR hg (by omega) (by have := h.bel.size; omega)), h.rr.grown hg (fun e => by injection e with e; omega), h.qq.grown hg (fun e => by injection e with e; omega), h.n1⟩
theorem RU.on (h : RU w Bq cs W) (hb : Below W.heap.size W W') : RU w Bq cs W' := ⟨h.bel.trans (hb.mono h.bel.size), h.rr.on hb, h.qq.on hb, h.n1⟩
theorem RU.st (h : RU w Bq cs W) (i : Nat) (u : Value) : RU w Bq (cs.setIfInBounds i u) (W.setCell ⟨Bq, i, none⟩ u) := by
 have h1 := h.n1
 exact ⟨h.bel.setCell (p := ⟨Bq, i, none⟩) (show w.heap.size ≤ Bq by omega) u, h.rr.far (p := ⟨Bq, i, none⟩) (show w.heap.size ≠ Bq by omega) u, h.qq.set_ i u, h1⟩
theorem RU.cq (h : RU w Bq cs W) {cs' : Array Value} (hc : CQ 126 W.heap.size Bq Bq W W') (hq : Blk W' Bq 43 cs') : RU w Bq cs' W' := by
 have h1 := h.n1
 have h3 := h.rr.lt
 exact ⟨h.bel.trans ⟨hc.os, hc.tape, hc.output, hc.size, fun k hk => hc.low k (by omega) (by omega) (by omega)⟩, hc.kp _ _ _ (by decide) (by omega) (by omega) h.rr, hq, h1⟩
theorem RU.fin (h : RU w Bq cs W) (cz : Array Value) : Below w.heap.size w (W.setRow w.heap.size cz) ∧ Blk (W.setRow w.heap.size cz) w.heap.size 43 cz :=
 ⟨below_setRow h.bel (Nat.le_refl _) cz, h.rr.row cz⟩
theorem RR.st {f : Bool} {r : List Int} (h : RR W w.heap.size g f r) {u : Value} {i : Nat} (hq : Blk W Bq 43 cs) (h1 : w.heap.size < Bq) (h2 : g ≠ Bq) : RR (W.setCell ⟨Bq, i, none⟩ u) w.heap.size g f r := h.far h2 (by omega) hq.lt u
end
def HGd (W : World) (hs : List Hand) : Prop := ∀ x ∈ hs, Rd W W.heap.size x.A x.bs ∧ x.bs.length ≤ x.c ∧ x.c ≤ 9223372036854775807 ∧ Byt x.bs
theorem GoodH.hgd {W : World} {hs : List Hand} (h : GoodH W W.heap.size hs) : HGd W hs := fun x hx => ⟨(h x hx).1, (h x hx).2.2⟩
theorem HGd.cq {w wr : World} {hs : List Hand} {Bo : Nat} {t0 t : TypeId} {cs : Array Value} (h : HGd w hs) (hb : Blk w Bo t cs) (hcs : ∀ (i : Nat) (x : Int), cs[i]? ≠ some (Value.int .u8 x)) (hc : CQ t0 w.heap.size Bo Bo w wr) : HGd wr hs := fun x hx => ⟨rd_cqT (h x hx).1 hb hcs hc, (h x hx).2⟩
theorem rr_u8 {A : Option Addr} {n c : Nat} {f : Bool} : ∀ (i : Nat) (x : Int), (#[Value.slice A n c, Value.bool f] : Array Value)[i]? ≠ some (Value.int .u8 x) := fun i x h => by
 rcases i with _ | _ | i <;> simp at h
theorem row_handT {Bo n c k base : Nat} {A : Option Addr} {hs : List Hand} {w wr : World} {cs : Array Value} (h : RowK kS w base (.slice A n c) hs) (hc : CQ 126 w.heap.size Bo Bo w wr) (hb : Blk w Bo 43 cs) (hk : k < hs.length) : ∃ b off, A = some ⟨b, off, none⟩ ∧ b < wr.heap.size ∧ wr.cell? ⟨b, off + k, none⟩ = some (.slice (hs.getD k default).A (hs.getD k default).bs.length (hs.getD k default).c) := by
 have h1 : RowK kS wr base (.slice A n c) hs := RowK.fitT h fun g e => by
   obtain ⟨_, h3, cs', hc'⟩ := own_atT h e
   have hne := blk_ne hc' hb (by decide)
   exact hc.low g h3 hne hne
 obtain ⟨A', c', n', _, e, _, h2⟩ := h1.rdn
 injection e with e1 e2 e3
 subst e1
 exact hand_cell h2 hk
theorem valsB_mem : ∀ (ls : List (List Int)) (x : List Int), x ∈ ls → x.length ≤ (valsB 1 ls).length
 | [], x, h => by simp at h
 | a :: l, x, h => by
   rw [valsB_cons, List.length_append, valB_length]
   rcases List.mem_cons.1 h with rfl | h
   · omega
   · have := valsB_mem l x h; omega
theorem ownE_at {W : World} {base : Nat} {es : List En} {acc : List Eny} {v : Value} (h1 : RowK kE W base v es) (h2 : EnO W base es acc) : RdE W v acc := (ResOwn.at (r := ⟨0, false, acc, []⟩) ⟨⟨es, h1, h2⟩, nil_row kB W base⟩).e
def RfOfOut (w : World) (l : List Int) (e : Ending) (w' : World) : Prop :=
 (∃ (r : Res) (ve vc : Value), mayR r = true ∧ l = resB r ∧ e = .returned (.tuple #[rsVal r.k r.y ve vc, .bool true]) ∧ ResAt w' r ve vc ∧ LimR r ∧ Below w.heap.size w w') ∨
 ((∀ r, mayR r = true → l ≠ resB r) ∧ e = .returned (.tuple #[.agg zR, .bool false]) ∧ Below w.heap.size w w')
set_option maxHeartbeats 64000000 in
theorem refResultOf_any (A : Option Addr) (c : Nat) (l : List Int) (w : World) (hr : Rd w w.heap.size A l) (hby : Byt l) (hn : l.length ≤ 1000000) (hc : l.length ≤ c) (hcm : c ≤ 9223372036854775807) :
   Calls Tryz.prog 22 #[.slice A l.length c] w (RfOfOut w l) := by
 have hb1 : Below w.heap.size w (w.alloc (.cells zR 43)) := (Below.refl _ _).alloc (Nat.le_refl _) _
 have kR1 := Blk.new w 43 zR
 have hs2 := RR.new2 (w := w.alloc (.cells zR 43)) (hr.below hb1) hc hcm hby (by omega) hb1.size
 have hb12 : Below (w.alloc (.cells zR 43)).heap.size (w.alloc (.cells zR 43)) ((w.alloc (.cells zR 43)).alloc (.cells #[.slice A l.length c, .bool false] 107)) := (Below.refl _ _).alloc (Nat.le_refl _) _
 have kR2 := kR1.on hb12
 have hb2 := hb1.trans (hb12.mono hb1.size)
 rw [World.size_alloc] at hs2
 have T1 := took_numV (f := false) (tag := 1) hby (by decide)
 have b1 : Byt (numV (tk false l 1)).2.2 := by rw [numV_rest]; exact (tk_byt hby).2.1
 have n1 : (numV (tk false l 1)).2.2.length ≤ 1000000 := by rw [numV_rest]; exact Nat.le_trans tk_len hn
 generalize hq1 : numV (tk false l 1) = q1 at T1 b1 n1
 obtain ⟨kk, f1, r1⟩ := q1
 dsimp only at T1 b1 n1
 have T2 := took_flgV (f := f1) (tag := 2) b1 (by decide)
 have b2 : Byt (flgV (tk f1 r1 2)).2.2 := by rw [flgV_rest]; exact (tk_byt b1).2.1
 have n2 : (flgV (tk f1 r1 2)).2.2.length ≤ 1000000 := by rw [flgV_rest]; exact Nat.le_trans tk_len n1
 generalize hq2 : flgV (tk f1 r1 2) = q2 at T2 b2 n2
 obtain ⟨y, f2, r2⟩ := q2
 dsimp only at T2 b2 n2
 have T3 := took_vals (f := f2) (tag := 3) b2 (by decide)
 have b3 : Byt (tk f2 r2 3).2.2 := (tk_byt b2).2.1
 have v3 : ((tk f2 r2 3).1.getD []).length ≤ 4194304 := (tk_byt b2).2.2
 generalize hls : (if (tk f2 r2 3).2.1 = false ∧ allT 1 ((tk f2 r2 3).1.getD []) = true then snds ((tk f2 r2 3).1.getD []) else []) = ls at T3
 generalize hf3 : (if (tk f2 r2 3).2.1 = false ∧ allT 1 ((tk f2 r2 3).1.getD []) = true then false else true) = f3 at T3
 have hr3 : ∃ r3, r3 = (tk f2 r2 3).2.2 := ⟨_, rfl⟩
 obtain ⟨r3, hr3⟩ := hr3
 rw [← hr3] at T3 b3
 have T4 := took_bytes (f := f3) (tag := 4) b3 (by decide)
 generalize hq4 : tk f3 r3 4 = q4 at T4
 obtain ⟨o4, f4, r4⟩ := q4
 dsimp only at T4
 obtain ⟨b4, hb4⟩ : ∃ b, b = o4.getD [] := ⟨_, rfl⟩
 rw [← hb4] at T4
 have HFIN := Lib.hid (fin_ref hby hn T1 T2 T3 T4)
 have hk64 : 0 ≤ kk ∧ kk ≤ 18446744073709551615 := by
   have h := numV_range (f := false) (tag := 1) hby
   rw [hq1] at h
   exact h
 obtain ⟨D, hD⟩ : ∃ D, D = w.heap.size := ⟨_, rfl⟩
 have HN1 : Hid (∀ g W, RR W D g false l → Calls Tryz.prog 60 #[.pointer (some ⟨g, 0, none⟩), .int .u8 1] W fun e w' => e = .returned (.int .u64 kk) ∧ RR w' D g f1 r1 ∧ W.grownBy w' (some g)) := Lib.hid fun g W h => by
   have h := refNumberV D g false l 1 W h
   rw [hq1] at h
   exact h
 have HN2 : Hid (∀ g W, RR W D g f1 r1 → Calls Tryz.prog 94 #[.pointer (some ⟨g, 0, none⟩), .int .u8 2] W fun e w' => e = .returned (.bool y) ∧ RR w' D g f2 r2 ∧ W.grownBy w' (some g)) := Lib.hid fun g W h => by
   have h := refFlagV D g f1 r1 2 W h
   rw [hq2] at h
   exact h
 have HN3 : Hid (∀ g W, RR W D g f2 r2 → Calls Tryz.prog 63 #[.pointer (some ⟨g, 0, none⟩), .int .u8 3, .int .u8 1] W fun e w' => ∃ (hs : List Hand) (A : Option Addr) (n c : Nat), e = .returned (.slice A n c) ∧ (n = hs.length ∧ hs.length ≤ 1000000 ∧ RowK kS w' W.heap.size (.slice A n c) hs ∧ GoodH w' w'.heap.size hs ∧ ls = hs.map (fun x => x.bs)) ∧ RR w' D g f3 r3 ∧ W.grownBy w' (some g)) := Lib.hid fun g W h => by
   refine (refList_any D g f2 r2 3 1 W h n2).mono fun e w' h => ?_
   have h2 := vals_out hls hf3 v3 h
   rw [← hr3] at h2
   exact h2
 have HB4 : Hid (∀ g W, RR W D g f3 r3 → Calls Tryz.prog 64 #[.pointer (some ⟨g, 0, none⟩), .int .u8 4] W fun e w' => ∃ A3 n3 c3, e = .returned (.slice A3 n3 c3) ∧ (n3 = b4.length ∧ RdD D w' (.slice A3 n3 c3) b4) ∧ RR w' D g f4 r4 ∧ W.grownBy w' (some g)) := Lib.hid fun g W h => by
   have h := refTake_any D g f3 r3 4 W h
   rw [hq4] at h
   refine h.mono ?_
   intro e w' h
   obtain ⟨v, h1, h2, h3, h4⟩ := take_rdD h
   dsimp only at h2 h3
   rw [← hb4] at h2
   obtain ⟨A', c', n', rfl, hn'⟩ := rdD_len h2
   exact ⟨A', n', c', h1, ⟨hn'.out, h2⟩, h3, h4⟩
 obtain ⟨g, hg⟩ : ∃ g, g = w.heap.size + 1 := ⟨_, rfl⟩
 obtain ⟨n, hnn⟩ : ∃ n, n = l.length := ⟨_, rfl⟩
 rw [← hnn] at hs2 hb2 kR2 ⊢
 rw [← hg] at hs2
 have H2 := Lib.hid (And.intro hb2 (And.intro kR2 (And.intro hs2 (show w.heap.size < g by omega))))
 have HD := Lib.hid hD
 have HK := Lib.hid hk64
 clear hr hby hb1 kR1 hs2 hb12 kR2 hb2 hn hnn hc hcm hq1 hq2 hq4 hls hf3 hr3 hb4 T1 T2 T3 T4 b1 b2 b3 n1 n2 v3 hD hk64
 go_enter Tryz.func22, Tryz.ntmps22
 go_upto_region 2 with fail
 rw [← hg]
 clear hg
 generalize (w.alloc (.cells zR 43)).alloc (.cells #[.slice A n c, .bool false] 107) = W2 at H2 ⊢
 go_upto_region 3 with (refine wpList_store_rowTo rfl 43 _ _ rfl rfl W2.heap.size zR rfl rfl 43 zR (Blk.new W2 43 zR) (by kernel_rfl) rfl (by kernel_rfl) ?_)
 have hb3 : Below W2.heap.size W2 ((W2.alloc (.cells zR 43)).setRow W2.heap.size zR) := below_setRow ((Below.refl _ _).alloc (Nat.le_refl _) (.cells zR 43)) (Nat.le_refl _) _
 have hru : RU w W2.heap.size zR ((W2.alloc (.cells zR 43)).setRow W2.heap.size zR) := ⟨H2.out.1.trans (hb3.mono H2.out.1.size), H2.out.2.1.on hb3, (Blk.new W2 43 zR).row _, by have h1 := H2.out.2.2.2; have h2 := H2.out.2.2.1.lt; omega⟩
 have hrr := H2.out.2.2.1.on hb3
 have hgB : g < W2.heap.size := H2.out.2.2.1.lt
 have HG := Lib.hid (And.intro H2.out.2.2.2 hgB)
 obtain ⟨Bq, hBq⟩ : ∃ b, b = W2.heap.size := ⟨_, rfl⟩
 rw [← hBq] at hru hrr HG ⊢
 clear H2 hBq hb3 hgB
 generalize (W2.alloc (.cells zR 43)).setRow Bq zR = W3 at hru hrr ⊢
 have H3 := Lib.hid (And.intro hru hrr)
 clear hru hrr
 go_upto_region 4 with (go_at_call 60; (with_reducible refine (HN1.out g W3 (HD.out ▸ H3.out.2)).mono ?_); clear HN1; rintro e w4 ⟨rfl, hrs, hg⟩; dsimp only; have H4 := Lib.hid (And.intro (H3.out.1.gr hg HG.out.1 HG.out.2) (HD.out ▸ hrs : RR w4 w.heap.size g f1 r1)); clear hrs hg)
 go_upto_region 5 with (go_at_call 94; (with_reducible refine (HN2.out g w4 (HD.out ▸ H4.out.2)).mono ?_); clear HN2; rintro e w5 ⟨rfl, hrs, hg⟩; dsimp only; have H5 := Lib.hid (And.intro (H4.out.1.gr hg HG.out.1 HG.out.2) (HD.out ▸ hrs : RR w5 w.heap.size g f2 r2)); clear hrs hg; have fz := H5.out.1.qq.frozen 1; have cz : w5.cell? ⟨Bq, 1, none⟩ = some (.bool false) := H5.out.1.qq.cell 1)
 clear fz cz
 have hru : RU w Bq (rsCs 0 y (.slice none 0 0) (.slice none 0 0)) (w5.setCell ⟨Bq, 1, none⟩ (.bool y)) := H5.out.1.st 1 (.bool y)
 have hrr : RR (w5.setCell ⟨Bq, 1, none⟩ (.bool y)) w.heap.size g f2 r2 := RR.st H5.out.2 H5.out.1.qq H5.out.1.n1 (Nat.ne_of_lt HG.out.2)
 generalize w5.setCell ⟨Bq, 1, none⟩ (.bool y) = W5 at hru hrr ⊢
 clear H3 H4 H5
 have H5 := Lib.hid (And.intro hru hrr)
 clear hru hrr
 go_upto_region 6 with (go_at_call 63; (with_reducible refine (HN3.out g W5 (HD.out ▸ H5.out.2)).mono ?_); clear HN3; rintro e w6 ⟨hs, A6, n6, c6, rfl, h6, hrs, hg⟩; dsimp only; have H6 := Lib.hid (And.intro (H5.out.1.gr hg HG.out.1 HG.out.2) (And.intro (HD.out ▸ hrs : RR w6 w.heap.size g f3 r3) h6)); clear hrs hg h6)
 go_upto_region 7 with (go_at_call 64; (with_reducible refine (HB4.out g w6 (HD.out ▸ H6.out.2.1)).mono ?_); clear HB4; rintro e w7 ⟨A7, n7, c7, rfl, h7, hrs, hg⟩; dsimp only; have H7 := Lib.hid (And.intro (H6.out.1.gr hg HG.out.1 HG.out.2) (And.intro (HD.out ▸ hrs : RR w7 w.heap.size g f4 r4) (And.intro h7 hg))); clear hrs hg h7; have fz := H7.out.1.qq.frozen 3; have cz : w7.cell? ⟨Bq, 3, none⟩ = some (.slice none 0 0) := H7.out.1.qq.cell 3)
 clear fz cz
 have hru : RU w Bq (rsCs 0 y (.slice none 0 0) (.slice A7 n7 c7)) (w7.setCell ⟨Bq, 3, none⟩ (.slice A7 n7 c7)) := H7.out.1.st 3 (.slice A7 n7 c7)
 have hrr : RR (w7.setCell ⟨Bq, 3, none⟩ (.slice A7 n7 c7)) w.heap.size g f4 r4 := RR.st H7.out.2.1 H7.out.1.qq H7.out.1.n1 (Nat.ne_of_lt HG.out.2)
 have hst : CQ 126 w7.heap.size Bq Bq w7 (w7.setCell ⟨Bq, 3, none⟩ (.slice A7 n7 c7)) := CQ.setB w7 3 _
 have hhs : HGd (w7.setCell ⟨Bq, 3, none⟩ (.slice A7 n7 c7)) hs := by
   obtain ⟨A9, c9, hblk, _⟩ := H6.out.2.1.2
   have h1 := H6.out.2.2.2.2.2.1.hgd.cq hblk rr_u8 (CQ.of (t0 := 126) (b := g) H7.out.2.2.2 (Nat.le_refl _))
   exact h1.cq H7.out.1.qq (rs_u8 0 y none none 0 0 0 0) hst
 have hrw : RowK kS (w7.setCell ⟨Bq, 3, none⟩ (.slice A7 n7 c7)) W5.heap.size (.slice A6 n6 c6) hs := by
   obtain ⟨cs9, hblk⟩ := H6.out.2.1.blk
   exact RowK.setT (RowK.byT H6.out.2.2.2.2.1 H7.out.2.2.2 hblk (by decide)) H7.out.1.qq (by decide)
 have hcu : RdD w.heap.size (w7.setCell ⟨Bq, 3, none⟩ (.slice A7 n7 c7)) (.slice A7 n7 c7) b4 := by
   have h := H7.out.2.2.1.2
   rw [HD.out] at h
   exact h.below ((Below.refl _ _).setCell (p := ⟨Bq, 3, none⟩) (Nat.le_of_lt H7.out.1.n1) _)
 have HLS := Lib.hid (And.intro H6.out.2.2.1 (And.intro H6.out.2.2.2.1 (And.intro H6.out.2.2.2.2.2.2 H7.out.2.2.1.1)))
 generalize w7.setCell ⟨Bq, 3, none⟩ (.slice A7 n7 c7) = W7 at hru hrr hhs hrw hcu ⊢
 have H8 := Lib.hid (And.intro hru (And.intro hhs (And.intro hrw hcu)))
 have HDN := refDone_any w.heap.size g f4 r4 W7 hrr
 clear hru hrr hst hhs hrw hcu H5 H6 H7
 by_cases hdone : f4 = false ∧ r4 = []
 · obtain ⟨rfl, rfl⟩ := hdone
   have hdn : (!false && decide (([] : List Int) = [])) = true := rfl
   rw [hdn] at HDN
   have HDN := Lib.hid HDN
   clear hdn
   by_cases hk14 : kk ≤ 14
   · have hk1 : ¬ (14 : Int) < kk := by omega
     have hwn : IntKind.i64.wrap kk = kk := IntWalk.i64_in _ (by have := HK.out.1; omega)
     have c0 : W7.cell? ⟨Bq, 0, none⟩ = some (.int .i64 0) := H8.out.1.qq.cell 0
     have f0 := H8.out.1.qq.frozen 0
     go_upto_region 10 with (go_at_call 65; (with_reducible refine HDN.out.mono ?_); clear HDN; rintro e wE ⟨rfl, rfl⟩)
     clear c0 f0 hk1 hwn
     have hst : CQ 126 wE.heap.size Bq Bq wE (wE.setCell ⟨Bq, 0, none⟩ (.int .i64 kk)) := CQ.setB wE 0 _
     have hru : RU w Bq (rsCs kk y (.slice none 0 0) (.slice A7 n7 c7)) (wE.setCell ⟨Bq, 0, none⟩ (.int .i64 kk)) := H8.out.1.st 0 (.int .i64 kk)
     have hhs := H8.out.2.1.cq H8.out.1.qq (rs_u8 0 y none A7 0 n7 0 c7) hst
     have hrw : RowK kS (wE.setCell ⟨Bq, 0, none⟩ (.int .i64 kk)) W5.heap.size (.slice A6 n6 c6) hs := RowK.setT H8.out.2.2.1 H8.out.1.qq (by decide)
     have hcu := H8.out.2.2.2.below ((Below.refl w.heap.size wE).setCell (p := ⟨Bq, 0, none⟩) (Nat.le_of_lt H8.out.1.n1) (.int .i64 kk))
     generalize wE.setCell ⟨Bq, 0, none⟩ (.int .i64 kk) = W9 at hru hhs hrw hcu ⊢
     have H9 := Lib.hid (And.intro hru (And.intro hhs (And.intro hrw hcu)))
     clear hst hru hhs hrw hcu H8
     have hn6 : n6 ≤ 1000000 := by have h1 := HLS.out.1; have h2 := HLS.out.2.1; omega
     go_wp2
     go_loopw [8] (fun s8 wr => ∃ k : Nat, s8 = .int .i64 k ∧ k ≤ n6 ∧ Hid (∃ (v : Value) (es : List En) (acc : List Eny), RU w Bq (rsCs kk y v (.slice A7 n7 c7)) wr ∧ RowK kE wr W9.heap.size v es ∧ EnO wr W9.heap.size es acc ∧ acc.length = k ∧ (∀ e ∈ acc, mayEn e = true) ∧ (hs.map fun x => x.bs).take k = acc.map entF ∧ CQ 126 W9.heap.size Bq Bq W9 wr)) (fun s8 _ => n6 - (intOf s8).toNat)
     case atStart => exact ⟨0, rfl, Nat.zero_le _, Lib.hid ⟨_, [], [], H9.out.1, nil_row kE _ _, EnO.nil _ _, rfl, fun e he => by simp at he, by simp, CQ.refl _ _ _ _ _⟩⟩
     case round =>
       obtain ⟨k, rfl, hk, HH⟩ := hrel
       obtain ⟨v, es, acc, HF1, HF2, HF3, HF4, HF5, HF6, HF7⟩ := HH.out
       obtain ⟨Av, cv, nv, HNv, rfl, _, _⟩ := HF2.rdn
       have HF := Lib.hid (And.intro HF1 (And.intro HF2 (And.intro HF3 (And.intro HF4 (And.intro HF5 (And.intro HF6 HF7))))))
       clear HF1 HF2 HF3 HF4 HF5 HF6 HF7 HH
       by_cases hlt : k < n6
       · have hkl : k < hs.length := by have := HLS.out.1; omega
         obtain ⟨b, off, rfl, hbl, ch⟩ := row_handT H9.out.2.2.1 HF.out.2.2.2.2.2.2 H9.out.1.qq hkl
         have hd := (H9.out.2.1.cq H9.out.1.qq (rs_u8 kk y none A7 0 n7 0 c7) HF.out.2.2.2.2.2.2) _ (mem_getH hkl)
         have HSN : Hid ((hs.map fun x => x.bs).take (k + 1) = (hs.map fun x => x.bs).take k ++ [(hs.getD k default).bs]) := Lib.hid (by
           rw [List.take_add_one, List.getElem?_map, List.getElem?_eq_getElem hkl, List.getD_eq_getElem?_getD, List.getElem?_eq_getElem hkl]
           rfl)
         have HNT : Hid (∀ r0 : Res, ls = r0.es.map entF → ∃ e ∈ r0.es, entF e = (hs.getD k default).bs) := Lib.hid fun r0 h => by
           have h2 := HLS.out.2.2.1.symm.trans h
           have h3 : (hs.map fun x => x.bs)[k]? = some (hs.getD k default).bs := by rw [List.getElem?_map, List.getElem?_eq_getElem hkl, List.getD_eq_getElem?_getD, List.getElem?_eq_getElem hkl]; rfl
           rw [h2, List.getElem?_map] at h3
           cases h4 : r0.es[k]? with
           | none => rw [h4] at h3; cases h3
           | some e =>
             rw [h4] at h3
             injection h3 with h3
             exact ⟨e, List.mem_of_getElem? h4, h3⟩
         have HML : Hid ((hs.getD k default).bs ∈ ls) := Lib.hid (by rw [HLS.out.2.2.1]; exact List.mem_map_of_mem (mem_getH hkl))
         generalize hs.getD k default = x at ch hd HSN HNT HML
         obtain ⟨xt, xA, xc, xb⟩ := x
         dsimp only at ch hd HSN HNT HML
         have hxl : xb.length ≤ 1000000 := Nat.le_trans (valsB_mem ls xb HML.out) (HFIN.out.1 trivial trivial).2.2.2.1
         have HOF := refOf_uni xA xc xb wr hd.1 hd.2.2.2 hxl hd.2.1 hd.2.2.1
         obtain ⟨m, hm⟩ : ∃ m, m = xb.length := ⟨_, rfl⟩
         rw [← hm] at ch HOF
         have HOF := Lib.hid HOF
         clear hd hxl hm hkl hbl
         go_upto_region 14 with (first
           | (go_at_call 95; (with_reducible refine HOF.out.mono ?_); clear HOF ch; rintro e w2 ⟨nm, ats, A2, n2, c2, ok, rfl, hr2, hb2, hc2⟩; dsimp only; have H2 := Lib.hid (And.intro hr2 (And.intro hb2 hc2)); clear hr2 hb2 hc2)
           | (refine wpList_store_rowTo rfl 126 _ _ rfl rfl w2.heap.size #[.string (sx nm), .slice A2 n2 c2] rfl rfl 126 zE (Blk.new w2 126 zE) (by kernel_rfl) rfl (by kernel_rfl) ?_))
         have hb3 : Below w2.heap.size w2 ((w2.alloc (.cells zE 126)).setRow w2.heap.size #[.string (sx nm), .slice A2 n2 c2]) := below_setRow ((Below.refl _ _).alloc (Nat.le_refl _) (.cells zE 126)) (Nat.le_refl _) _
         have k3 : Blk ((w2.alloc (.cells zE 126)).setRow w2.heap.size #[.string (sx nm), .slice A2 n2 c2]) w2.heap.size 126 #[.string (sx nm), .slice A2 n2 c2] := (Blk.new w2 126 zE).row _
         obtain ⟨B3, hB3⟩ : ∃ B, B = w2.heap.size := ⟨_, rfl⟩
         have hbz : Below w2.heap.size w2 ((w2.alloc (.cells zE 126)).setRow B3 #[.string (sx nm), .slice A2 n2 c2]) := by rw [hB3]; exact hb3
         rw [← hB3] at k3 ⊢
         clear hb3 hB3
         generalize (w2.alloc (.cells zE 126)).setRow B3 #[.string (sx nm), .slice A2 n2 c2] = w3 at k3 hbz ⊢
         have hb13 : Below wr.heap.size wr w3 := H2.out.2.1.trans (hbz.mono H2.out.2.1.size)
         have hzz : W9.heap.size ≤ wr.heap.size := HF.out.2.2.2.2.2.2.size
         have hcq3 : CQ 126 W9.heap.size Bq Bq W9 w3 := HF.out.2.2.2.2.2.2.trans (CQ.bel hb13 hzz)
         have hkq3 := HF.out.1.qq.on hb13
         have HX := Lib.hid (And.intro hkq3 (And.intro (RowK.onT HF.out.2.1 hb13) (And.intro (HF.out.2.2.1.on hb13) (And.intro k3 (And.intro hcq3 (Nat.le_trans hzz hb13.size))))))
         have HR2 := Lib.hid (And.intro (YtcjiofhjognklaaGreat.RowK.on H2.out.1 hbz) hzz)
         have HCC := Lib.hid H2.out.2.2
         clear k3 hbz hb13 hzz hcq3 hkq3 H2
         rcases HCC.out with ⟨rfl, h1, h2⟩ | ⟨rfl, h1⟩
         · have HY := Lib.hid (And.intro h1 h2)
           have HLE : Hid (es.length ≤ 1000000) := Lib.hid (by have h3 := HF.out.2.2.1.1; have h4 := HF.out.2.2.2.1; omega)
           have a2 : w3.cell? ⟨Bq, 2, none⟩ = some (.slice Av nv cv) := HX.out.1.cell 2
           clear h1 h2
           go_wp2_with (first
             | (refine wpList_load_row rfl 126 _ rfl B3 rfl 126 #[.string (sx nm), .slice A2 n2 c2] (0, 0) _ HX.out.2.2.2.1 rfl rfl (by kernel_rfl) ?_)
             | (at_builtin; refine wpList_appT kE (n := 1) rfl _ _ rfl [⟨nm, A2, n2, c2⟩] rfl rfl (HX.out.2.1.alloc _) rfl (rd_oneE w3 ⟨nm, A2, n2, c2⟩) (fun h => by cases h) (by have := HLE.out; simp; omega) (by rw [World.size_alloc]; have := HX.out.2.2.2.2.2; omega) ?_; intro v4 w4 hr4 hg4; obtain ⟨A4, d4, n4, HN4, rfl, _, _⟩ := hr4.rdn; have H4 := Lib.hid (And.intro hr4 hg4); have f4 := (blk_app HX.out.1 HX.out.2.1 hg4).frozen 2; have c4 : w4.cell? ⟨Bq, 2, none⟩ = some (.slice Av nv cv) := (blk_app HX.out.1 HX.out.2.1 hg4).cell 2; clear hr4 hg4 a2))
           have ha := (Below.refl w3.heap.size w3).alloc (Nat.le_refl _) (.cells #[.string (sx nm), .slice A2 n2 c2] 126)
           have hrow := HX.out.2.1.alloc (.cells #[.string (sx nm), .slice A2 n2 c2] 126)
           have hk4 : Blk w4 Bq 43 (rsCs kk y (.slice Av nv cv) (.slice A7 n7 c7)) := blk_app HX.out.1 HX.out.2.1 H4.out.2
           have e4 : EnO w4 W9.heap.size (es ++ [⟨nm, A2, n2, c2⟩]) (acc ++ [⟨nm, ats⟩]) := by
             have e1 := EnO.snoc (x := ⟨nm, A2, n2, c2⟩) (y := ⟨nm, ats⟩) HX.out.2.2.1 rfl (rowA_low HR2.out.1 HR2.out.2)
             exact (e1.on ha).fit fun j cs _ hc => H4.out.2.block j (Blk.lt hc) (fun e => by
               obtain ⟨_, _, cs', hc'⟩ := own_atT hrow e.symm
               exact blk_ne hc hc' (by decide) rfl)
           have hz : W9.heap.size ≤ (w3.alloc (.cells #[.string (sx nm), .slice A2 n2 c2] 126)).heap.size := by rw [World.size_alloc]; have := HX.out.2.2.2.2.2; omega
           have cq4 : CQ 126 W9.heap.size Bq Bq W9 w4 := (HX.out.2.2.2.2.1.trans (CQ.bel ha HX.out.2.2.2.2.2)).trans (CQ.row (K := kE) H4.out.2 hrow (Nat.le_refl _) hz)
           have cq5 := cq4.trans (CQ.setB w4 2 (.slice A4 n4 d4))
           have hk5 : Blk (w4.setCell ⟨Bq, 2, none⟩ (.slice A4 n4 d4)) Bq 43 (rsCs kk y (.slice A4 n4 d4) (.slice A7 n7 c7)) := hk4.set_ 2 (.slice A4 n4 d4)
           have HE := Lib.hid (And.intro (H9.out.1.cq cq5 hk5) (And.intro (RowK.setT (i := 2) (u := .slice A4 n4 d4) H4.out.1 hk4 (by decide)) (And.intro (e4.fit fun j cs _ hc => Below.heap_setCell w4 ⟨Bq, 2, none⟩ (.slice A4 n4 d4) j (fun e2 => blk_ne hc hk4 (by decide) e2)) cq5)))
           clear f4 c4 ha hrow hk4 e4 hz cq4 cq5 hk5
           go_roundw
           case rel => exact ⟨k + 1, by go_num, by omega, Lib.hid ⟨_, _, acc ++ [⟨nm, ats⟩], HE.out.1, HE.out.2.1, HE.out.2.2.1, by rw [List.length_append, HF.out.2.2.2.1]; rfl, fun e he => by
             rcases List.mem_append.1 he with h | h
             · exact HF.out.2.2.2.2.1 e h
             · rw [List.mem_singleton.1 h]; exact HY.out.1, by rw [HSN.out, HF.out.2.2.2.2.2.1, HY.out.2, List.map_append]; rfl, HE.out.2.2.2⟩⟩
           case measure => simp [intOf]; omega
         · have HNO : Hid (∀ r0, mayR r0 = true → l ≠ resB r0) := Lib.hid fun r0 h2 h3 => by
             obtain ⟨_, _, e3, _⟩ := HFIN.out.2 r0 h2 h3
             obtain ⟨e, he, hx⟩ := HNT.out r0 e3
             exact h1 e.nm e.ats ((mayR_parts h2).2 e he) hx.symm
           have HRU := Lib.hid (H9.out.1.cq HX.out.2.2.2.2.1 HX.out.1)
           clear h1
           go_wp2_with (refine wpList_store_rowTo rfl 43 _ _ rfl rfl w.heap.size zR rfl rfl 43 zR HRU.out.rr (by kernel_rfl) rfl (by kernel_rfl) ?_)
           obtain ⟨h8, h9⟩ := HRU.out.fin zR
           have t0 := h9.cell 0
           have t1 := h9.cell 1
           have t2 := h9.cell 2
           have t3 := h9.cell 3
           have HE2 := Lib.hid h8
           clear h8 h9
           generalize w3.setRow w.heap.size zR = w9 at t0 t1 t2 t3 HE2 ⊢
           refine bodyPost_ret (v := .tuple #[.agg zR, .bool false]) ?_ rfl (.inr ⟨HNO.out, rfl, HE2.out⟩)
           simp at t0 t1 t2 t3
           simp [results, Tryz.f22, go_sem, t0, t1, t2, t3]
       · have hkn : n6 = k := by omega
         subst hkn
         have hls : ls = acc.map entF := by rw [← HF.out.2.2.2.2.2.1, HLS.out.2.2.1, List.take_of_length_le]; rw [List.length_map]; exact Nat.le_of_eq HLS.out.1.symm
         obtain ⟨_, g1, g2, g3, g4⟩ := HFIN.out.1 trivial trivial
         have hlr := g4 acc hls
         have hbe : Below w.heap.size W9 wr := bel_bel H9.out.1.bel HF.out.1.bel HF.out.2.2.2.2.2.2.size
         have hat : ResAt wr ⟨kk, y, acc, b4⟩ (.slice Av nv cv) (.slice A7 n7 c7) := ⟨ownE_at HF.out.2.1 HF.out.2.2.1, (H9.out.2.2.2.below hbe).rdc HF.out.1.bel.size⟩
         have hlim : LimR ⟨kk, y, acc, b4⟩ := ⟨⟨by show acc.length ≤ _; rw [HF.out.2.2.2.1]; omega, fun e he => by have := mayN_len (Bool.and_eq_true_iff.1 (HF.out.2.2.2.2.1 e he)).1; omega, fun e he => by have := (mayL_iff.1 (Bool.and_eq_true_iff.1 (HF.out.2.2.2.2.1 e he)).2).1; omega, fun e he x hx => by have := sm_of_may (Bool.and_eq_true_iff.1 (HF.out.2.2.2.2.1 e he)).2 x hx; unfold SmA at this; omega⟩, by show b4.length ≤ _; omega, g1⟩
         have hfit : Fit ⟨kk, y, acc, b4⟩ := fun _ => by show (entsB acc).length ≤ _; rw [entsB_map, ← hls]; omega
         have HRB : Hid (Calls Tryz.prog 20 #[rsVal kk y (.slice Av nv cv) (.slice A7 n7 c7)] wr fun e w' => ∃ A m k b, e = .returned (.tuple #[.slice A m k, .bool b]) ∧ mayR ⟨kk, y, acc, b4⟩ = b ∧ Below wr.heap.size wr w') := Lib.hid ((refResBytes_any ⟨kk, y, acc, b4⟩ _ _ wr hat hlim hfit).mono fun e w' h => by
           rcases h with ⟨h1, A, m, k, rfl, _, _, h2⟩ | ⟨h1, rfl, h2⟩
           · exact ⟨A, m, k, true, rfl, h1, h2⟩
           · exact ⟨none, 0, 0, false, rfl, h1, h2⟩)
         have HAT := Lib.hid (And.intro hat (And.intro hlim (And.intro hlr hls)))
         clear hls hlr hbe hat hlim hfit g1 g2 g3 g4
         go_upto_region 18 with (first
           | (refine wpList_load_row rfl 43 _ rfl Bq rfl 43 (rsCs kk y (.slice Av nv cv) (.slice A7 n7 c7)) (0, 0) _ HF.out.1.qq rfl rfl (by kernel_rfl) ?_)
           | (go_at_call 20; (with_reducible refine HRB.out.mono ?_); clear HRB; rintro e w5 ⟨A5, m5, c5, b5, rfl, hm5, hb5⟩; dsimp only; have H5 := Lib.hid (And.intro hm5 hb5); clear hm5 hb5))
         have HRU := Lib.hid (HF.out.1.on H5.out.2)
         have hmm := H5.out.1
         cases b5 with
         | true =>
           have HMR := Lib.hid hmm
           clear hmm
           go_wp2_with (first
             | (refine wpList_load_row rfl 43 _ rfl Bq rfl 43 (rsCs kk y (.slice Av nv cv) (.slice A7 n7 c7)) (0, 0) _ HRU.out.qq rfl rfl (by kernel_rfl) ?_)
             | (refine wpList_store_rowTo rfl 43 _ _ rfl rfl w.heap.size (rsCs kk y (.slice Av nv cv) (.slice A7 n7 c7)) rfl rfl 43 zR HRU.out.rr (by kernel_rfl) rfl (by kernel_rfl) ?_))
           obtain ⟨h8, h9⟩ := HRU.out.fin (rsCs kk y (.slice Av nv cv) (.slice A7 n7 c7))
           have hown : RowK kE w5 W9.heap.size (.slice Av nv cv) es ∧ EnO w5 W9.heap.size es acc := ⟨RowK.onT HF.out.2.1 H5.out.2, HF.out.2.2.1.on H5.out.2⟩
           have hw9 : w.heap.size < W9.heap.size := by have := H9.out.1.rr.lt; omega
           have hk2 : ∀ k, W9.heap.size ≤ k → k < w5.heap.size → (w5.setRow w.heap.size (rsCs kk y (.slice Av nv cv) (.slice A7 n7 c7))).heap[k]? = w5.heap[k]? := fun k h1 h2 => setRow_other _ _ k _ (by omega)
           have hown2 := ResOwn.keep (r := ⟨0, false, acc, []⟩) ⟨⟨es, hown.1, hown.2⟩, nil_row kB w5 W9.heap.size⟩ hk2
           have hcur : RdC (w5.setRow w.heap.size (rsCs kk y (.slice Av nv cv) (.slice A7 n7 c7))) (.slice A7 n7 c7) b4 := ((H9.out.2.2.2.below (bel_bel H9.out.1.bel HRU.out.bel (Nat.le_trans HF.out.2.2.2.2.2.2.size H5.out.2.size))).below (below_setRow (Below.refl w.heap.size w5) (Nat.le_refl _) _)).rdc h8.size
           have h7 : ResAt (w5.setRow w.heap.size (rsCs kk y (.slice Av nv cv) (.slice A7 n7 c7))) ⟨kk, y, acc, b4⟩ (.slice Av nv cv) (.slice A7 n7 c7) := ⟨hown2.at.e, hcur⟩
           have t0 := h9.cell 0
           have t1 := h9.cell 1
           have t2 := h9.cell 2
           have t3 := h9.cell 3
           have HE2 := Lib.hid (And.intro h7 h8)
           clear h7 h8 h9 hown hown2 hcur hk2 hw9
           generalize w5.setRow w.heap.size (rsCs kk y (.slice Av nv cv) (.slice A7 n7 c7)) = w9 at t0 t1 t2 t3 HE2 ⊢
           refine bodyPost_ret (v := .tuple #[rsVal kk y (.slice Av nv cv) (.slice A7 n7 c7), .bool true]) ?_ rfl (.inl ⟨⟨kk, y, acc, b4⟩, _, _, HMR.out, HAT.out.2.2.1, rfl, HE2.out.1, HAT.out.2.1, HE2.out.2⟩)
           simp at t0 t1 t2 t3
           simp [results, Tryz.f22, go_sem, t0, t1, t2, t3]
         | false =>
           have HNO : Hid (∀ r0, mayR r0 = true → l ≠ resB r0) := Lib.hid fun r0 h2 h3 => by
             obtain ⟨e1, e2, e3, e4, _⟩ := HFIN.out.2 r0 h2 h3
             have e5 := entF_inj acc r0.es HF.out.2.2.2.2.1 (mayR_parts h2).2 (HAT.out.2.2.2.symm.trans e3)
             subst e1 e2 e4 e5
             rw [show (⟨r0.k, r0.y, r0.es, r0.cur⟩ : Res) = r0 from rfl, h2] at hmm
             cases hmm
           clear hmm
           go_wp2_with (refine wpList_store_rowTo rfl 43 _ _ rfl rfl w.heap.size zR rfl rfl 43 zR HRU.out.rr (by kernel_rfl) rfl (by kernel_rfl) ?_)
           obtain ⟨h8, h9⟩ := HRU.out.fin zR
           have t0 := h9.cell 0
           have t1 := h9.cell 1
           have t2 := h9.cell 2
           have t3 := h9.cell 3
           have HE2 := Lib.hid h8
           clear h8 h9
           generalize w5.setRow w.heap.size zR = w9 at t0 t1 t2 t3 HE2 ⊢
           refine bodyPost_ret (v := .tuple #[.agg zR, .bool false]) ?_ rfl (.inr ⟨HNO.out, rfl, HE2.out⟩)
           simp at t0 t1 t2 t3
           simp [results, Tryz.f22, go_sem, t0, t1, t2, t3]
   · have hk1 : (14 : Int) < kk := by omega
     have HNO : Hid (∀ r0, mayR r0 = true → l ≠ resB r0) := Lib.hid fun r0 h2 h3 => by
       obtain ⟨e1, _⟩ := HFIN.out.2 r0 h2 h3
       have h4 := (mayF_iff.1 (mayR_parts h2).1).2.2.1
       omega
     clear hk14
     go_upto_region 8 with (go_at_call 65; (with_reducible refine HDN.out.mono ?_); clear HDN; rintro e wE ⟨rfl, rfl⟩)
     have HRU := Lib.hid H8.out.1
     clear hk1
     go_wp2_with (refine wpList_store_rowTo rfl 43 _ _ rfl rfl w.heap.size zR rfl rfl 43 zR HRU.out.rr (by kernel_rfl) rfl (by kernel_rfl) ?_)
     obtain ⟨h8, h9⟩ := HRU.out.fin zR
     have t0 := h9.cell 0
     have t1 := h9.cell 1
     have t2 := h9.cell 2
     have t3 := h9.cell 3
     have HE2 := Lib.hid h8
     clear h8 h9
     generalize wE.setRow w.heap.size zR = w9 at t0 t1 t2 t3 HE2 ⊢
     refine bodyPost_ret (v := .tuple #[.agg zR, .bool false]) ?_ rfl (.inr ⟨HNO.out, rfl, HE2.out⟩)
     simp at t0 t1 t2 t3
     simp [results, Tryz.f22, go_sem, t0, t1, t2, t3]
 · have HNO : Hid (∀ r0, mayR r0 = true → l ≠ resB r0) := Lib.hid fun r0 h2 h3 => hdone (HFIN.out.2 r0 h2 h3).2.2.2.2
   have hdn : (!f4 && decide (r4 = [])) = false := by
     cases f4 with
     | true => rfl
     | false => simpa using fun h => hdone ⟨rfl, h⟩
   rw [hdn] at HDN
   have HDN := Lib.hid HDN
   clear hdn hdone
   go_upto_region 8 with (go_at_call 65; (with_reducible refine HDN.out.mono ?_); clear HDN; rintro e wE ⟨rfl, rfl⟩)
   have HRU := Lib.hid H8.out.1
   go_wp2_with (refine wpList_store_rowTo rfl 43 _ _ rfl rfl w.heap.size zR rfl rfl 43 zR HRU.out.rr (by kernel_rfl) rfl (by kernel_rfl) ?_)
   obtain ⟨h8, h9⟩ := HRU.out.fin zR
   have t0 := h9.cell 0
   have t1 := h9.cell 1
   have t2 := h9.cell 2
   have t3 := h9.cell 3
   have HE2 := Lib.hid h8
   clear h8 h9
   generalize wE.setRow w.heap.size zR = w9 at t0 t1 t2 t3 HE2 ⊢
   refine bodyPost_ret (v := .tuple #[.agg zR, .bool false]) ?_ rfl (.inr ⟨HNO.out, rfl, HE2.out⟩)
   simp at t0 t1 t2 t3
   simp [results, Tryz.f22, go_sem, t0, t1, t2, t3]
end Go.Proofs.YtcjiofhjognklaaGreat.Tlv
