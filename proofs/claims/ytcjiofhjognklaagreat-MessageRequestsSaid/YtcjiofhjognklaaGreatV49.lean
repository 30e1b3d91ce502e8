/- The request of bytes, by the document. -/
import Derived.Test.YtcjiofhjognklaaGreatV48
import Derived.Deep.RegionLaw
namespace Go.Proofs.YtcjiofhjognklaaGreat.Tlv
open Go.RowKit
set_option maxRecDepth 100000
set_option linter.unusedVariables false
set_option linter.unusedSimpArgs false
theorem RR.farMany {D g ga : Nat} {f : Bool} {r : List Int} (hg : g ≠ ga) (hD : D ≤ ga) : ∀ (vs : List Value) (o : Nat) (W : World), ga < W.heap.size → RR W D g f r → RR (W.setCells ga o vs) D g f r
 | [], o, W, _, h => h
 | v :: vs, o, W, hl, h => RR.farMany hg hD vs (o + 1) (W.setCell ⟨ga, o, none⟩ v) (by rw [World.size_setCell]; exact hl) (h.far hg hD hl v)
structure QR (w : World) (g Bq : Nat) (cs : Array Value) (f : Bool) (r : List Int) (W : World) : Prop where
 bel : Below w.heap.size w W
 rr : Blk W w.heap.size 57 zQ
 qq : Blk W Bq 57 cs
 rs : RR W w.heap.size g f r
 n1 : w.heap.size < g
 n2 : g < Bq
section
variable {w W W' : World} {g Bq : Nat} {c n : Int} {cs : Array Value} {f f' : Bool} {r r' : List Int}
theorem QR.gr (h : QR w g Bq cs f r W) (hg : W.grownBy W' (some g)) (hs : RR W' w.heap.size g f' r') : QR w g Bq cs f' r' W' := by
 have h1 := h.n1
 have h2 := h.n2
 exact ⟨h.bel.trans (below_grownR hg (by omega) (by have := h.bel.size; omega)), h.rr.grown hg (fun e => by injection e with e; omega), h.qq.grown hg (fun e => by injection e with e; omega), hs, h1, h2⟩
theorem QR.on (h : QR w g Bq cs f r W) (hb : Below W.heap.size W W') : QR w g Bq cs f r W' :=
 ⟨h.bel.trans (hb.mono h.bel.size), h.rr.on hb, h.qq.on hb, h.rs.on hb, h.n1, h.n2⟩
theorem QR.st (h : QR w g Bq cs f r W) (i : Nat) (u : Value) : QR w g Bq (cs.setIfInBounds i u) f r (W.setCell ⟨Bq, i, none⟩ u) := by
 have h1 := h.n1
 have h2 := h.n2
 have hl := h.qq.lt
 exact ⟨h.bel.setCell (p := ⟨Bq, i, none⟩) (show w.heap.size ≤ Bq by omega) u, h.rr.far (p := ⟨Bq, i, none⟩) (show w.heap.size ≠ Bq by omega) u, h.qq.set_ i u, h.rs.far (by omega) (by omega) hl u, h1, h2⟩
theorem QR.many (h : QR w g Bq (hQ c n) f r W) (o : Opn) (va vp vc : Value) : QR w g Bq (rqCs c n o va vp vc) f r (W.setCells Bq 2 (opCs o va vp vc).toList) := by
 have h1 := h.n1
 have h2 := h.n2
 have hl := h.qq.lt
 refine ⟨below_setCells (g := Bq) (by omega) (opCs o va vp vc).toList 2 W h.bel, Blk.manyFar (by omega) _ 2 W _ h.rr, ?_, RR.farMany (by omega) (by omega) _ 2 W hl h.rs, h1, h2⟩
 have k := Blk.many (opCs o va vp vc).toList 2 W _ h.qq
 rw [setMany_rq] at k
 exact k
theorem QR.new (h : QR w g Bq (hQ c n) f r W) {base : Nat} {o o2 : Opn} {va vp vc xa xp xc : Value} (ho : OpNew W base o2 xa xp xc) : OpNew (W.setCells Bq 2 (opCs o va vp vc).toList) base o2 xa xp xc :=
 opNew_apart ho h.qq (hQ_u8 c n) (fun k hk => setCells_other Bq k hk _ _ _) (Nat.le_of_eq (setCells_size _ _ _ _).symm)
theorem QR.fin (h : QR w g Bq cs f r W) (cz : Array Value) : Below w.heap.size w (W.setRow w.heap.size cz) ∧ Blk (W.setRow w.heap.size cz) w.heap.size 57 cz ∧ (∀ (base : Nat) (o : Opn) (va vp vc : Value), OpNew W base o va vp vc → OpAt (W.setRow w.heap.size cz) o va vp vc) :=
 ⟨below_setRow h.bel (Nat.le_refl _) cz, h.rr.row cz, fun base o va vp vc ho => (opNew_apart ho h.rr (hQ_u8 0 0) (fun k hk => setRow_other _ _ k _ hk) (below_setRow (Below.refl 0 W) (Nat.zero_le _) cz).size).at⟩
end
def RfRqOut (w : World) (l : List Int) (e : Ending) (w' : World) : Prop :=
 (∃ (c n : Int) (o : Opn) (va vp vc : Value), Cn c n ∧ mayO o = true ∧ l = rqB c n o ∧ e = .returned (.tuple #[rqVal c n o va vp vc, .bool true]) ∧ OpAt w' o va vp vc ∧ Lim o ∧ Below w.heap.size w w') ∨
 ((∀ c n o, Cn c n → mayO o = true → l ≠ rqB c n o) ∧ e = .returned (.tuple #[.agg zQ, .bool false]) ∧ Below w.heap.size w w')
set_option maxHeartbeats 16000000 in
theorem refRequestOf_any (A : Option Addr) (c : Nat) (l : List Int) (w : World) (hr : Rd w w.heap.size A l) (hby : Byt l) (hn : l.length ≤ 1000000) (hc : l.length ≤ c) (hcm : c ≤ 9223372036854775807) :
   Calls Tryz.prog 29 #[.slice A l.length c] w (RfRqOut w l) := by
 have hb1 : Below w.heap.size w (w.alloc (.cells zQ 57)) := (Below.refl _ _).alloc (Nat.le_refl _) _
 have kR1 := Blk.new w 57 zQ
 have hs2 := RR.new2 (w := w.alloc (.cells zQ 57)) (hr.below hb1) hc hcm hby (by omega) hb1.size
 have hb12 : Below (w.alloc (.cells zQ 57)).heap.size (w.alloc (.cells zQ 57)) ((w.alloc (.cells zQ 57)).alloc (.cells #[.slice A l.length c, .bool false] 107)) := (Below.refl _ _).alloc (Nat.le_refl _) _
 have kR2 := kR1.on hb12
 have hb2 := hb1.trans (hb12.mono hb1.size)
 rw [World.size_alloc] at hs2
 generalize hq1 : numV (tk false l 1) = q1
 obtain ⟨c1, f1, r1⟩ := q1
 generalize hq2 : numV (tk f1 r1 2) = q2
 obtain ⟨c2, f2, r2⟩ := q2
 generalize hq3 : tk f2 r2 3 = q3
 obtain ⟨o3, f3, r3⟩ := q3
 have e1 : tq1 l = (c1, f1, r1) := hq1
 have e2 : tq2 l = (c2, f2, r2) := by unfold tq2; rw [e1]; exact hq2
 have e3 : tq3 l = (o3, f3, r3) := by unfold tq3; rw [e2]; exact hq3
 obtain ⟨b, hbv⟩ : ∃ b, b = o3.getD [] := ⟨_, rfl⟩
 have hbb : Byt b ∧ b.length ≤ 1000000 := by
   have h := (tq_byt hby).2.2
   rw [e3] at h
   rw [hbv]
   exact ⟨h.1, Nat.le_trans h.2 hn⟩
 have HQ := Lib.hid (And.intro e1 (And.intro e2 (And.intro e3 hbv)))
 have HBY := Lib.hid hby
 obtain ⟨D, hD⟩ : ∃ D, D = w.heap.size := ⟨_, rfl⟩
 have HN1 : Hid (∀ g W, RR W D g false l → Calls Tryz.prog 60 #[.pointer (some ⟨g, 0, none⟩), .int .u8 1] W fun e w' => e = .returned (.int .u64 c1) ∧ RR w' D g f1 r1 ∧ W.grownBy w' (some g)) := Lib.hid fun g W h => by
   have h := refNumberV D g false l 1 W h
   rw [hq1] at h
   exact h
 have HN2 : Hid (∀ g W, RR W D g f1 r1 → Calls Tryz.prog 60 #[.pointer (some ⟨g, 0, none⟩), .int .u8 2] W fun e w' => e = .returned (.int .u64 c2) ∧ RR w' D g f2 r2 ∧ W.grownBy w' (some g)) := Lib.hid fun g W h => by
   have h := refNumberV D g f1 r1 2 W h
   rw [hq2] at h
   exact h
 have HB3 : Hid (∀ g W, RR W D g f2 r2 → Calls Tryz.prog 64 #[.pointer (some ⟨g, 0, none⟩), .int .u8 3] W fun e w' => ∃ A3 n3 c3, e = .returned (.slice A3 n3 c3) ∧ (n3 = b.length ∧ Rd w' D A3 b ∧ b.length ≤ c3 ∧ c3 ≤ 9223372036854775807) ∧ RR w' D g f3 r3 ∧ W.grownBy w' (some g)) := Lib.hid fun g W h => by
   have h := refTake_any D g f2 r2 3 W h
   rw [hq3] at h
   refine h.mono ?_
   intro e w' h
   obtain ⟨A1, c1, h1, h2, h3, h4, h5, h6, h7, h8⟩ := take_form h
   dsimp only at h1 h2 h5 h7
   rw [← hbv] at h1 h2 h5
   exact ⟨A1, _, c1, h1, ⟨rfl, h2, h5, h6⟩, h7, h8⟩
 have HOP : Hid (∀ A3 n3 c3 W, n3 = b.length → Rd W D A3 b → b.length ≤ c3 → c3 ≤ 9223372036854775807 → D ≤ W.heap.size → Calls Tryz.prog 11 #[.slice A3 n3 c3] W fun e w' => ∃ ob Aa na ca Ap np cp Ac nc cc k, e = .returned (.tuple #[opVal ob (.slice Aa na ca) (.slice Ap np cp) (.slice Ac nc cc), .bool k]) ∧ ((mayO ob = true ∧ b = opB ob ∧ k = true ∧ OpNew w' W.heap.size ob (.slice Aa na ca) (.slice Ap np cp) (.slice Ac nc cc) ∧ Lim ob) ∨ ((∀ o, mayO o = true → b ≠ opB o) ∧ k = false)) ∧ Below W.heap.size W w') := Lib.hid fun A3 n3 c3 W h1 h2 h3 h4 h5 => by
   subst h1
   exact refOpOf_new A3 c3 b W (h2.more h5) hbb.1 hbb.2 h3 h4
 obtain ⟨g, hg⟩ : ∃ g, g = w.heap.size + 1 := ⟨_, rfl⟩
 obtain ⟨n, hnn⟩ : ∃ n, n = l.length := ⟨_, rfl⟩
 rw [← hnn] at hs2 hb2 kR2 ⊢
 rw [← hg] at hs2
 have H2 := Lib.hid (And.intro hb2 (And.intro kR2 (And.intro hs2 (show w.heap.size < g by omega))))
 have HD := Lib.hid hD
 clear hr hby hb1 kR1 hs2 hb12 kR2 hb2 hn hnn hc hcm hq1 hq2 hq3 e1 e2 e3 hbv hbb hD
 go_enter Tryz.func29, Tryz.ntmps29
 go_upto_region 2 with fail
 rw [← hg]
 clear hg
 generalize (w.alloc (.cells #[.int .u64 0, .int .u64 0, .int .i64 0, .string ⟨#[]⟩, .string ⟨#[]⟩, .slice none 0 0, .slice none 0 0, .slice none 0 0, .int .i64 0] 57)).alloc (.cells #[.slice A n c, .bool false] 107) = W2 at H2 ⊢
 go_upto_region 3 with (refine wpList_store_rowTo rfl 57 _ _ rfl rfl W2.heap.size zQ rfl rfl 57 zQ (Blk.new W2 57 zQ) (by kernel_rfl) rfl (by kernel_rfl) ?_)
 have hqr : QR w g W2.heap.size zQ false l ((W2.alloc (.cells zQ 57)).setRow W2.heap.size zQ) := by
   have hb3 : Below W2.heap.size W2 ((W2.alloc (.cells zQ 57)).setRow W2.heap.size zQ) := below_setRow ((Below.refl _ _).alloc (Nat.le_refl _) (.cells zQ 57)) (Nat.le_refl _) _
   exact ⟨H2.out.1.trans (hb3.mono H2.out.1.size), H2.out.2.1.on hb3, (Blk.new W2 57 zQ).row _, H2.out.2.2.1.on hb3, H2.out.2.2.2, H2.out.2.2.1.lt⟩
 obtain ⟨Bq, hBq⟩ : ∃ b, b = W2.heap.size := ⟨_, rfl⟩
 rw [← hBq] at hqr ⊢
 clear H2 hBq
 generalize (W2.alloc (.cells zQ 57)).setRow Bq zQ = W3 at hqr ⊢
 have H3 := Lib.hid hqr
 clear hqr
 go_upto_region 4 with (go_at_call 60; (with_reducible refine (HN1.out g W3 (HD.out ▸ H3.out.rs)).mono ?_); clear HN1; rintro e w4 ⟨rfl, hrs, hg⟩; dsimp only; have H4 := Lib.hid (H3.out.gr hg (HD.out ▸ hrs)); clear hrs hg; have fz := H4.out.qq.frozen 0; have cz : w4.cell? ⟨Bq, 0, none⟩ = some (.int .u64 0) := H4.out.qq.cell 0)
 clear fz cz
 have hq : QR w g Bq (hQ c1 0) f1 r1 (w4.setCell ⟨Bq, 0, none⟩ (.int .u64 c1)) := H4.out.st 0 (.int .u64 c1)
 generalize w4.setCell ⟨Bq, 0, none⟩ (.int .u64 c1) = W5 at hq ⊢
 clear H3 H4
 have H5 := Lib.hid hq
 clear hq
 go_upto_region 5 with (go_at_call 60; (with_reducible refine (HN2.out g W5 (HD.out ▸ H5.out.rs)).mono ?_); clear HN2; rintro e w6 ⟨rfl, hrs, hg⟩; dsimp only; have H6 := Lib.hid (H5.out.gr hg (HD.out ▸ hrs)); clear hrs hg; have fz := H6.out.qq.frozen 1; have cz : w6.cell? ⟨Bq, 1, none⟩ = some (.int .u64 0) := H6.out.qq.cell 1)
 clear fz cz
 have hq : QR w g Bq (hQ c1 c2) f2 r2 (w6.setCell ⟨Bq, 1, none⟩ (.int .u64 c2)) := H6.out.st 1 (.int .u64 c2)
 generalize w6.setCell ⟨Bq, 1, none⟩ (.int .u64 c2) = W7 at hq ⊢
 clear H5 H6
 have H7 := Lib.hid hq
 clear hq
 go_upto_region 6 with (first
   | (go_at_call 64; (with_reducible refine (HB3.out g W7 (HD.out ▸ H7.out.rs)).mono ?_); clear HB3; rintro e w8 ⟨A3, n3, c3, rfl, h8, hrs8, hg8⟩; dsimp only; have H8 := Lib.hid (And.intro h8 (H7.out.gr hg8 (HD.out ▸ hrs8))); clear h8 hrs8 hg8)
   | (go_at_call 11; (with_reducible refine (HOP.out A3 n3 c3 w8 H8.out.1.1 H8.out.1.2.1 H8.out.1.2.2.1 H8.out.1.2.2.2 (HD.out ▸ H8.out.2.bel.size)).mono ?_); clear HOP; rintro e w9 ⟨ob, Aa, na, ca, Ap, np, cp, Ac, nc, cc, k, rfl, h9, hb9⟩; dsimp only; have H9 := Lib.hid (And.intro h9 (H8.out.2.on hb9)); clear h9 hb9)
   | (refine wpList_store_rowTo rfl 27 _ _ rfl rfl w9.heap.size (opCs ob (.slice Aa na ca) (.slice Ap np cp) (.slice Ac nc cc)) rfl rfl 27 zCs (Blk.new w9 27 zCs) (by kernel_rfl) rfl (by kernel_rfl) ?_))
 have hb7 : Below w9.heap.size w9 ((w9.alloc (.cells zCs 27)).setRow w9.heap.size (opCs ob (.slice Aa na ca) (.slice Ap np cp) (.slice Ac nc cc))) := below_setRow ((Below.refl _ _).alloc (Nat.le_refl _) (.cells zCs 27)) (Nat.le_refl _) _
 have kO : Blk ((w9.alloc (.cells zCs 27)).setRow w9.heap.size (opCs ob (.slice Aa na ca) (.slice Ap np cp) (.slice Ac nc cc))) w9.heap.size 27 (opCs ob (.slice Aa na ca) (.slice Ap np cp) (.slice Ac nc cc)) := (Blk.new w9 27 zCs).row _
 have hqs := H9.out.2.on hb7
 have hcase : ((mayO ob = true ∧ b = opB ob ∧ k = true ∧ OpNew ((w9.alloc (.cells zCs 27)).setRow w9.heap.size (opCs ob (.slice Aa na ca) (.slice Ap np cp) (.slice Ac nc cc))) w8.heap.size ob (.slice Aa na ca) (.slice Ap np cp) (.slice Ac nc cc) ∧ Lim ob) ∨ ((∀ o, mayO o = true → b ≠ opB o) ∧ k = false)) := by
   rcases H9.out.1 with ⟨x1, x2, x3, x4, x5⟩ | h
   · exact .inl ⟨x1, x2, x3, x4.on hb7, x5⟩
   · exact .inr h
 obtain ⟨Bo, hBo⟩ : ∃ Bo, Bo = w9.heap.size := ⟨_, rfl⟩
 rw [← hBo] at kO hqs hcase ⊢
 clear hb7 hBo H7 H8 H9
 generalize (w9.alloc (.cells zCs 27)).setRow Bo (opCs ob (.slice Aa na ca) (.slice Ap np cp) (.slice Ac nc cc)) = W9 at kO hqs hcase ⊢
 have HX := Lib.hid (And.intro hqs kO)
 have HC := Lib.hid hcase
 clear hqs kO hcase
 go_upto_region 7 with (first
   | (refine wpList_load_row rfl 27 _ rfl Bo rfl 27 (opCs ob (.slice Aa na ca) (.slice Ap np cp) (.slice Ac nc cc)) (0, 0) _ HX.out.2 rfl rfl (by kernel_rfl) ?_)
   | (refine wpList_store_mid rfl 27 _ _ rfl Bq 2 (opCs ob (.slice Aa na ca) (.slice Ap np cp) (.slice Ac nc cc)) rfl rfl (HX.out.1.qq.there 2 7 (Nat.le_refl 9)) (by kernel_rfl) (by kernel_rfl) ?_))
 have hqs := HX.out.1.many ob (.slice Aa na ca) (.slice Ap np cp) (.slice Ac nc cc)
 have hcase : ((mayO ob = true ∧ b = opB ob ∧ k = true ∧ OpNew (W9.setCells Bq 2 (Array.toList (opCs ob (.slice Aa na ca) (.slice Ap np cp) (.slice Ac nc cc)))) w8.heap.size ob (.slice Aa na ca) (.slice Ap np cp) (.slice Ac nc cc) ∧ Lim ob) ∨ ((∀ o, mayO o = true → b ≠ opB o) ∧ k = false)) := by
   rcases HC.out with ⟨x1, x2, x3, x4, x5⟩ | h
   · exact .inl ⟨x1, x2, x3, HX.out.1.new x4, x5⟩
   · exact .inr h
 clear HX HC
 generalize W9.setCells Bq 2 (Array.toList (opCs ob (.slice Aa na ca) (.slice Ap np cp) (.slice Ac nc cc))) = WA at hqs hcase ⊢
 have HX := Lib.hid hqs
 have HE := Lib.hid (refDone_any w.heap.size g f3 r3 WA hqs.rs)
 clear hqs
 rcases hcase with ⟨hm, hbo, rfl, hnew, hlim⟩ | ⟨hno, rfl⟩
 · by_cases hgood : f3 = false ∧ r3 = []
   · obtain ⟨rfl, rfl⟩ := hgood
     have hL : l = rqB c1 c2 ob ∧ Cn c1 c2 := by
       obtain ⟨e1, e2, e3, e4⟩ := HQ.out
       have h := rq_sound HBY.out (by rw [e3]) (by rw [e3])
       rw [e1, e2, e3] at h
       dsimp only at h
       rw [← e4, hbo] at h
       exact h
     have HL := Lib.hid (And.intro hL (And.intro hm hlim))
     have HW := Lib.hid hnew
     have hdn : (!false && decide (([] : List Int) = [])) = true := rfl
     rw [hdn] at HE
     clear hm hbo hnew hlim hL hdn
     go_wp2_with (first
       | (go_at_call 65; (with_reducible refine HE.out.mono ?_); clear HE; rintro e wE ⟨rfl, rfl⟩)
       | (refine wpList_load_row rfl 57 _ rfl Bq rfl 57 (rqCs c1 c2 ob (.slice Aa na ca) (.slice Ap np cp) (.slice Ac nc cc)) (0, 0) _ HX.out.qq rfl rfl (by kernel_rfl) ?_)
       | (refine wpList_store_rowTo rfl 57 _ _ rfl rfl w.heap.size (rqCs c1 c2 ob (.slice Aa na ca) (.slice Ap np cp) (.slice Ac nc cc)) rfl rfl 57 zQ HX.out.rr (by kernel_rfl) rfl (by kernel_rfl) ?_))
     obtain ⟨h8, h9, h7⟩ := HX.out.fin (rqCs c1 c2 ob (.slice Aa na ca) (.slice Ap np cp) (.slice Ac nc cc))
     have h7 := h7 _ _ _ _ _ HW.out
     have t0 := h9.cell 0
     have t1 := h9.cell 1
     have t2 := h9.cell 2
     have t3 := h9.cell 3
     have t4 := h9.cell 4
     have t5 := h9.cell 5
     have t6 := h9.cell 6
     have t7 := h9.cell 7
     have t8 := h9.cell 8
     have HE2 := Lib.hid (And.intro h7 h8)
     clear h7 h8 h9
     generalize wE.setRow w.heap.size (rqCs c1 c2 ob (.slice Aa na ca) (.slice Ap np cp) (.slice Ac nc cc)) = wf at t0 t1 t2 t3 t4 t5 t6 t7 t8 HE2 ⊢
     refine bodyPost_ret (v := .tuple #[rqVal c1 c2 ob (.slice Aa na ca) (.slice Ap np cp) (.slice Ac nc cc), .bool true]) ?_ rfl (.inl ⟨c1, c2, ob, _, _, _, HL.out.1.2, HL.out.2.1, HL.out.1.1, rfl, HE2.out.1, HL.out.2.2, HE2.out.2⟩)
     simp at t0 t1 t2 t3 t4 t5 t6 t7 t8
     simp [results, Tryz.f29, go_sem, t0, t1, t2, t3, t4, t5, t6, t7, t8]
   · have HNO : Hid (∀ c n o, Cn c n → mayO o = true → l ≠ rqB c n o) := Lib.hid fun c n o h1 h2 h3 => by
       obtain ⟨e1, e2, e3, e4⟩ := HQ.out
       have h := (rq_cmp HBY.out h1 h2 h3).2.2.2
       rw [e3] at h
       exact hgood h
     have hdn : (!f3 && decide (r3 = [])) = false := by
       cases f3 with
       | true => rfl
       | false => simpa using fun h => hgood ⟨rfl, h⟩
     rw [hdn] at HE
     clear hgood hm hbo hnew hlim hdn
     go_wp2_with (first
       | (go_at_call 65; (with_reducible refine HE.out.mono ?_); clear HE; rintro e wE ⟨rfl, rfl⟩)
       | (refine wpList_store_rowTo rfl 57 _ _ rfl rfl w.heap.size zQ rfl rfl 57 zQ HX.out.rr (by kernel_rfl) rfl (by kernel_rfl) ?_))
     obtain ⟨h8, h9, _⟩ := HX.out.fin zQ
     have t0 := h9.cell 0
     have t1 := h9.cell 1
     have t2 := h9.cell 2
     have t3 := h9.cell 3
     have t4 := h9.cell 4
     have t5 := h9.cell 5
     have t6 := h9.cell 6
     have t7 := h9.cell 7
     have t8 := h9.cell 8
     have HE2 := Lib.hid h8
     clear h8 h9
     generalize wE.setRow w.heap.size zQ = wf at t0 t1 t2 t3 t4 t5 t6 t7 t8 HE2 ⊢
     refine bodyPost_ret (v := .tuple #[.agg zQ, .bool false]) ?_ rfl (.inr ⟨HNO.out, rfl, HE2.out⟩)
     simp at t0 t1 t2 t3 t4 t5 t6 t7 t8
     simp [results, Tryz.f29, go_sem, t0, t1, t2, t3, t4, t5, t6, t7, t8]
 · have HNO : Hid (∀ c n o, Cn c n → mayO o = true → l ≠ rqB c n o) := Lib.hid fun c n o h1 h2 h3 => by
     obtain ⟨e1, e2, e3, e4⟩ := HQ.out
     have h := (rq_cmp HBY.out h1 h2 h3).2.2.1
     rw [e3] at h
     exact hno o h2 (e4.trans h)
   clear hno
   go_wp2_with (first
     | (refine wpList_store_rowTo rfl 57 _ _ rfl rfl w.heap.size zQ rfl rfl 57 zQ HX.out.rr (by kernel_rfl) rfl (by kernel_rfl) ?_))
   obtain ⟨h8, h9, _⟩ := HX.out.fin zQ
   have t0 := h9.cell 0
   have t1 := h9.cell 1
   have t2 := h9.cell 2
   have t3 := h9.cell 3
   have t4 := h9.cell 4
   have t5 := h9.cell 5
   have t6 := h9.cell 6
   have t7 := h9.cell 7
   have t8 := h9.cell 8
   have HE2 := Lib.hid h8
   clear h8 h9
   generalize WA.setRow w.heap.size zQ = wf at t0 t1 t2 t3 t4 t5 t6 t7 t8 HE2 ⊢
   refine bodyPost_ret (v := .tuple #[.agg zQ, .bool false]) ?_ rfl (.inr ⟨HNO.out, rfl, HE2.out⟩)
   simp at t0 t1 t2 t3 t4 t5 t6 t7 t8
   simp [results, Tryz.f29, go_sem, t0, t1, t2, t3, t4, t5, t6, t7, t8]
end Go.Proofs.YtcjiofhjognklaaGreat.Tlv
namespace Go.Proofs.YtcjiofhjognklaaGreat.Tlv
open Go.RowKit
set_option maxRecDepth 100000
set_option linter.unusedVariables false
set_option linter.unusedSimpArgs false
structure OpOwn (w : World) (base : Nat) (o : Opn) (va vp vc : Value) : Prop where
 a : YtcjiofhjognklaaGreat.RowK kA w base va o.attrs
 p : RowK kStr w base vp o.parts
 c : RowK kB w base vc o.cur
theorem OpOwn.at {w : World} {base : Nat} {o : Opn} {va vp vc : Value} (h : OpOwn w base o va vp vc) : OpAt w o va vp vc := ⟨YtcjiofhjognklaaGreat.RowK.rdv h.a, h.p.rdp, h.c.rdc2⟩
theorem OpOwn.keep {w w' : World} {base : Nat} {o : Opn} {va vp vc : Value} (h : OpOwn w base o va vp vc) (hb : ∀ k, base ≤ k → k < w.heap.size → w'.heap[k]? = w.heap[k]?) : OpOwn w' base o va vp vc :=
 ⟨RowK.fit h.a fun k e => hb k (own_at h.a e).1 (own_at h.a e).2.1, RowK.fitT h.p fun k e => hb k (own_atT h.p e).1 (own_atT h.p e).2.1, RowK.fitT h.c fun k e => hb k (own_atT h.c e).1 (own_atT h.c e).2.1⟩
theorem OpOwn.low {w : World} {base base' : Nat} {o : Opn} {va vp vc : Value} (h : OpOwn w base o va vp vc) (hb : base' ≤ base) : OpOwn w base' o va vp vc := ⟨YtcjiofhjognklaaGreat.RowK.low h.a hb, RowK.lowR h.p hb, RowK.lowR h.c hb⟩
theorem rowA_on {w w' : World} {base : Nat} {v : Value} {l : List At} (h : YtcjiofhjognklaaGreat.RowK kA w base v l) (hb : Below w.heap.size w w') : YtcjiofhjognklaaGreat.RowK kA w' base v l := RowK.fit h fun k e => hb.block k (own_at h e).2.1
theorem empty_rowS (w : World) : RowK kStr (w.alloc (.cells #[] 9)) w.heap.size (.slice (some ⟨w.heap.size, 0, none⟩) 0 0) [] := by
 refine ⟨rfl, .inr ⟨w.heap.size, 0, #[], rfl, Nat.le_refl _, (show (w.heap.push (.cells #[] 9))[w.heap.size]? = _ from Array.getElem?_push_size), Nat.le_refl _, Nat.zero_le _, rfl, rfl⟩⟩
set_option maxHeartbeats 4000000 in
theorem clone_parts (v : Value) (l : List (List UInt8)) (w : World) (hv : RdP w v l) (hl : l.length ≤ 1000000) :
   Calls Tryz.prog 133 #[v] w fun e w' => ∃ v', e = .returned v' ∧ RowK kStr w' w.heap.size v' l ∧ Below w.heap.size w w' := by
 obtain ⟨A, c, rfl, ⟨h0, _, _⟩, hr⟩ := hv
 have q22 : ∀ (w : World) (a : Option Addr) (n c n' c' : Nat), (binOp .eql 24 (.slice a n c) (.slice none n' c')).run Tryz.prog w = .ok (.bool a.isNone) w := fun w a n c n' c' => Go.Lib.run_eql_slice_nil w 24 9 a n c n' c' Tryz.underlying24
 cases A with
 | none =>
   have hl0 := rd_none hr
   have hc0 := h0 rfl
   subst hl0 hc0
   clear hr h0
   go_enter Tryz.func133, Tryz.ntmps133
   go_wp2
   go_ret
   exact ⟨_, rfl, nil_row kStr _ _, Below.refl _ _⟩
 | some ad =>
   have HR := Lib.hid hr
   have HN := Lib.hid (empty_rowS w)
   have HL := Lib.hid hl
   clear hr h0 hl
   have hrd := HR.out.below ((Below.refl w.heap.size w).alloc (Nat.le_refl _) (.cells #[] 9))
   have hln : ([] : List (List UInt8)).length + l.length ≤ 1000000000 := by have := HL.out; simp; omega
   have hbs : w.heap.size ≤ (w.alloc (.cells #[] 9)).heap.size := by simp
   have HX := Lib.hid (And.intro hrd (And.intro hln hbs))
   clear hrd hln hbs
   go_enter Tryz.func133, Tryz.ntmps133
   go_wp2_with (at_builtin; refine wpList_appK kStr rfl _ _ rfl l rfl HN.out rfl HX.out.1 (fun h => by cases h) HX.out.2.1 HX.out.2.2 ?_; intro v' w' hrow hgrow)
   go_ret
   exact ⟨v', rfl, hrow, ((Below.refl _ _).alloc (Nat.le_refl _) _).trans ((row_below HN.out hgrow (by simp)).mono (Nat.le_refl _))⟩
set_option maxHeartbeats 16000000 in
theorem copyOp_any (o : Opn) (va vp vc : Value) (w : World) (ho : OpAt w o va vp vc) (hl : Lim o) (hlc : o.cur.length ≤ 1000000000) :
   Calls Tryz.prog 102 #[opVal o va vp vc] w fun e w' => ∃ Aa na ca Ap np cp Ac nc cc, e = .returned (opVal o (.slice Aa na ca) (.slice Ap np cp) (.slice Ac nc cc)) ∧ OpOwn w' w.heap.size o (.slice Aa na ca) (.slice Ap np cp) (.slice Ac nc cc) ∧ Below w.heap.size w w' := by
 have HOR := Lib.hid (And.intro ho hl)
 have HLC := Lib.hid (show o.cur.length ≤ 70368744177664 by omega)
 obtain ⟨Aa, ca, na, rfl, _, _⟩ := rdv_len ho.a
 obtain ⟨Ap, cp, np, rfl⟩ := ho.p.len
 obtain ⟨Ac, cc, nc, rfl, hnc, _⟩ := ho.c.full
 clear ho hl hlc
 have hb1 := (Below.refl w.heap.size w).alloc (Nat.le_refl _) (.cells (opCs o (.slice Aa na ca) (.slice Ap np cp) (.slice Ac nc cc)) 27)
 have hb2 := hb1.alloc hb1.size (.cells zCs 27)
 have k0 := (Blk.new w 27 (opCs o (.slice Aa na ca) (.slice Ap np cp) (.slice Ac nc cc))).alloc (.cells zCs 27)
 have k1 := Blk.new (w.alloc (.cells (opCs o (.slice Aa na ca) (.slice Ap np cp) (.slice Ac nc cc)) 27)) 27 zCs
 rw [World.size_alloc] at k1
 have hsz : ((w.alloc (.cells (opCs o (.slice Aa na ca) (.slice Ap np cp) (.slice Ac nc cc)) 27)).alloc (.cells zCs 27)).heap.size = w.heap.size + 1 + 1 := by simp
 obtain ⟨B1, hB1⟩ : ∃ b, b = w.heap.size := ⟨_, rfl⟩
 have H0 := Lib.hid (And.intro hb2 (And.intro (hB1 ▸ k0) (And.intro (hB1 ▸ k1) (hB1 ▸ hsz))))
 clear hb1 hb2 k0 k1 hsz
 go_enter Tryz.func102, Tryz.ntmps102
 go_upto_region 1 with fail
 rw [← hB1]
 generalize (w.alloc (.cells (opCs o (.slice Aa na ca) (.slice Ap np cp) (.slice Ac nc cc)) 27)).alloc (.cells #[.int .i64 0, .string ⟨#[]⟩, .string ⟨#[]⟩, .slice none 0 0, .slice none 0 0, .slice none 0 0, .int .i64 0] 27) = W0 at H0 ⊢
 have HBB := Lib.hid hB1
 clear hB1
 have HC1 : Hid (∀ W, Below W0.heap.size W0 W → Calls Tryz.prog 132 #[.slice Aa na ca] W fun e w' => ∃ A' n' c', e = .returned (.slice A' n' c') ∧ YtcjiofhjognklaaGreat.RowK kA w' W0.heap.size (.slice A' n' c') o.attrs ∧ Below W0.heap.size W0 w') := Lib.hid fun W hb =>
   (YtcjiofhjognklaaGreat.clone_any _ o.attrs W ((HOR.out.1.on H0.out.1).on hb).a HOR.out.2.la).mono fun e w' ⟨v', h1, h2, h3⟩ => by
     obtain ⟨A1, c1, n1, rfl, _, _⟩ := rdv_len (YtcjiofhjognklaaGreat.RowK.rdv h2)
     exact ⟨A1, n1, c1, h1, YtcjiofhjognklaaGreat.RowK.low h2 hb.size, hb.trans (h3.mono hb.size)⟩
 have HC2 : Hid (∀ W, Below W0.heap.size W0 W → Calls Tryz.prog 133 #[.slice Ap np cp] W fun e w' => ∃ A' n' c', e = .returned (.slice A' n' c') ∧ RowK kStr w' W0.heap.size (.slice A' n' c') o.parts ∧ Below W.heap.size W w') := Lib.hid fun W hb =>
   (clone_parts _ o.parts W ((HOR.out.1.on H0.out.1).on hb).p HOR.out.2.lp).mono fun e w' ⟨v', h1, h2, h3⟩ => by
     obtain ⟨A1, c1, n1, rfl⟩ := h2.rdp.len
     exact ⟨A1, n1, c1, h1, RowK.lowR h2 hb.size, h3⟩
 have HC3 : Hid (∀ W, Below W0.heap.size W0 W → Calls Tryz.prog 100 #[.slice Ac nc cc] W fun e w' => ∃ A' n' c', e = .returned (.slice A' n' c') ∧ RowK kB w' W0.heap.size (.slice A' n' c') o.cur ∧ Below W.heap.size W w') := Lib.hid fun W hb => by
   obtain ⟨A, c, e, _, hr⟩ := ((HOR.out.1.on H0.out.1).on hb).c
   injection e with e1 e2 e3
   subst e1 e2 e3
   exact (clone_any _ _ o.cur W hr HLC.out).mono fun e w' ⟨v', h1, h2, h3⟩ => by
     have h4 := row_k.2 h2
     obtain ⟨A1, c1, n1, _, rfl, _, _⟩ := h4.rdn
     exact ⟨A1, n1, c1, h1, RowK.lowR h4 hb.size, h3⟩
 have HS : Hid (∀ W', Below W0.heap.size W0 W' → (W'.cell? ⟨B1, 3, none⟩ = some (.slice Aa na ca) ∧ W'.cell? ⟨B1, 4, none⟩ = some (.slice Ap np cp) ∧ W'.cell? ⟨B1, 5, none⟩ = some (.slice Ac nc cc)) ∧ (W'.frozen? ⟨B1, 3, none⟩ = false ∧ W'.frozen? ⟨B1, 4, none⟩ = false ∧ W'.frozen? ⟨B1, 5, none⟩ = false)) :=
   Lib.hid fun W' h => ⟨⟨(H0.out.2.1.on h).cell 3, (H0.out.2.1.on h).cell 4, (H0.out.2.1.on h).cell 5⟩, (H0.out.2.1.on h).frozen 3, (H0.out.2.1.on h).frozen 4, (H0.out.2.1.on h).frozen 5⟩
 have hwd : Below W0.heap.size W0 W0.drew := YtcjiofhjognklaaGreat.below_drew (Below.refl _ _)
 obtain ⟨⟨x3, x4, x5⟩, f3, f4, f5⟩ := HS.out _ hwd
 have HC1' := Lib.hid (HC1.out _ hwd)
 clear hwd HC1
 go_region_law (first
   | (go_simp; (with_reducible refine HC1'.out.mono ?_); clear HC1' x3 x4 x5 f3 f4 f5; rintro e w1 ⟨A1, n1, c1, rfl, hr1, hb1⟩; dsimp only; obtain ⟨⟨x3, x4, x5⟩, f3, f4, f5⟩ := HS.out _ hb1; have HC2' := Lib.hid (HC2.out _ hb1); have H1 := Lib.hid (And.intro hr1 hb1); clear hr1 hb1 HC2)
   | (go_simp; (with_reducible refine HC2'.out.mono ?_); clear HC2' x3 x4 x5 f3 f4 f5; rintro e w2 ⟨A2, n2, c2, rfl, hr2, hb2⟩; dsimp only; have hb02 := H1.out.2.trans (hb2.mono H1.out.2.size); obtain ⟨⟨x3, x4, x5⟩, f3, f4, f5⟩ := HS.out _ hb02; have HC3' := Lib.hid (HC3.out _ hb02); have H2 := Lib.hid (And.intro (rowA_on H1.out.1 hb2) (And.intro hr2 hb02)); clear hr2 hb2 hb02 HC3)
   | (go_simp; (with_reducible refine HC3'.out.mono ?_); clear HC3' x3 x4 x5 f3 f4 f5; rintro e w3 ⟨A3, n3, c3, rfl, hr3, hb3⟩; dsimp only; have hb03 := H2.out.2.2.trans (hb3.mono H2.out.2.2.size); obtain ⟨⟨x3, x4, x5⟩, f3, f4, f5⟩ := HS.out _ hb03; have H3 := Lib.hid (And.intro (show OpOwn w3 W0.heap.size o (.slice A1 n1 c1) (.slice A2 n2 c2) (.slice A3 n3 c3) from ⟨rowA_on H2.out.1 hb3, RowK.onT H2.out.2.1 hb3, hr3⟩) hb03); clear hr3 hb3 hb03))
 all_goals
   have hlt : B1 < W0.heap.size := by have := H0.out.2.2.2; omega
   have hk := (((H0.out.2.1.on H3.out.2).set_ 3 (.slice A1 n1 c1)).set_ 4 (.slice A2 n2 c2)).set_ 5 (.slice A3 n3 c3)
   have hk2 : Blk (((w3.setCell ⟨B1, 3, none⟩ (.slice A1 n1 c1)).setCell ⟨B1, 4, none⟩ (.slice A2 n2 c2)).setCell ⟨B1, 5, none⟩ (.slice A3 n3 c3)) (B1 + 1) 27 zCs := (((H0.out.2.2.1.on H3.out.2).far (p := ⟨B1, 3, none⟩) (show B1 + 1 ≠ B1 by omega) _).far (p := ⟨B1, 4, none⟩) (show B1 + 1 ≠ B1 by omega) _).far (p := ⟨B1, 5, none⟩) (show B1 + 1 ≠ B1 by omega) _
   have hbe := (((H0.out.1.trans (H3.out.2.mono H0.out.1.size)).setCell (p := ⟨B1, 3, none⟩) (show w.heap.size ≤ B1 by have := HBB.out; omega) (.slice A1 n1 c1)).setCell (p := ⟨B1, 4, none⟩) (show w.heap.size ≤ B1 by have := HBB.out; omega) (.slice A2 n2 c2)).setCell (p := ⟨B1, 5, none⟩) (show w.heap.size ≤ B1 by have := HBB.out; omega) (.slice A3 n3 c3)
   have hown : OpOwn (((w3.setCell ⟨B1, 3, none⟩ (.slice A1 n1 c1)).setCell ⟨B1, 4, none⟩ (.slice A2 n2 c2)).setCell ⟨B1, 5, none⟩ (.slice A3 n3 c3)) W0.heap.size o (.slice A1 n1 c1) (.slice A2 n2 c2) (.slice A3 n3 c3) := H3.out.1.keep fun k h1 h2 => by
     have hne : k ≠ B1 := by omega
     exact ((Below.heap_setCell _ ⟨B1, 5, none⟩ _ k hne).trans (Below.heap_setCell _ ⟨B1, 4, none⟩ _ k hne)).trans (Below.heap_setCell _ ⟨B1, 3, none⟩ _ k hne)
   have hzz : W0.heap.size ≤ (((w3.setCell ⟨B1, 3, none⟩ (.slice A1 n1 c1)).setCell ⟨B1, 4, none⟩ (.slice A2 n2 c2)).setCell ⟨B1, 5, none⟩ (.slice A3 n3 c3)).heap.size := by rw [World.size_setCell, World.size_setCell, World.size_setCell]; exact H3.out.2.size
   have hk : Blk (((w3.setCell ⟨B1, 3, none⟩ (.slice A1 n1 c1)).setCell ⟨B1, 4, none⟩ (.slice A2 n2 c2)).setCell ⟨B1, 5, none⟩ (.slice A3 n3 c3)) B1 27 (opCs o (.slice A1 n1 c1) (.slice A2 n2 c2) (.slice A3 n3 c3)) := hk
   have HE := Lib.hid (And.intro hown (And.intro hbe (And.intro hk (And.intro hk2 (And.intro hzz hlt)))))
   clear hown hbe hk hk2 hzz hlt x3 x4 x5 f3 f4 f5
   generalize ((w3.setCell ⟨B1, 3, none⟩ (.slice A1 n1 c1)).setCell ⟨B1, 4, none⟩ (.slice A2 n2 c2)).setCell ⟨B1, 5, none⟩ (.slice A3 n3 c3) = w4 at HE ⊢
   go_wp2_with (first
     | (refine wpList_load_row rfl 27 _ rfl B1 rfl 27 (opCs o (.slice A1 n1 c1) (.slice A2 n2 c2) (.slice A3 n3 c3)) (0, 0) _ HE.out.2.2.1 rfl rfl (by kernel_rfl) ?_)
     | (refine wpList_store_rowTo rfl 27 _ _ rfl rfl (B1 + 1) (opCs o (.slice A1 n1 c1) (.slice A2 n2 c2) (.slice A3 n3 c3)) rfl rfl 27 zCs HE.out.2.2.2.1 (by kernel_rfl) rfl (by kernel_rfl) ?_))
   have h9 := HE.out.2.2.2.1.row (opCs o (.slice A1 n1 c1) (.slice A2 n2 c2) (.slice A3 n3 c3))
   have h8 := below_setRow HE.out.2.1 (show w.heap.size ≤ B1 + 1 by have := HBB.out; omega) (opCs o (.slice A1 n1 c1) (.slice A2 n2 c2) (.slice A3 n3 c3))
   have h7 : OpOwn (w4.setRow (B1 + 1) (opCs o (.slice A1 n1 c1) (.slice A2 n2 c2) (.slice A3 n3 c3))) W0.heap.size o (.slice A1 n1 c1) (.slice A2 n2 c2) (.slice A3 n3 c3) := HE.out.1.keep fun k h1 h2 => setRow_other _ _ k _ (by have := H0.out.2.2.2; omega)
   have t0 := h9.cell 0
   have t1 := h9.cell 1
   have t2 := h9.cell 2
   have t3 := h9.cell 3
   have t4 := h9.cell 4
   have t5 := h9.cell 5
   have t6 := h9.cell 6
   have HF := Lib.hid (And.intro (h7.low H0.out.1.size) h8)
   clear h7 h8 h9
   generalize w4.setRow (B1 + 1) (opCs o (.slice A1 n1 c1) (.slice A2 n2 c2) (.slice A3 n3 c3)) = w5 at t0 t1 t2 t3 t4 t5 t6 HF ⊢
   refine bodyPost_ret (v := opVal o (.slice A1 n1 c1) (.slice A2 n2 c2) (.slice A3 n3 c3)) ?_ rfl ⟨A1, n1, c1, A2, n2, c2, A3, n3, c3, rfl, HF.out.1, HF.out.2⟩
   simp at t0 t1 t2 t3 t4 t5 t6
   simp [results, Tryz.f102, go_sem, t0, t1, t2, t3, t4, t5, t6]
end Go.Proofs.YtcjiofhjognklaaGreat.Tlv
