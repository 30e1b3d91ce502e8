/- The law, where there is a log. -/
import Derived.Test.YtniaijgejljjbaaGreatY52
namespace Go.Proofs.YtniaijgejljjbaaGreat.Tlv
open Go.RowKit
set_option maxRecDepth 100000
set_option linter.unusedVariables false
set_option linter.unusedSimpArgs false
structure Cut1 (n0 : Nat) (w wc : World) (x r y v B : Nat) (P R : List Rq) : Prop where
 px : LogP spA n0 wc x B P
 qr : LogQ n0 w wc r B R
 py : LogP spA n0 wc y B P
 qv : LogQ n0 w wc v B R
 st : ∃ (n c : Nat) (A : Option Addr) (z : Value), Blk wc x 65 #[.bool true, .int .u64 B, .slice A n c, z] ∧ Blk wc y 65 #[.bool true, .int .u64 B, .slice A n n, z] ∧ OffK kIt wc n0 A n c P
 xy : x ≠ y
 rv : r ≠ v
 bel : Below n0 w wc
theorem Cut1.on {n0 x r y v B : Nat} {w wc w' : World} {P R : List Rq} (h : Cut1 n0 w wc x r y v B P R) (hb : Below wc.heap.size wc w') (hn : n0 ≤ wc.heap.size) : Cut1 n0 w w' x r y v B P R := by
 obtain ⟨n, c, A, z, h1, h2, h3⟩ := h.st
 exact ⟨h.px.on hb hn, h.qr.on hb hn, h.py.on hb hn, h.qv.on hb hn, ⟨n, c, A, z, h1.on hb, h2.on hb, h3.on hb⟩, h.xy, h.rv, h.bel.trans (hb.mono hn)⟩
def CpOut (n0 x B : Nat) (P : List Rq) (W4 W : World) (e : Ending) (w' : World) : Prop := ∃ (y n c : Nat) (A : Option Addr) (z : Value), e = .returned (.pointer (some ⟨y, 0, none⟩)) ∧ W4.heap.size ≤ y ∧ Blk w' x 65 #[.bool true, .int .u64 B, .slice A n c, z] ∧ Blk w' y 65 #[.bool true, .int .u64 B, .slice A n n, z] ∧ OffK kIt w' n0 A n c P ∧ LogP spA n0 w' y B P ∧ Below W4.heap.size W4 w' ∧ Below W.heap.size W w'
theorem copy_cp {n0 x B : Nat} {P : List Rq} {W4 W : World} (hb : Below W4.heap.size W4 W) (h : LogP spA n0 W4 x B P) (hn0 : n0 ≤ W4.heap.size) (hl : P.length ≤ 1000) : Calls Tryz.prog 8 #[.pointer (some ⟨x, 0, none⟩)] W (CpOut n0 x B P W4 W) :=
 (copy_ok n0 x B P W (h.on hb hn0) (Nat.le_trans hn0 hb.size) hl).mono fun e w' ho => by
   obtain ⟨y, n, c, A, z, he, h1, h2, h3, h4, h5, h6⟩ := ho
   exact ⟨y, n, c, A, z, he, Nat.le_trans hb.size h1, h2, h3, h4, h5 spA (Nat.zero_le _), hb.trans (h6.mono hb.size), h6⟩
theorem cut1_mk {n0 x r y v B n c cr : Nat} {A Ar : Option Addr} {z : Value} {w W4 W5 wc : World} {P R : List Rq} (hn0 : n0 = w.heap.size) (hp : LogP spA n0 W4 x B P) (hq : LogQ n0 w W4 r B R) (hbel : Below n0 w W4) (hkr : Blk W4 r 36 #[.int .u64 B, .slice Ar R.length cr])
   (hy : W4.heap.size ≤ y) (h1 : Blk W5 x 65 #[.bool true, .int .u64 B, .slice A n c, z]) (h2 : Blk W5 y 65 #[.bool true, .int .u64 B, .slice A n n, z]) (h3 : OffK kIt W5 n0 A n c P) (h4 : LogP spA n0 W5 y B P) (hb4 : Below W4.heap.size W4 W5) (hb5 : Below W5.heap.size W5 wc) (hv : W4.heap.size ≤ v) (hkv : Blk wc v 36 #[.int .u64 B, .slice Ar R.length cr]) : Cut1 n0 w wc x r y v B P R := by
 have hn4 : n0 ≤ W4.heap.size := by rw [hn0]; exact hbel.size
 have hn5 : n0 ≤ W5.heap.size := Nat.le_trans hn4 hb4.size
 have hbc : Below W4.heap.size W4 wc := hb4.trans (hb5.mono hb4.size)
 have hq2 := hq.on hbc hn4
 obtain ⟨⟨A', n', c', hk', hn', hc', hs', hr'⟩, ha, hl, hg⟩ := id hq2
 have e1 := blk_eq (hkr.on hbc) hk'
 injection e1 with e1
 injection e1 with _ e1
 injection e1 with e1 _
 injection e1 with e1 e2 e3
 subst e1 e2 e3
 have hx : x < W4.heap.size := by
   obtain ⟨⟨_, _, _, hk, _, _⟩, _⟩ := hp
   exact hk.lt
 have hr : r < W4.heap.size := hkr.lt
 exact ⟨hp.on hbc hn4, hq2, h4.on hb5 hn5, ⟨⟨_, _, _, hkv, hn', hc', hs', hr'⟩, ha, Nat.le_trans hn4 hv, hg⟩, ⟨n, c, A, z, h1.on hb5, h2.on hb5, h3.on hb5⟩, by omega, by omega, hbel.trans (hbc.mono hn4)⟩
def sp1 (W : World) (A : Option Addr) (n c : Nat) : Spc := ⟨W.heap.size, fun b j => ∃ off, A = some ⟨b, off, none⟩ ∧ off + n * 10 ≤ j ∧ j < off + c * 10⟩
def sp2 (W : World) : Spc := ⟨W.heap.size, fun _ _ => False⟩
theorem slice_eq {w : World} {g B n c n' c' : Nat} {A A' : Option Addr} {z z' : Value} (h : Blk w g 65 #[.bool true, .int .u64 B, .slice A n c, z]) (h' : Blk w g 65 #[.bool true, .int .u64 B, .slice A' n' c', z']) : A = A' ∧ n = n' ∧ c = c' := by
 have e1 := blk_eq h h'
 injection e1 with e1
 injection e1 with _ e1
 injection e1 with _ e1
 injection e1 with e1 _
 injection e1 with e1 e2 e3
 exact ⟨e1, e2, e3⟩
theorem ph0 {n0 x r y v B n c : Nat} {A : Option Addr} {z : Value} {w W : World} {P R : List Rq} (h : Cut1 n0 w W x r y v B P R) (hm : means P = means R) (hn : n0 ≤ W.heap.size) (hx : Blk W x 65 #[.bool true, .int .u64 B, .slice A n c, z]) : LR (sp1 W A n c) n0 w W W x r B P R :=
 ⟨h.px.at_sp (fun A' n' c' z' hk => by
   obtain ⟨rfl, rfl, rfl⟩ := slice_eq hx hk
   exact fun b off e j h1 h2 => .inr ⟨off, e, h1, h2⟩) (Nat.le_refl _), h.qr, hm, h.bel, FrT.refl hn⟩
theorem ph1 {n0 x r y v B n c B1 : Nat} {A : Option Addr} {z : Value} {w W wr : World} {P R P1 R1 : List Rq} (h : Cut1 n0 w W x r y v B P R) (hm : means P = means R) (hx : Blk W x 65 #[.bool true, .int .u64 B, .slice A n c, z]) (hy : Blk W y 65 #[.bool true, .int .u64 B, .slice A n n, z]) (hl : LR (sp1 W A n c) n0 w W wr x r B1 P1 R1) (hn : n0 ≤ wr.heap.size) : LR (sp2 wr) n0 w wr wr y v B P R := by
 have hf := hl.fr
 have hk' : Blk wr y 65 #[.bool true, .int .u64 B, .slice A n n, z] := hf.typ _ _ _ (by have := h.xy; simp [TB, TP, TQ]; omega) hy
 have hp : LogP spA n0 wr y B P := h.py.stay hf (by intro b; simp [TB, TP, TQ]) (by intro b; simp [TB, TP, TQ]) (by intro b; simp [TB, TP, TQ]) (by have := h.xy; simp [TB, TP, TQ]; omega) (fun A' n' c' z' hk b off e j h1 h2 ho => by
   obtain ⟨rfl, rfl, rfl⟩ := slice_eq hy hk
   have hlt := h.py.arr_lt hy e
   rcases ho with h3 | ⟨off', e', h3, _⟩
   · exact absurd h3 (Nat.not_le.2 hlt)
   · rw [e] at e'
     injection e' with e'
     injection e' with _ e' _
     omega)
 exact ⟨hp.at_sp (fun A' n' c' z' hk2 => by
   obtain ⟨rfl, rfl, rfl⟩ := slice_eq hk' hk2
   exact SpOk.none_ (Nat.le_refl _)) (Nat.le_refl _), h.qv.frT hf (by intro b; simp [TB, TP, TQ]) (by have := h.rv; simp [TB, TP, TQ]; omega), hm, hl.bel, FrT.refl hn⟩
theorem ph2 {sp : Spc} {wz : World} {n0 x r y v B1 B2 : Nat} {w W wr : World} {P1 R1 P2 R2 : List Rq} (h : LR sp n0 w wz W x r B1 P1 R1) (hxy : x ≠ y) (hrv : r ≠ v) (hl : LR (sp2 W) n0 w W wr y v B2 P2 R2) (hn : n0 ≤ wr.heap.size) : LR sp n0 w wr wr x r B1 P1 R1 := by
 have hf := hl.fr
 have hp : LogP sp n0 wr x B1 P1 := h.p.stay hf (by intro b; simp [TB, TP, TQ]) (by intro b; simp [TB, TP, TQ]) (by intro b; simp [TB, TP, TQ]) (by simp [TB, TP, TQ]; omega) (fun A' n' c' z' hk b off e j h1 h2 ho => by
   have hlt := h.p.arr_lt hk e
   rcases ho with h3 | h3
   · exact absurd h3 (Nat.not_le.2 hlt)
   · exact h3)
 exact ⟨hp, h.q.frT hf (by intro b; simp [TB, TP, TQ]) (by simp [TB, TP, TQ]; omega), h.m, hl.bel, FrT.refl hn⟩
theorem BegP.means {B1 B2 : Nat} {P1 P2 R1 R2 : List Rq} (h1 : means P1 = means R1) (h2 : means P2 = means R2) (h : BegP B1 P1 B2 P2) : BegP B1 R1 B2 R2 := by
 have l1 : P1.length = R1.length := by rw [← means_len, h1, means_len]
 have l2 : P2.length = R2.length := by rw [← means_len, h2, means_len]
 refine ⟨by rw [← l1, ← l2]; exact h.1, fun i a b c => ?_⟩
 rw [← l1] at c
 have hh := h.1
 rw [← means_at h1 (by omega), ← means_at h2 (by omega)]
 exact h.2 i a b c
theorem begins_q {sp sp' : Spc} {n0 g g' B B' : Nat} {P P' : List Rq} {w : World} {q : Bool} (hq : q = true ↔ BegP B P B' P') (h : LogP sp n0 w g B P) (h' : LogP sp' n0 w g' B' P') (hn0 : n0 ≤ w.heap.size) (hl : P.length ≤ 900) (hl' : P'.length ≤ 900) (hB : B ≤ 9000000000000000000) (hB' : B' ≤ 9000000000000000000) :
   Calls Tryz.prog 9 #[.pointer (some ⟨g, 0, none⟩), .pointer (some ⟨g', 0, none⟩)] w fun e w' => e = .returned (.bool q) ∧ Below w.heap.size w w' :=
 (begins_any n0 g g' B B' P P' w h h' hn0 hl hl' hB hB').mono fun e w' ho => by
   obtain ⟨b, he, hb, hbel⟩ := ho
   have : b = q := Bool.eq_iff_iff.2 (hb.trans hq.symm)
   subst this
   exact ⟨he, hbel⟩
theorem dbegins_q {r r' B B' : Nat} {P P' R R' : List Rq} {w0 w : World} {q : Bool} (hq : q = true ↔ BegP B P B' P') (hm : means P = means R) (hm' : means P' = means R') (h : LogQ w0.heap.size w0 w r B R) (h' : LogQ w0.heap.size w0 w r' B' R') (hb0 : Below w0.heap.size w0 w) (hl : R.length ≤ 900) (hl' : R'.length ≤ 900) (hB : B ≤ 9000000000000000000) (hB' : B' ≤ 9000000000000000000) :
   Calls Tryz.prog 12 #[.pointer (some ⟨r, 0, none⟩), .pointer (some ⟨r', 0, none⟩)] w fun e w' => e = .returned (.bool q) ∧ Below w.heap.size w w' :=
 (dbegins_any r r' B B' R R' w0 w h h' hb0 hl hl' hB hB').mono fun e w' ho => by
   obtain ⟨b, he, hb, hbel⟩ := ho
   have h2 : BegP B P B' P' ↔ BegP B R B' R' := ⟨BegP.means hm hm', BegP.means hm.symm hm'.symm⟩
   have : b = q := Bool.eq_iff_iff.2 (hb.trans (hq.trans h2).symm)
   subst this
   exact ⟨he, hbel⟩
set_option maxHeartbeats 64000000 in
theorem law_ok (B : Nat) (v vb : Value) (D : Option Addr) (cD : Nat) (Q : List Rq) (L Lb : List Ac) (w : World) (hQ : RqsAt w (.slice D Q.length cD) Q) (hL : AcsAt w v L) (hLb : AcsAt w vb Lb) (hB : B ≤ 4611686018427387904) (u : Value) (hu : u = .slice D Q.length cD)
   (h8 : Small L Q → ∀ w1, Below w.heap.size w w1 → Calls Tryz.prog 6 #[.int .u64 B, .slice D Q.length cD] w1 fun e w' => ∃ g P, e = .returned (.tuple #[.pointer (some ⟨g, 0, none⟩), .int .i64 0]) ∧ means P = means Q ∧ LogP spA w.heap.size w' g B P ∧ Below w1.heap.size w1 w')
   (h9 : Small L Q → ∀ w1, Below w.heap.size w w1 → Calls Tryz.prog 7 #[.int .u64 B, .slice D Q.length cD] w1 fun e w' => ∃ r, e = .returned (.tuple #[.pointer (some ⟨r, 0, none⟩), .int .i64 0]) ∧ LogQ w.heap.size w w' r B Q ∧ Below w1.heap.size w1 w') :
   Calls Tryz.prog 3 #[.int .u64 B, u, v, vb] w fun e w' => e = .returned (.bool true) ∧ Below w.heap.size w w' := by
 subst hu
 have HF : Hid (Calls Tryz.prog 4 #[v, .slice D Q.length cD, .int .i64 20] w (FewOut L Q 20 w)) := Lib.hid (few_any L Q v _ 20 w hL hQ (by decide))
 have HFb : Hid (∀ w1, Below w.heap.size w w1 → Calls Tryz.prog 4 #[vb, .slice none 0 0, .int .i64 20] w1 (FewOut Lb [] 20 w1)) := Lib.hid (fun w1 hb => few_any Lb [] vb _ 20 w1 (hLb.on hb) (rqs_none _) (by decide))
 have HAL := Lib.hid (And.intro hL hLb)
 obtain ⟨A, cA, rfl, _⟩ := hL
 obtain ⟨Ab, cAb, rfl, _⟩ := hLb
 have H8 := Lib.hid h8
 have H9 := Lib.hid h9
 clear h8 h9 hQ
 obtain ⟨n, hn⟩ : ∃ n, n = L.length := ⟨_, rfl⟩
 obtain ⟨nb, hnb⟩ : ∃ n, n = Lb.length := ⟨_, rfl⟩
 have HN := Lib.hid (And.intro hn hnb)
 rw [← hn] at HF ⊢
 rw [← hnb] at HFb ⊢
 have HBB := Lib.hid hB
 clear hn hnb hB
 go_enter Tryz.func3, Tryz.ntmps3
 go_upto_region 7 with (first
   | (go_at_call 4; (with_reducible refine HF.out.mono ?_); clear HF; rintro e w1 ⟨bb, rfl, hsm, hb1⟩; dsimp only; have H1 := Lib.hid (And.intro (show bb = true → Small L Q from hsm) hb1); clear hsm hb1; cases bb)
   | (go_at_call 4; (with_reducible refine (HFb.out _ H1.out.2).mono ?_); clear HFb; rintro e w2 ⟨bc, rfl, hsb, hb2⟩; dsimp only; have H2 := Lib.hid (And.intro (show bc = true → Small Lb [] from hsb) (H1.out.2.trans (hb2.mono H1.out.2.size))); clear hsb hb2; cases bc)
   | (go_at_call 5; (with_reducible refine (known_any _).mono ?_); rintro e w9 ⟨rfl, hb9⟩; dsimp only; have HEND : Hid (Below w.heap.size w w9) := Lib.hid (by first | exact H2.out.2.trans (hb9.mono H2.out.2.size) | exact H1.out.2.trans (hb9.mono H1.out.2.size)); clear hb9)
   | (go_at_call 6; (with_reducible refine (H8.out (H1.out.1 (by simp)) _ H2.out.2).mono ?_); rintro e w3 ⟨x, P, rfl, hmP, hlP, hb3⟩; dsimp only; have H3 := Lib.hid (And.intro (And.intro hmP hlP) (H2.out.2.trans (hb3.mono H2.out.2.size))); clear hmP hlP hb3)
   | (go_at_call 7; (with_reducible refine (H9.out (H1.out.1 (by simp)) _ H3.out.2).mono ?_); rintro e w4 ⟨r, rfl, hlq, hb4⟩; dsimp only; have H4 := Lib.hid (And.intro (H3.out.1.2.on hb4 H3.out.2.size) (And.intro hlq (And.intro H3.out.1.1 (H3.out.2.trans (hb4.mono H3.out.2.size))))); clear hlq hb4))
 · go_ret
   exact ⟨rfl, HEND.out⟩
 · go_ret
   exact ⟨rfl, HEND.out⟩
 have HSM : Hid (Small L Q ∧ Small Lb []) := Lib.hid ⟨H1.out.1 (by simp), H2.out.1 (by simp)⟩
 have HPQ : Hid (P.length = Q.length) := Lib.hid (by rw [← means_len, H4.out.2.2.1, means_len])
 obtain ⟨W4, hW4⟩ : ∃ W, W = w4 := ⟨_, rfl⟩
 rw [← hW4]
 have HL4 : Hid (LogP spA w.heap.size W4 x B P ∧ LogQ w.heap.size w W4 r B Q ∧ means P = means Q ∧ Below w.heap.size w W4) := Lib.hid (hW4 ▸ H4.out)
 clear hW4 H4
 obtain ⟨Ar, nr, cr, hkr, hnr, _⟩ := HL4.out.2.1.st
 subst hnr
 have c0 : W4.cell? ⟨r, 0, none⟩ = some (.int .u64 B) := hkr.cell 0
 have c1 : W4.cell? ⟨r, 1, none⟩ = some (.slice Ar Q.length cr) := hkr.cell 1
 have HKR := Lib.hid hkr
 have HCP : Hid (∀ W, Below W4.heap.size W4 W → Calls Tryz.prog 8 #[.pointer (some ⟨x, 0, none⟩)] W (CpOut w.heap.size x B P W4 W)) := Lib.hid fun W hb => copy_cp hb HL4.out.1 HL4.out.2.2.2.size (by have := HPQ.out; have := HSM.out.1.2.2.2; omega)
 clear hkr
 go_cut [13, 14] from 51 (fun s13 s14 wc => ∃ y v, s13 = .pointer (some ⟨y, 0, none⟩) ∧ s14 = .pointer (some ⟨v, 0, none⟩) ∧ Hid (Cut1 w.heap.size w wc x r y v B P Q))
 case first =>
   go_region_law ((go_simp; (with_reducible refine (HCP.out _ (by first | exact Below.refl _ _ | exact below_drew (Below.refl _ _) | exact (Below.refl _ _).alloc (Nat.le_refl _) _ | exact below_drew ((Below.refl _ _).alloc (Nat.le_refl _) _) | exact (below_drew (Below.refl _ _)).alloc (Nat.le_refl _) _)).mono ?_); rintro e w5 ⟨y, ny, cy, Ay, zy, rfl, hy1, hy2, hy3, hy4, hy5, hb6, hb5⟩; dsimp only; have k0 := (HKR.out.on hb6).cell 0; have k1 := (HKR.out.on hb6).cell 1; have HY := Lib.hid (And.intro hy1 (And.intro hy2 (And.intro hy3 (And.intro hy4 (And.intro hy5 (And.intro hb6 hb5)))))); clear hy1 hy2 hy3 hy4 hy5 hb5 hb6 HCP; simp only [List.getElem?_toArray, List.getElem?_cons_zero, List.getElem?_cons_succ] at k0 k1))
   all_goals
     go_wp2_with fail
     go_meet
     first
       | exact ⟨y, w5.heap.size, rfl, rfl, Lib.hid (cut1_mk (W4 := W4) (W5 := w5) rfl HL4.out.1 HL4.out.2.1 HL4.out.2.2.2 HKR.out HY.out.1 HY.out.2.1 HY.out.2.2.1 HY.out.2.2.2.1 HY.out.2.2.2.2.1 HY.out.2.2.2.2.2.1 ((Below.refl _ _).alloc (Nat.le_refl _) _) HY.out.2.2.2.2.2.1.size (Blk.new w5 36 _))⟩
       | exact ⟨y, W4.heap.size, rfl, rfl, Lib.hid (cut1_mk (W4 := W4) (W5 := w5) rfl HL4.out.1 HL4.out.2.1 HL4.out.2.2.2 HKR.out HY.out.1 HY.out.2.1 HY.out.2.2.1 HY.out.2.2.2.1 HY.out.2.2.2.2.1 HY.out.2.2.2.2.2.1 (Below.refl _ _) (Nat.le_refl _) ((Blk.new W4 36 _).on HY.out.2.2.2.2.2.2))⟩
       | exact ⟨y, W4.heap.size, rfl, rfl, Lib.hid (cut1_mk (W4 := W4) (W5 := w5) rfl HL4.out.1 HL4.out.2.1 HL4.out.2.2.2 HKR.out HY.out.1 HY.out.2.1 HY.out.2.2.1 HY.out.2.2.2.1 HY.out.2.2.2.2.1 HY.out.2.2.2.2.2.1 (Below.refl _ _) (Nat.le_refl _) ((Blk.drew (Blk.new W4 36 _)).on HY.out.2.2.2.2.2.2))⟩
 case rest =>
   obtain ⟨y, v, rfl, rfl, HC1⟩ := hcut
   obtain ⟨wb, hwb⟩ : ∃ wb : World, wb = wc := ⟨_, rfl⟩
   subst hwb
   have hP20 : P.length ≤ 20 := by have := HPQ.out; have := HSM.out.1.2.2.2; omega
   have hn1 : n ≤ 20 := by rw [HN.out.1]; exact HSM.out.1.2.2.1
   have hnb1 : nb ≤ 20 := by rw [HN.out.2]; exact HSM.out.2.2.2.1
   have HB1 := Lib.hid (beg_self w.heap.size x y B P wb HC1.out.px HC1.out.py HC1.out.bel.size (by omega) (by have := HBB.out; omega))
   have HB2 : Hid (∀ W, Below wb.heap.size wb W → Calls Tryz.prog 9 #[.pointer (some ⟨y, 0, none⟩), .pointer (some ⟨x, 0, none⟩)] W fun e w' => e = .returned (.bool true) ∧ Below W.heap.size W w') := Lib.hid fun W hb => beg_self w.heap.size y x B P W (HC1.out.py.on hb HC1.out.bel.size) (HC1.out.px.on hb HC1.out.bel.size) (Nat.le_trans HC1.out.bel.size hb.size) (by omega) (by have := HBB.out; omega)
   have HPL := Lib.hid (And.intro hP20 (And.intro hn1 hnb1))
   clear hP20 c0 c1 HCP
   go_upto_region 11 with (first
     | (go_at_call 9; (with_reducible refine HB1.out.mono ?_); clear HB1; rintro e w6 ⟨rfl, hb6⟩; dsimp only; have H6 := Lib.hid hb6; clear hb6)
     | (go_at_call 9; (with_reducible refine (HB2.out _ H6.out).mono ?_); clear HB2; rintro e w7 ⟨rfl, hb7⟩; dsimp only; have H7 := Lib.hid (H6.out.trans (hb7.mono H6.out.size)); clear hb7))
   obtain ⟨W7, hW7⟩ : ∃ W, W = w7 := ⟨_, rfl⟩
   rw [← hW7]
   have HC7 : Hid (Cut1 w.heap.size w W7 x r y v B P Q) := Lib.hid (hW7 ▸ HC1.out.on H7.out HC1.out.bel.size)
   clear hW7 HC1 H6 H7
   obtain ⟨nA, cAA, AA, zA, hkx, hky, _⟩ := HC7.out.st
   have HKX := Lib.hid (And.intro hkx hky)
   clear hkx hky
   have HM := Lib.hid HL4.out.2.2.1
   go_loopw [15] (fun s15 wr => ∃ k : Nat, s15 = .int .i64 k ∧ k ≤ n ∧ Hid (∃ B' P' R', LR (sp1 W7 AA nA cAA) w.heap.size w W7 wr x r B' P' R' ∧ P'.length ≤ 20 + k ∧ B' + P'.length ≤ 4611686018427387904 + 20 + k)) (fun s15 _ => n - (intOf s15).toNat)
   case atStart => exact ⟨0, rfl, Nat.zero_le _, Lib.hid ⟨B, P, Q, ph0 HC7.out HM.out HC7.out.bel.size HKX.out.1, by have := HPL.out; omega, by have := HPL.out; have h2 := HBB.out; omega⟩⟩
   case round =>
     obtain ⟨k, rfl, hkn, HJ⟩ := hrel
     obtain ⟨B', P', R', hLR, hP1, hP2⟩ := HJ.out
     have HI := Lib.hid (And.intro hLR (And.intro hP1 hP2))
     clear hLR hP1 hP2 HJ
     by_cases hlt : k < n
     · have hki : (k : Int) < (n : Int) := by omega
       have hkL : k < L.length := by have := HN.out; omega
       obtain ⟨A2, cA2, eA, _, hrA, hiA⟩ := HAL.out.1
       injection eA with e1 e2 e3
       subst e1
       obtain ⟨b, off, hAb, hbl, hra⟩ := hrA.below HI.out.1.bel (by omega)
       have hin := hiA k hkL
       have hso := HSM.out.1.1 k hkL
       have hra2 := fun (i : Nat) (u : Value) (h : (acL (L.getD k default))[i]? = some u) => hra k hkL i u h
       generalize L.getD k default = aa at hin hso hra2
       have HD := Lib.hid (do_any w.heap.size x r B' P' R' aa w wr HI.out.1 rfl hin (hin.x.ok hso) (by have := HI.out.2.1; omega) (by have := HI.out.2.2; omega))
       obtain ⟨aK, aN, xc, xn, xo, xA, xla, xca, xP, xlp, xcp, xC, xlc, xcc⟩ := aa
       have HD2 : Hid (Calls Tryz.prog 10 #[.pointer (some ⟨x, 0, none⟩), .pointer (some ⟨r, 0, none⟩), .agg #[.int .i64 aK, .int .u64 aN, .int .u64 xc, .int .u64 xn, .int .i64 xo.k, .string (sx xo.name), .string (sx xo.dst), .slice xA xla xca, .slice xP xlp xcp, .slice xC xlc xcc, .int .i64 xo.n]] wr (DoOut (sp1 W7 AA nA cAA) w.heap.size w W7 x r B' P'.length)) := Lib.hid HD.out
       have HRG : Hid (wr.rangeAt b (off + k * 11) [.int .i64 aK, .int .u64 aN, .int .u64 xc, .int .u64 xn, .int .i64 xo.k, .string (sx xo.name), .string (sx xo.dst), .slice xA xla xca, .slice xP xlp xcp, .slice xC xlc xcc, .int .i64 xo.n]) := Lib.hid fun q v hv => hra2 q v hv
       subst hAb
       clear hra hra2 hin hso hbl hrA hiA e2 e3 hkL
       go_wp2_with (first
         | (refine wpList_load_mid rfl 48 _ rfl b (off + k * 11) rfl [.int .i64 aK, .int .u64 aN, .int .u64 xc, .int .u64 xn, .int .i64 xo.k, .string (sx xo.name), .string (sx xo.dst), .slice xA xla xca, .slice xP xlp xcp, .slice xC xlc xcc, .int .i64 xo.n] _ HRG.out rfl rfl (by kernel_rfl) ?_)
         | (go_at_call 10; (with_reducible refine HD2.out.mono ?_); clear HD HD2; rintro e w6 ⟨rfl, B2, P2, R2, h6, h7, h8⟩; dsimp only; have H6 := Lib.hid (And.intro h6 (And.intro h7 h8)); clear h6 h7 h8))
       go_roundw
       case rel => exact ⟨k + 1, by go_num, by omega, Lib.hid ⟨B2, P2, R2, H6.out.1, by have := H6.out.2.1; have := HI.out.2.1; omega, by have := H6.out.2.2; have := HI.out.2.2; omega⟩⟩
       case measure => simp [intOf]; omega
     · have hki : ¬ (k : Int) < (n : Int) := by omega
       go_upto_region 16 with fail
       obtain ⟨W9, hW9⟩ : ∃ W, W = wr := ⟨_, rfl⟩
       rw [← hW9]
       obtain ⟨B1, hB1⟩ : ∃ q, q = B' := ⟨_, rfl⟩
       obtain ⟨P1, hP1⟩ : ∃ q, q = P' := ⟨_, rfl⟩
       obtain ⟨R1, hR1⟩ : ∃ q, q = R' := ⟨_, rfl⟩
       have H9 : Hid (LR (sp1 W7 AA nA cAA) w.heap.size w W7 W9 x r B1 P1 R1 ∧ P1.length ≤ 20 + k ∧ B1 + P1.length ≤ 4611686018427387904 + 20 + k) := Lib.hid (by rw [hW9, hB1, hP1, hR1]; exact HI.out)
       have HL9 := Lib.hid (ph1 HC7.out HM.out HKX.out.1 HKX.out.2 H9.out.1 H9.out.1.bel.size)
       have HK9 := Lib.hid hkn
       clear hW9 hB1 hP1 hR1 HI hkn hki hlt
       go_loopw [16] (fun s16 wr => ∃ k : Nat, s16 = .int .i64 k ∧ k ≤ nb ∧ Hid (∃ B' P' R', LR (sp2 W9) w.heap.size w W9 wr y v B' P' R' ∧ P'.length ≤ 20 + k ∧ B' + P'.length ≤ 4611686018427387904 + 20 + k)) (fun s16 _ => nb - (intOf s16).toNat)
       case atStart => exact ⟨0, rfl, Nat.zero_le _, Lib.hid ⟨B, P, Q, HL9.out, by have := HPL.out; omega, by have := HPL.out; have h2 := HBB.out; omega⟩⟩
       case round =>
         obtain ⟨k, rfl, hkn, HJ⟩ := hrel
         obtain ⟨B', P', R', hLR, hP1, hP2⟩ := HJ.out
         have HI2 := Lib.hid (And.intro hLR (And.intro hP1 hP2))
         clear hLR hP1 hP2 HJ
         by_cases hlt : k < nb
         · have hki : (k : Int) < (nb : Int) := by omega
           have hkL : k < Lb.length := by have := HN.out; omega
           obtain ⟨A2, cA2, eA, _, hrA, hiA⟩ := HAL.out.2
           injection eA with e1 e2 e3
           subst e1
           obtain ⟨b, off, hAb, hbl, hra⟩ := hrA.below HI2.out.1.bel (by omega)
           have hin := hiA k hkL
           have hso := HSM.out.2.1 k hkL
           have hra2 := fun (i : Nat) (u : Value) (h : (acL (Lb.getD k default))[i]? = some u) => hra k hkL i u h
           generalize Lb.getD k default = aa at hin hso hra2
           have HD := Lib.hid (do_any w.heap.size y v B' P' R' aa w wr HI2.out.1 rfl hin (hin.x.ok hso) (by have := HI2.out.2.1; omega) (by have := HI2.out.2.2; omega))
           obtain ⟨aK, aN, xc, xn, xo, xA, xla, xca, xP, xlp, xcp, xC, xlc, xcc⟩ := aa
           have HD2 : Hid (Calls Tryz.prog 10 #[.pointer (some ⟨y, 0, none⟩), .pointer (some ⟨v, 0, none⟩), .agg #[.int .i64 aK, .int .u64 aN, .int .u64 xc, .int .u64 xn, .int .i64 xo.k, .string (sx xo.name), .string (sx xo.dst), .slice xA xla xca, .slice xP xlp xcp, .slice xC xlc xcc, .int .i64 xo.n]] wr (DoOut (sp2 W9) w.heap.size w W9 y v B' P'.length)) := Lib.hid HD.out
           have HRG : Hid (wr.rangeAt b (off + k * 11) [.int .i64 aK, .int .u64 aN, .int .u64 xc, .int .u64 xn, .int .i64 xo.k, .string (sx xo.name), .string (sx xo.dst), .slice xA xla xca, .slice xP xlp xcp, .slice xC xlc xcc, .int .i64 xo.n]) := Lib.hid fun q v hv => hra2 q v hv
           subst hAb
           clear hra hra2 hin hso hbl hrA hiA e2 e3 hkL
           go_wp2_with (first
             | (refine wpList_load_mid rfl 48 _ rfl b (off + k * 11) rfl [.int .i64 aK, .int .u64 aN, .int .u64 xc, .int .u64 xn, .int .i64 xo.k, .string (sx xo.name), .string (sx xo.dst), .slice xA xla xca, .slice xP xlp xcp, .slice xC xlc xcc, .int .i64 xo.n] _ HRG.out rfl rfl (by kernel_rfl) ?_)
             | (go_at_call 10; (with_reducible refine HD2.out.mono ?_); clear HD HD2; rintro e w6 ⟨rfl, B2, P2, R2, h6, h7, h8⟩; dsimp only; have H6 := Lib.hid (And.intro h6 (And.intro h7 h8)); clear h6 h7 h8))
           go_roundw
           case rel => exact ⟨k + 1, by go_num, by omega, Lib.hid ⟨B2, P2, R2, H6.out.1, by have := H6.out.2.1; have := HI2.out.2.1; omega, by have := H6.out.2.2; have := HI2.out.2.2; omega⟩⟩
           case measure => simp [intOf]; omega
         · have hki : ¬ (k : Int) < (nb : Int) := by omega
           have HLX := Lib.hid (ph2 H9.out.1 HC7.out.xy HC7.out.rv HI2.out.1 HI2.out.1.bel.size)
           have HLY := Lib.hid HI2.out.1
           have hz := HLX.out.bel.size
           have h9 := H9.out.2
           have hy9 := HI2.out.2
           have hpl := HPL.out
           have hk9 := HK9.out
           have HS1 := Lib.hid (same_any w.heap.size x r B1 P1 R1 w wr HLX.out rfl (by omega) (by omega))
           have HS2 : Hid (∀ W, Below wr.heap.size wr W → Calls Tryz.prog 11 #[.pointer (some ⟨y, 0, none⟩), .pointer (some ⟨v, 0, none⟩)] W fun e w' => e = .returned (.bool true) ∧ Below W.heap.size W w') := Lib.hid fun W hb => same_any w.heap.size y v B' P' R' w W (HLY.out.on hb hz) rfl (by omega) (by omega)
           obtain ⟨q1, hq1⟩ : ∃ q : Bool, (q = true ↔ BegP B1 P1 B' P') := by classical exact ⟨decide (BegP B1 P1 B' P'), by simp⟩
           obtain ⟨q2, hq2⟩ : ∃ q : Bool, (q = true ↔ BegP B' P' B1 P1) := by classical exact ⟨decide (BegP B' P' B1 P1), by simp⟩
           have hP1 : P1.length ≤ 900 := by omega
           have hP2 : P'.length ≤ 900 := by omega
           have hR1 : R1.length ≤ 900 := by rw [← HLX.out.len]; exact hP1
           have hR2 : R'.length ≤ 900 := by rw [← HLY.out.len]; exact hP2
           have HG1 : Hid (∀ W, Below wr.heap.size wr W → Calls Tryz.prog 9 #[.pointer (some ⟨x, 0, none⟩), .pointer (some ⟨y, 0, none⟩)] W fun e w' => e = .returned (.bool q1) ∧ Below W.heap.size W w') := Lib.hid fun W hb => begins_q hq1 (HLX.out.p.on hb hz) (HLY.out.p.on hb hz) (Nat.le_trans hz hb.size) hP1 hP2 (by omega) (by omega)
           have HG2 : Hid (∀ W, Below wr.heap.size wr W → Calls Tryz.prog 12 #[.pointer (some ⟨r, 0, none⟩), .pointer (some ⟨v, 0, none⟩)] W fun e w' => e = .returned (.bool q1) ∧ Below W.heap.size W w') := Lib.hid fun W hb => dbegins_q hq1 HLX.out.m HLY.out.m (HLX.out.q.on hb hz) (HLY.out.q.on hb hz) (HLX.out.bel.trans (hb.mono hz)) hR1 hR2 (by omega) (by omega)
           have HG3 : Hid (∀ W, Below wr.heap.size wr W → Calls Tryz.prog 9 #[.pointer (some ⟨y, 0, none⟩), .pointer (some ⟨x, 0, none⟩)] W fun e w' => e = .returned (.bool q2) ∧ Below W.heap.size W w') := Lib.hid fun W hb => begins_q hq2 (HLY.out.p.on hb hz) (HLX.out.p.on hb hz) (Nat.le_trans hz hb.size) hP2 hP1 (by omega) (by omega)
           have HG4 : Hid (∀ W, Below wr.heap.size wr W → Calls Tryz.prog 12 #[.pointer (some ⟨v, 0, none⟩), .pointer (some ⟨r, 0, none⟩)] W fun e w' => e = .returned (.bool q2) ∧ Below W.heap.size W w') := Lib.hid fun W hb => dbegins_q hq2 HLY.out.m HLX.out.m (HLY.out.q.on hb hz) (HLX.out.q.on hb hz) (HLX.out.bel.trans (hb.mono hz)) hR2 hR1 (by omega) (by omega)
           clear hq1 hq2 hP1 hP2 hR1 hR2 h9 hy9 hpl hk9 hlt
           go_wp2_with (first
             | (go_at_call 11; (with_reducible refine HS1.out.mono ?_); clear HS1; rintro e w10 ⟨rfl, hb10⟩; dsimp only; have K1 := Lib.hid hb10; clear hb10)
             | (go_at_call 11; (with_reducible refine (HS2.out _ K1.out).mono ?_); clear HS2; rintro e w11 ⟨rfl, hb11⟩; dsimp only; have K2 := Lib.hid (K1.out.trans (hb11.mono K1.out.size)); clear hb11)
             | (go_at_call 9; (with_reducible refine (HG1.out _ K2.out).mono ?_); clear HG1; rintro e w12 ⟨rfl, hb12⟩; dsimp only; have K3 := Lib.hid (K2.out.trans (hb12.mono K2.out.size)); clear hb12)
             | (go_at_call 12; (with_reducible refine (HG2.out _ K3.out).mono ?_); clear HG2; rintro e w13 ⟨rfl, hb13⟩; dsimp only; have K4 := Lib.hid (K3.out.trans (hb13.mono K3.out.size)); clear hb13)
             | (go_at_call 9; (with_reducible refine (HG3.out _ K4.out).mono ?_); clear HG3; rintro e w14 ⟨rfl, hb14⟩; dsimp only; have K5 := Lib.hid (K4.out.trans (hb14.mono K4.out.size)); clear hb14)
             | (go_at_call 12; (with_reducible refine (HG4.out _ K5.out).mono ?_); clear HG4; rintro e w15 ⟨rfl, hb15⟩; dsimp only; have K6 := Lib.hid (K5.out.trans (hb15.mono K5.out.size)); clear hb15)
             | (go_at_call 5; (with_reducible refine (known_any _).mono ?_); rintro e w16 ⟨rfl, hb16⟩; dsimp only; have HEND := Lib.hid (HLX.out.bel.trans ((K6.out.trans (hb16.mono K6.out.size)).mono hz)); clear hb16))
           go_ret
           exact ⟨by simp, HEND.out⟩
end Go.Proofs.YtniaijgejljjbaaGreat.Tlv
