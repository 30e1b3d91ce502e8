/- An act, by both: what goes off. -/
import Derived.Test.YtniaijgejljjbaaGreatY44
namespace Go.Proofs.YtniaijgejljjbaaGreat.Tlv
open Go.RowKit
set_option maxRecDepth 100000
set_option linter.unusedVariables false
set_option linter.unusedSimpArgs false
theorem LogQ.set1 {n0 r B n c n' c' : Nat} {w0 W : World} {R R' : List Rq} {A A' : Option Addr} (h : LogQ n0 w0 W r B R) (hn0 : n0 ≤ W.heap.size) (hk : Blk W r 36 #[.int .u64 B, .slice A n c]) (hn : n' = R'.length) (hA : (A' = none → c' = 0) ∧ n' ≤ c' ∧ c' ≤ maxLen) (hsp : ∀ a, A' = some a → a.spot = none) (hrs : RdS n0 W A' R') (hsub : ∀ x ∈ R', x ∈ R) :
   LogQ n0 w0 (W.setCell ⟨r, 1, none⟩ (.slice A' n' c')) r B R' ∧ FrT spA n0 (TQ r) W (W.setCell ⟨r, 1, none⟩ (.slice A' n' c')) ∧ Blk (W.setCell ⟨r, 1, none⟩ (.slice A' n' c')) r 36 #[.int .u64 B, .slice A' n' c'] := by
 have hf : FrT spA n0 (TQ r) W (W.setCell ⟨r, 1, none⟩ (.slice A' n' c')) := (FrT.refl hn0).set hk (show TQ r r 36 from ⟨rfl, rfl⟩) (by decide) h.low _
 have hk2 : Blk (W.setCell ⟨r, 1, none⟩ (.slice A' n' c')) r 36 #[.int .u64 B, .slice A' n' c'] := hk.set_ 1 _
 exact ⟨⟨⟨A', n', c', hk2, hn, hA, hsp, hrs.frT hf (by intro b; simp [TQ])⟩, fun x hx => h.at_ x (hsub x hx), h.low, fun mm hm => by
   obtain ⟨x, hx, rfl⟩ := List.mem_map.1 hm
   exact h.good _ (List.mem_map_of_mem (hsub x hx))⟩, hf, hk2⟩
theorem LogQ.set0 {n0 r B m n c : Nat} {w0 W : World} {R : List Rq} {A : Option Addr} (h : LogQ n0 w0 W r B R) (hn0 : n0 ≤ W.heap.size) (hk : Blk W r 36 #[.int .u64 B, .slice A n c]) : LogQ n0 w0 (W.setCell ⟨r, 0, none⟩ (.int .u64 m)) r m R ∧ FrT spA n0 (TQ r) W (W.setCell ⟨r, 0, none⟩ (.int .u64 m)) := by
 obtain ⟨⟨A2, n2, c2, hk2, h1, h2, h3, h4⟩, h5, h6, h7⟩ := h
 have hf : FrT spA n0 (TQ r) W (W.setCell ⟨r, 0, none⟩ (.int .u64 m)) := (FrT.refl hn0).set hk (show TQ r r 36 from ⟨rfl, rfl⟩) (by decide) h6 _
 have hk3 : Blk (W.setCell ⟨r, 0, none⟩ (.int .u64 m)) r 36 #[.int .u64 m, .slice A2 n2 c2] := hk2.set_ 0 _
 exact ⟨⟨⟨A2, n2, c2, hk3, h1, h2, h3, h4.frT hf (by intro b; simp [TQ])⟩, h5, h6, h7⟩, hf⟩
theorem LR.blk {sp : Spc} {wz : World} {n0 g r B : Nat} {w0 w : World} {P R : List Rq} (h : LR sp n0 w0 wz w g r B P R) : ∃ A c z, Blk w g 65 #[.bool true, .int .u64 B, .slice A P.length c, z] := by
 obtain ⟨⟨A, n, c, hk, hO, _⟩, _⟩ := h.p
 have := hO.len
 subst this
 exact ⟨A, c, _, hk⟩
theorem LR.blkQ {sp : Spc} {wz : World} {n0 g r B : Nat} {w0 w : World} {P R : List Rq} (h : LR sp n0 w0 wz w g r B P R) : ∃ A c, Blk w r 36 #[.int .u64 B, .slice A P.length c] := by
 obtain ⟨⟨A, n, c, hk, hn, _⟩, _⟩ := h.q
 rw [← h.len] at hn
 subst hn
 exact ⟨A, c, hk⟩
set_option maxHeartbeats 32000000 in
theorem do2_no {sp : Spc} {wz : World} (n0 g r B N m : Nat) (P R : List Rq) (c n : Int) (o : Opn) (Aa Ap Ac : Option Addr) (na ca np cp nc cc : Nat) (w0 w : World) (h : LR sp n0 w0 wz w g r B P R) (hn0 : n0 = w0.heap.size) (ho : OpAt w0 o (.slice Aa na ca) (.slice Ap np cp) (.slice Ac nc cc)) (hok : Mq.Ok ⟨c, n, o⟩) (hl : P.length ≤ 800) (hB : B + P.length ≤ 4611686018427388904) (hm : IntKind.u64.wrap ((B : Int) + (N : Int)) = (m : Int)) (hno : m < B ∨ B + P.length < m) :
   Calls Tryz.prog 10 #[.pointer (some ⟨g, 0, none⟩), .pointer (some ⟨r, 0, none⟩), .agg (actCs (2) N c n o (.slice Aa na ca) (.slice Ap np cp) (.slice Ac nc cc))] w (DoOut sp n0 w0 wz g r B P.length) := by
 have hn0w : n0 ≤ w.heap.size := by rw [hn0]; exact h.bel.size
 obtain ⟨AR, nR, cR, hkR, _⟩ := id h.q.st
 have hbx : Below w.heap.size w (w.alloc (.cells (actCs (2) N c n o (.slice Aa na ca) (.slice Ap np cp) (.slice Ac nc cc)) 48)) := (Below.refl _ _).alloc (Nat.le_refl _) _
 have c0 : (w.alloc (.cells (actCs (2) N c n o (.slice Aa na ca) (.slice Ap np cp) (.slice Ac nc cc)) 48)).cell? ⟨r, 0, none⟩ = some (.int .u64 B) := (hkR.on hbx).cell 0
 obtain ⟨B5, hB5⟩ : ∃ b, b = w.heap.size := ⟨_, rfl⟩
 have k5 := Blk.new w 48 (actCs (2) N c n o (.slice Aa na ca) (.slice Ap np cp) (.slice Ac nc cc))
 rw [← hB5] at k5
 have HX := Lib.hid (And.intro (h.on hbx hn0w) (And.intro k5 (And.intro ho (And.intro hok (And.intro hl (And.intro hB (And.intro hn0 (hn0 ▸ Nat.le_trans (hn0 ▸ hn0w) hbx.size))))))))
 have hN0 := Lib.hid hn0w
 clear h hkR hbx k5 ho hok hl hB hn0 hn0w
 go_enter Tryz.func10, Tryz.ntmps10
 go_upto_region 1 with fail
 go_quiet (fail)
 obtain ⟨W1, hW1, hLR, hk5, hsz⟩ : ∃ W1, W1 = (w.alloc (.cells (actCs (2) N c n o (.slice Aa na ca) (.slice Ap np cp) (.slice Ac nc cc)) 48)).drewN nq ∧ LR sp n0 w0 wz W1 g r B P R ∧ Blk W1 B5 48 (actCs (2) N c n o (.slice Aa na ca) (.slice Ap np cp) (.slice Ac nc cc)) ∧ n0 ≤ W1.heap.size := ⟨_, rfl, HX.out.1.on (below_drewN (Below.refl _ _) _) HX.out.2.2.2.2.2.2.2, HX.out.2.1, HX.out.2.2.2.2.2.2.2⟩
 rw [← hW1, ← hB5]
 have a0 : W1.cell? ⟨B5, 0, none⟩ = some (.int .i64 (2)) := hk5.cell 0
 have HL := Lib.hid (And.intro hLR (And.intro hk5 hsz))
 clear hW1 hLR hk5 hsz hB5 c0 hm
 have hmn := hno
 obtain ⟨Ab, cb, zb, hkb⟩ := HL.out.1.blk
 obtain ⟨Ad, cd, hkd⟩ := HL.out.1.blkQ
 have HA := Lib.hid (cut_no g P.length cb B m Ab zb W1 hkb (by have := HX.out.2.2.2.2.2.1; omega) (by have := HX.out.2.2.2.2.1; omega) hmn)
 have HB := Lib.hid (rin_no r B P.length cd m Ad W1 hkd (by have := HX.out.2.2.2.2.2.1; omega) (by have := HX.out.2.2.2.2.1; omega) hmn)
 clear hkb hkd hmn hno
 go_wp2_with (first
   | (go_at_call 26; (with_reducible refine HA.out.mono ?_); clear HA; rintro e w2 ⟨rfl, rfl⟩; dsimp only)
   | (go_at_call 27; (with_reducible refine HB.out.mono ?_); clear HB; rintro e w3 ⟨rfl, n3, rfl⟩; dsimp only))
 go_ret
 exact DoOut.same (HL.out.1.on (below_drewN (Below.refl _ _) _) HL.out.2.2)
set_option maxHeartbeats 32000000 in
theorem do3_no {sp : Spc} {wz : World} (n0 g r B N m : Nat) (P R : List Rq) (c n : Int) (o : Opn) (Aa Ap Ac : Option Addr) (na ca np cp nc cc : Nat) (w0 w : World) (h : LR sp n0 w0 wz w g r B P R) (hn0 : n0 = w0.heap.size) (ho : OpAt w0 o (.slice Aa na ca) (.slice Ap np cp) (.slice Ac nc cc)) (hok : Mq.Ok ⟨c, n, o⟩) (hl : P.length ≤ 800) (hB : B + P.length ≤ 4611686018427388904) (hm : IntKind.u64.wrap ((B : Int) + (N : Int)) = (m : Int)) (hno : m < B ∨ B + P.length < m) :
   Calls Tryz.prog 10 #[.pointer (some ⟨g, 0, none⟩), .pointer (some ⟨r, 0, none⟩), .agg (actCs (3) N c n o (.slice Aa na ca) (.slice Ap np cp) (.slice Ac nc cc))] w (DoOut sp n0 w0 wz g r B P.length) := by
 have hn0w : n0 ≤ w.heap.size := by rw [hn0]; exact h.bel.size
 obtain ⟨AR, nR, cR, hkR, _⟩ := id h.q.st
 have hbx : Below w.heap.size w (w.alloc (.cells (actCs (3) N c n o (.slice Aa na ca) (.slice Ap np cp) (.slice Ac nc cc)) 48)) := (Below.refl _ _).alloc (Nat.le_refl _) _
 have c0 : (w.alloc (.cells (actCs (3) N c n o (.slice Aa na ca) (.slice Ap np cp) (.slice Ac nc cc)) 48)).cell? ⟨r, 0, none⟩ = some (.int .u64 B) := (hkR.on hbx).cell 0
 obtain ⟨B5, hB5⟩ : ∃ b, b = w.heap.size := ⟨_, rfl⟩
 have k5 := Blk.new w 48 (actCs (3) N c n o (.slice Aa na ca) (.slice Ap np cp) (.slice Ac nc cc))
 rw [← hB5] at k5
 have HX := Lib.hid (And.intro (h.on hbx hn0w) (And.intro k5 (And.intro ho (And.intro hok (And.intro hl (And.intro hB (And.intro hn0 (hn0 ▸ Nat.le_trans (hn0 ▸ hn0w) hbx.size))))))))
 have hN0 := Lib.hid hn0w
 clear h hkR hbx k5 ho hok hl hB hn0 hn0w
 go_enter Tryz.func10, Tryz.ntmps10
 go_upto_region 1 with fail
 go_quiet (fail)
 obtain ⟨W1, hW1, hLR, hk5, hsz⟩ : ∃ W1, W1 = (w.alloc (.cells (actCs (3) N c n o (.slice Aa na ca) (.slice Ap np cp) (.slice Ac nc cc)) 48)).drewN nq ∧ LR sp n0 w0 wz W1 g r B P R ∧ Blk W1 B5 48 (actCs (3) N c n o (.slice Aa na ca) (.slice Ap np cp) (.slice Ac nc cc)) ∧ n0 ≤ W1.heap.size := ⟨_, rfl, HX.out.1.on (below_drewN (Below.refl _ _) _) HX.out.2.2.2.2.2.2.2, HX.out.2.1, HX.out.2.2.2.2.2.2.2⟩
 rw [← hW1, ← hB5]
 have a0 : W1.cell? ⟨B5, 0, none⟩ = some (.int .i64 (3)) := hk5.cell 0
 have HL := Lib.hid (And.intro hLR (And.intro hk5 hsz))
 clear hW1 hLR hk5 hsz hB5 c0 hm
 have hmn := hno
 obtain ⟨Ab, cb, zb, hkb⟩ := HL.out.1.blk
 obtain ⟨Ad, cd, hkd⟩ := HL.out.1.blkQ
 have HA := Lib.hid (drop_no g P.length cb B m Ab zb W1 hkb (by have := HX.out.2.2.2.2.2.1; omega) (by have := HX.out.2.2.2.2.1; omega) hmn)
 have HB := Lib.hid (rin_no r B P.length cd m Ad W1 hkd (by have := HX.out.2.2.2.2.2.1; omega) (by have := HX.out.2.2.2.2.1; omega) hmn)
 clear hkb hkd hmn hno
 go_wp2_with (first
   | (go_at_call 16; (with_reducible refine HA.out.mono ?_); clear HA; rintro e w2 ⟨rfl, rfl⟩; dsimp only)
   | (go_at_call 27; (with_reducible refine HB.out.mono ?_); clear HB; rintro e w3 ⟨rfl, n3, rfl⟩; dsimp only))
 go_ret
 exact DoOut.same (HL.out.1.on (below_drewN (Below.refl _ _) _) HL.out.2.2)
set_option maxHeartbeats 32000000 in
theorem do2_ok {sp : Spc} {wz : World} (n0 g r B N m : Nat) (P R : List Rq) (c n : Int) (o : Opn) (Aa Ap Ac : Option Addr) (na ca np cp nc cc : Nat) (w0 w : World) (h : LR sp n0 w0 wz w g r B P R) (hn0 : n0 = w0.heap.size) (ho : OpAt w0 o (.slice Aa na ca) (.slice Ap np cp) (.slice Ac nc cc)) (hok : Mq.Ok ⟨c, n, o⟩) (hl : P.length ≤ 800) (hB : B + P.length ≤ 4611686018427388904) (hm : IntKind.u64.wrap ((B : Int) + (N : Int)) = (m : Int)) (hmi : m = B + N) (hin : N ≤ P.length) :
   Calls Tryz.prog 10 #[.pointer (some ⟨g, 0, none⟩), .pointer (some ⟨r, 0, none⟩), .agg (actCs (2) N c n o (.slice Aa na ca) (.slice Ap np cp) (.slice Ac nc cc))] w (DoOut sp n0 w0 wz g r B P.length) := by
 have HI := Lib.hid (And.intro hmi hin)
 clear hmi hin
 have hn0w : n0 ≤ w.heap.size := by rw [hn0]; exact h.bel.size
 obtain ⟨AR, nR, cR, hkR, _⟩ := id h.q.st
 have hbx : Below w.heap.size w (w.alloc (.cells (actCs (2) N c n o (.slice Aa na ca) (.slice Ap np cp) (.slice Ac nc cc)) 48)) := (Below.refl _ _).alloc (Nat.le_refl _) _
 have c0 : (w.alloc (.cells (actCs (2) N c n o (.slice Aa na ca) (.slice Ap np cp) (.slice Ac nc cc)) 48)).cell? ⟨r, 0, none⟩ = some (.int .u64 B) := (hkR.on hbx).cell 0
 obtain ⟨B5, hB5⟩ : ∃ b, b = w.heap.size := ⟨_, rfl⟩
 have k5 := Blk.new w 48 (actCs (2) N c n o (.slice Aa na ca) (.slice Ap np cp) (.slice Ac nc cc))
 rw [← hB5] at k5
 have HX := Lib.hid (And.intro (h.on hbx hn0w) (And.intro k5 (And.intro ho (And.intro hok (And.intro hl (And.intro hB (And.intro hn0 (hn0 ▸ Nat.le_trans (hn0 ▸ hn0w) hbx.size))))))))
 have hN0 := Lib.hid hn0w
 clear h hkR hbx k5 ho hok hl hB hn0 hn0w
 go_enter Tryz.func10, Tryz.ntmps10
 go_upto_region 1 with fail
 go_quiet (fail)
 obtain ⟨W1, hW1, hLR, hk5, hsz⟩ : ∃ W1, W1 = (w.alloc (.cells (actCs (2) N c n o (.slice Aa na ca) (.slice Ap np cp) (.slice Ac nc cc)) 48)).drewN nq ∧ LR sp n0 w0 wz W1 g r B P R ∧ Blk W1 B5 48 (actCs (2) N c n o (.slice Aa na ca) (.slice Ap np cp) (.slice Ac nc cc)) ∧ n0 ≤ W1.heap.size := ⟨_, rfl, HX.out.1.on (below_drewN (Below.refl _ _) _) HX.out.2.2.2.2.2.2.2, HX.out.2.1, HX.out.2.2.2.2.2.2.2⟩
 rw [← hW1, ← hB5]
 have a0 : W1.cell? ⟨B5, 0, none⟩ = some (.int .i64 (2)) := hk5.cell 0
 have HL := Lib.hid (And.intro hLR (And.intro hk5 hsz))
 clear hW1 hLR hk5 hsz hB5 c0 hm
 have HA := Lib.hid (cut_ok n0 g B N m P W1 HL.out.1.p HL.out.2.2 (Nat.le_trans HX.out.2.2.2.2.1 (by decide)) (by have := HX.out.2.2.2.2.2.1; omega) HI.out.1 HI.out.2)
 go_upto_region 13 with (go_at_call 26; (with_reducible refine HA.out.mono ?_); clear HA; rintro e w2 ⟨rfl, hlp, hfr⟩; dsimp only; have H2 := Lib.hid (And.intro hlp (And.intro hfr (And.intro (HL.out.1.q.onP hfr) (And.intro (hfr.typ B5 48 _ (by simp [TP]) HL.out.2.1) (Nat.le_trans HL.out.2.2 hfr.bel.size))))); clear hlp hfr)
 obtain ⟨Ad, nd, cd, hkd, hnd, hAd, hsd, hrd⟩ := H2.out.2.2.1.st
 have hnP : nd = P.length := by rw [hnd, HL.out.1.len]
 have HB := Lib.hid (rin_yes r B nd cd N m Ad w2 hkd (by have := HX.out.2.2.2.2.2.1; omega) (by have := HX.out.2.2.2.2.1; omega) HI.out.1 (by rw [hnP]; exact HI.out.2))
 clear a0
 go_upto_region 15 with (go_at_call 27; (with_reducible refine HB.out.mono ?_); clear HB; rintro e w3 ⟨rfl, n3, rfl⟩; dsimp only)
 obtain ⟨W2, hW2, hbW⟩ : ∃ W2, W2 = w2.drewN n3 ∧ Below w2.heap.size w2 W2 := ⟨_, rfl, below_drewN (Below.refl _ _) _⟩
 rw [← hW2]
 have hk2 := hkd.on hbW
 have hq2 := H2.out.2.2.1.on hbW H2.out.2.2.2.2
 have a0 : W2.cell? ⟨B5, 0, none⟩ = some (.int .i64 (2)) := (H2.out.2.2.2.1.on hbW).cell 0
 have c0 : W2.cell? ⟨r, 0, none⟩ = some (.int .u64 B) := hk2.cell 0
 have c1 : W2.cell? ⟨r, 1, none⟩ = some (.slice Ad nd cd) := hk2.cell 1
 have f1 := hk2.frozen 1
 have f0 := hk2.frozen 0
 have hn2 : n0 ≤ W2.heap.size := Nat.le_trans H2.out.2.2.2.2 hbW.size
 have e1 : IntKind.u64.wrap ((m : Int) - (B : Int)) = (N : Int) := by have := HI.out.1; have h2 := HI.out.2; have h3 := HX.out.2.2.2.2.1; rw [IntKind.wrap_u64]; omega
 have hNn : N ≤ nd := by rw [hnP]; exact HI.out.2
 have hNc : N ≤ cd := Nat.le_trans hNn hAd.2.1
 have H3 := Lib.hid (And.intro (H2.out.1.on hbW H2.out.2.2.2.2) (And.intro hq2 (And.intro hk2 (And.intro hrd (And.intro hAd (And.intro hsd (And.intro hn2 (And.intro hnd (And.intro (HL.out.1.bel.trans (H2.out.2.1.bel.trans (hbW.mono H2.out.2.2.2.2))) (HL.out.1.fr.trans (H2.out.2.1.tp.trans (FrT.of hbW H2.out.2.2.2.2))))))))))))
 have HRS := Lib.hid (hrd.frT (sp := spA) (T := TN) (FrT.of hbW H2.out.2.2.2.2) (fun _ => id))
 clear hW2 hk2 hq2 hn2 hrd hAd hsd hnd hkd hnP hbW
 go_upto_region 16 with fail
 go_still_tail 14, (by kernel_rfl)
 change wpList _ _ _ _ _ W2.drew
 have h6 := H3.out.2.1.on (below_drew (Below.refl _ _)) H3.out.2.2.2.2.2.2.1 |>.set1 (R' := R.take N) (A' := Ad) (n' := N) (c' := cd) H3.out.2.2.2.2.2.2.1 (Blk.drew H3.out.2.2.1) (by rw [List.length_take, ← H3.out.2.2.2.2.2.2.2.1]; omega) ⟨H3.out.2.2.2.2.1.1, hNc, H3.out.2.2.2.2.1.2.2⟩ H3.out.2.2.2.2.2.1 ((HRS.out.frT (sp := spA) (T := TN) (FrT.of (below_drew (Below.refl _ _)) H3.out.2.2.2.2.2.2.1) (fun _ => id)).take N) (fun x hx => List.mem_of_mem_take hx)
 have HS := Lib.hid h6
 clear h6
 go_wp2
 go_ret
 refine ⟨rfl, B, P.take N, R.take N, ⟨(H3.out.1.on (below_drew (Below.refl _ _)) H3.out.2.2.2.2.2.2.1).onQ HS.out.2.1, HS.out.1, by rw [means_take, means_take, HL.out.1.m], (below_drew H3.out.2.2.2.2.2.2.2.2.1).trans HS.out.2.1.bel, (H3.out.2.2.2.2.2.2.2.2.2.trans (FrT.of (below_drew (Below.refl _ _)) H3.out.2.2.2.2.2.2.1)).trans (FrT.tq (sp := sp) (g := g) HS.out.2.1)⟩, ?_, ?_⟩
 · rw [List.length_take]; omega
 · rw [List.length_take]; omega
set_option maxHeartbeats 32000000 in
theorem do3_ok {sp : Spc} {wz : World} (n0 g r B N m : Nat) (P R : List Rq) (c n : Int) (o : Opn) (Aa Ap Ac : Option Addr) (na ca np cp nc cc : Nat) (w0 w : World) (h : LR sp n0 w0 wz w g r B P R) (hn0 : n0 = w0.heap.size) (ho : OpAt w0 o (.slice Aa na ca) (.slice Ap np cp) (.slice Ac nc cc)) (hok : Mq.Ok ⟨c, n, o⟩) (hl : P.length ≤ 800) (hB : B + P.length ≤ 4611686018427388904) (hm : IntKind.u64.wrap ((B : Int) + (N : Int)) = (m : Int)) (hmi : m = B + N) (hin : N ≤ P.length) :
   Calls Tryz.prog 10 #[.pointer (some ⟨g, 0, none⟩), .pointer (some ⟨r, 0, none⟩), .agg (actCs (3) N c n o (.slice Aa na ca) (.slice Ap np cp) (.slice Ac nc cc))] w (DoOut sp n0 w0 wz g r B P.length) := by
 have HI := Lib.hid (And.intro hmi hin)
 clear hmi hin
 have hn0w : n0 ≤ w.heap.size := by rw [hn0]; exact h.bel.size
 obtain ⟨AR, nR, cR, hkR, _⟩ := id h.q.st
 have hbx : Below w.heap.size w (w.alloc (.cells (actCs (3) N c n o (.slice Aa na ca) (.slice Ap np cp) (.slice Ac nc cc)) 48)) := (Below.refl _ _).alloc (Nat.le_refl _) _
 have c0 : (w.alloc (.cells (actCs (3) N c n o (.slice Aa na ca) (.slice Ap np cp) (.slice Ac nc cc)) 48)).cell? ⟨r, 0, none⟩ = some (.int .u64 B) := (hkR.on hbx).cell 0
 obtain ⟨B5, hB5⟩ : ∃ b, b = w.heap.size := ⟨_, rfl⟩
 have k5 := Blk.new w 48 (actCs (3) N c n o (.slice Aa na ca) (.slice Ap np cp) (.slice Ac nc cc))
 rw [← hB5] at k5
 have HX := Lib.hid (And.intro (h.on hbx hn0w) (And.intro k5 (And.intro ho (And.intro hok (And.intro hl (And.intro hB (And.intro hn0 (hn0 ▸ Nat.le_trans (hn0 ▸ hn0w) hbx.size))))))))
 have hN0 := Lib.hid hn0w
 clear h hkR hbx k5 ho hok hl hB hn0 hn0w
 go_enter Tryz.func10, Tryz.ntmps10
 go_upto_region 1 with fail
 go_quiet (fail)
 obtain ⟨W1, hW1, hLR, hk5, hsz⟩ : ∃ W1, W1 = (w.alloc (.cells (actCs (3) N c n o (.slice Aa na ca) (.slice Ap np cp) (.slice Ac nc cc)) 48)).drewN nq ∧ LR sp n0 w0 wz W1 g r B P R ∧ Blk W1 B5 48 (actCs (3) N c n o (.slice Aa na ca) (.slice Ap np cp) (.slice Ac nc cc)) ∧ n0 ≤ W1.heap.size := ⟨_, rfl, HX.out.1.on (below_drewN (Below.refl _ _) _) HX.out.2.2.2.2.2.2.2, HX.out.2.1, HX.out.2.2.2.2.2.2.2⟩
 rw [← hW1, ← hB5]
 have a0 : W1.cell? ⟨B5, 0, none⟩ = some (.int .i64 (3)) := hk5.cell 0
 have HL := Lib.hid (And.intro hLR (And.intro hk5 hsz))
 clear hW1 hLR hk5 hsz hB5 c0 hm
 have HA := Lib.hid (drop_ok n0 g B N m P W1 HL.out.1.p HL.out.2.2 (Nat.le_trans HX.out.2.2.2.2.1 (by decide)) (by have := HX.out.2.2.2.2.2.1; omega) HI.out.1 HI.out.2)
 go_upto_region 13 with (go_at_call 16; (with_reducible refine HA.out.mono ?_); clear HA; rintro e w2 ⟨rfl, hlp, hfr⟩; dsimp only; have H2 := Lib.hid (And.intro hlp (And.intro hfr (And.intro (HL.out.1.q.onP hfr) (And.intro (hfr.typ B5 48 _ (by simp [TP]) HL.out.2.1) (Nat.le_trans HL.out.2.2 hfr.bel.size))))); clear hlp hfr)
 obtain ⟨Ad, nd, cd, hkd, hnd, hAd, hsd, hrd⟩ := H2.out.2.2.1.st
 have hnP : nd = P.length := by rw [hnd, HL.out.1.len]
 have HB := Lib.hid (rin_yes r B nd cd N m Ad w2 hkd (by have := HX.out.2.2.2.2.2.1; omega) (by have := HX.out.2.2.2.2.1; omega) HI.out.1 (by rw [hnP]; exact HI.out.2))
 clear a0
 go_upto_region 15 with (go_at_call 27; (with_reducible refine HB.out.mono ?_); clear HB; rintro e w3 ⟨rfl, n3, rfl⟩; dsimp only)
 obtain ⟨W2, hW2, hbW⟩ : ∃ W2, W2 = w2.drewN n3 ∧ Below w2.heap.size w2 W2 := ⟨_, rfl, below_drewN (Below.refl _ _) _⟩
 rw [← hW2]
 have hk2 := hkd.on hbW
 have hq2 := H2.out.2.2.1.on hbW H2.out.2.2.2.2
 have a0 : W2.cell? ⟨B5, 0, none⟩ = some (.int .i64 (3)) := (H2.out.2.2.2.1.on hbW).cell 0
 have c0 : W2.cell? ⟨r, 0, none⟩ = some (.int .u64 B) := hk2.cell 0
 have c1 : W2.cell? ⟨r, 1, none⟩ = some (.slice Ad nd cd) := hk2.cell 1
 have f1 := hk2.frozen 1
 have f0 := hk2.frozen 0
 have hn2 : n0 ≤ W2.heap.size := Nat.le_trans H2.out.2.2.2.2 hbW.size
 have e1 : IntKind.u64.wrap ((m : Int) - (B : Int)) = (N : Int) := by have := HI.out.1; have h2 := HI.out.2; have h3 := HX.out.2.2.2.2.1; rw [IntKind.wrap_u64]; omega
 have hNn : N ≤ nd := by rw [hnP]; exact HI.out.2
 have hNc : N ≤ cd := Nat.le_trans hNn hAd.2.1
 have H3 := Lib.hid (And.intro (H2.out.1.on hbW H2.out.2.2.2.2) (And.intro hq2 (And.intro hk2 (And.intro hrd (And.intro hAd (And.intro hsd (And.intro hn2 (And.intro hnd (And.intro (HL.out.1.bel.trans (H2.out.2.1.bel.trans (hbW.mono H2.out.2.2.2.2))) (HL.out.1.fr.trans (H2.out.2.1.tp.trans (FrT.of hbW H2.out.2.2.2.2))))))))))))
 have HRS := Lib.hid (hrd.frT (sp := spA) (T := TN) (FrT.of hbW H2.out.2.2.2.2) (fun _ => id))
 clear hW2 hk2 hq2 hn2 hrd hAd hsd hnd hkd hnP hbW
 obtain ⟨A9, hA9, hr9, hs9, hc9⟩ : ∃ A9, A9 = (if cd = N then Ad else Option.map (fun x => x.add (N * 9)) Ad) ∧ RdS n0 W2 A9 (R.drop N) ∧ (∀ a, A9 = some a → a.spot = none) ∧ (A9 = none → cd - N = 0) := by
   refine ⟨_, rfl, ?_⟩
   by_cases hcn : cd = N
   · rw [if_pos hcn]
     have hd : R.drop N = [] := by
       have h1 := H3.out.2.2.2.2.2.2.2.1
       have h2 := H3.out.2.2.2.2.1.2.1
       exact List.drop_eq_nil_of_le (by omega)
     rw [hd]
     exact ⟨RdS.none _ _ _, H3.out.2.2.2.2.2.1, fun _ => by omega⟩
   · rw [if_neg hcn]
     cases Ad with
     | none => have := H3.out.2.2.2.2.1.1 rfl; omega
     | some a =>
       obtain ⟨b, off, sp⟩ := a
       have hsp := H3.out.2.2.2.2.2.1 _ rfl
       dsimp only at hsp
       subst hsp
       simp only [Option.map_some, Addr.add_mid]
       exact ⟨HRS.out.drop N, (fun a e => by cases e; rfl), (fun e => by cases e)⟩
 have H9 := Lib.hid (And.intro hr9 (And.intro hs9 hc9))
 clear hr9 hs9 hc9
 have HA9 := Lib.hid hA9
 clear hA9
 go_upto_region 17 with fail
 by_cases hcn : cd = N
 · go_still_tail 14, (by kernel_rfl)
   change wpList _ _ _ _ _ W2.drew
   have e9 : A9 = Ad := by rw [HA9.out, if_pos hcn]
   have HS := Lib.hid ((H3.out.2.1.on (below_drew (Below.refl _ _)) H3.out.2.2.2.2.2.2.1).set1 (R' := R.drop N) (A' := Ad) (n' := nd - N) (c' := 0) H3.out.2.2.2.2.2.2.1 (Blk.drew H3.out.2.2.1) (by rw [List.length_drop, ← H3.out.2.2.2.2.2.2.2.1]) ⟨fun h => (by have := H9.out.2.2 (e9.trans h); omega), (by have := H3.out.2.2.2.2.1.2.1; omega), (by have := H3.out.2.2.2.2.1.2.2; omega)⟩ (by rw [← e9]; exact H9.out.2.1) (by rw [← e9]; exact H9.out.1.frT (sp := spA) (T := TN) (FrT.of (below_drew (Below.refl _ _)) H3.out.2.2.2.2.2.2.1) (fun _ => id)) (fun x hx => List.mem_of_mem_drop hx))
   have HS2 := Lib.hid (HS.out.1.set0 (m := m) (Nat.le_trans H3.out.2.2.2.2.2.2.1 HS.out.2.1.bel.size) HS.out.2.2)
   clear e9
   go_wp2
   go_ret
   refine ⟨rfl, m, P.drop N, R.drop N, ⟨(H3.out.1.on (below_drew (Below.refl _ _)) H3.out.2.2.2.2.2.2.1).onQ (HS.out.2.1.trans HS2.out.2), HS2.out.1, by rw [means_drop, means_drop, HL.out.1.m], ((below_drew H3.out.2.2.2.2.2.2.2.2.1).trans HS.out.2.1.bel).trans HS2.out.2.bel, (H3.out.2.2.2.2.2.2.2.2.2.trans (FrT.of (below_drew (Below.refl _ _)) H3.out.2.2.2.2.2.2.1)).trans (FrT.tq (sp := sp) (g := g) (HS.out.2.1.trans HS2.out.2))⟩, ?_, ?_⟩
   · rw [List.length_drop]; omega
   · rw [List.length_drop]; have := HI.out.1; have := HI.out.2; omega
 · go_still_tail 14, (by kernel_rfl)
   change wpList _ _ _ _ _ W2.drew
   have e9 : A9 = (Option.map (fun x => x.add (N * 9)) Ad) := by rw [HA9.out, if_neg hcn]
   have HS := Lib.hid ((H3.out.2.1.on (below_drew (Below.refl _ _)) H3.out.2.2.2.2.2.2.1).set1 (R' := R.drop N) (A' := (Option.map (fun x => x.add (N * 9)) Ad)) (n' := nd - N) (c' := (cd - N)) H3.out.2.2.2.2.2.2.1 (Blk.drew H3.out.2.2.1) (by rw [List.length_drop, ← H3.out.2.2.2.2.2.2.2.1]) ⟨fun h => (by have := H9.out.2.2 (e9.trans h); omega), (by have := H3.out.2.2.2.2.1.2.1; omega), (by have := H3.out.2.2.2.2.1.2.2; omega)⟩ (by rw [← e9]; exact H9.out.2.1) (by rw [← e9]; exact H9.out.1.frT (sp := spA) (T := TN) (FrT.of (below_drew (Below.refl _ _)) H3.out.2.2.2.2.2.2.1) (fun _ => id)) (fun x hx => List.mem_of_mem_drop hx))
   have HS2 := Lib.hid (HS.out.1.set0 (m := m) (Nat.le_trans H3.out.2.2.2.2.2.2.1 HS.out.2.1.bel.size) HS.out.2.2)
   clear e9
   go_wp2
   go_ret
   refine ⟨rfl, m, P.drop N, R.drop N, ⟨(H3.out.1.on (below_drew (Below.refl _ _)) H3.out.2.2.2.2.2.2.1).onQ (HS.out.2.1.trans HS2.out.2), HS2.out.1, by rw [means_drop, means_drop, HL.out.1.m], ((below_drew H3.out.2.2.2.2.2.2.2.2.1).trans HS.out.2.1.bel).trans HS2.out.2.bel, (H3.out.2.2.2.2.2.2.2.2.2.trans (FrT.of (below_drew (Below.refl _ _)) H3.out.2.2.2.2.2.2.1)).trans (FrT.tq (sp := sp) (g := g) (HS.out.2.1.trans HS2.out.2))⟩, ?_, ?_⟩
   · rw [List.length_drop]; omega
   · rw [List.length_drop]; have := HI.out.1; have := HI.out.2; omega
end Go.Proofs.YtniaijgejljjbaaGreat.Tlv
