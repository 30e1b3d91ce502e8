/- An act, by both: one more. -/
import Derived.Test.YtniaijgejljjbaaGreatY42
import Derived.Test.YtniaijgejljjbaaGreatY43
import Derived.Test.YtniaijgejljjbaaGreatY39
import Derived.Deep.QuietTactic
import Derived.BigQuiet
namespace Go.Proofs.YtniaijgejljjbaaGreat.Tlv
open Go.RowKit
set_option maxRecDepth 100000
set_option linter.unusedVariables false
set_option linter.unusedSimpArgs false
def TB (g r : Nat) (b : Nat) (t : TypeId) : Prop := TP g b t ∨ TQ r b t
theorem FrT.tp {sp : Spc} {n0 g r : Nat} {a b : World} (h : FrT sp n0 (TP g) a b) : FrT sp n0 (TB g r) a b := h.wide fun _ _ => .inl
theorem FrT.tq {sp : Spc} {sp sp' : Spc} {n0 g r : Nat} {a b : World} (h : FrT sp' n0 (TQ r) a b) : FrT sp n0 (TB g r) a b := ⟨h.bel, fun k t cs ht hk => h.typ k t cs (fun e => ht (.inr e)) hk, fun k cur hk => ⟨cur, h.typ k 61 cur (by simp [TQ]) hk, rfl, fun _ _ => rfl⟩⟩
structure LR (sp : Spc) (n0 : Nat) (w0 wz w : World) (g r B : Nat) (P R : List Rq) : Prop where
 p : LogP sp n0 w g B P
 q : LogQ n0 w0 w r B R
 m : means P = means R
 bel : Below n0 w0 w
 fr : FrT sp n0 (TB g r) wz w
theorem LR.on {sp : Spc} {wz : World} {n0 g r B : Nat} {w0 w w' : World} {P R : List Rq} (h : LR sp n0 w0 wz w g r B P R) (hb : Below w.heap.size w w') (hn : n0 ≤ w.heap.size) : LR sp n0 w0 wz w' g r B P R := ⟨h.p.on hb hn, h.q.on hb hn, h.m, h.bel.trans (hb.mono hn), h.fr.trans (FrT.of hb hn)⟩
theorem LR.len {sp : Spc} {wz : World} {n0 g r B : Nat} {w0 w : World} {P R : List Rq} (h : LR sp n0 w0 wz w g r B P R) : P.length = R.length := by rw [← means_len, h.m, means_len]
abbrev actCs (k N c n : Int) (o : Opn) (va vp vc : Value) : Array Value := #[.int .i64 k, .int .u64 N, .int .u64 c, .int .u64 n, .int .i64 o.k, .string (sx o.name), .string (sx o.dst), va, vp, vc, .int .i64 o.n]
def DoOut (sp : Spc) (n0 : Nat) (w0 wz : World) (g r B L : Nat) (e : Ending) (w' : World) : Prop := e = .returned (.bool true) ∧ ∃ B' P' R', LR sp n0 w0 wz w' g r B' P' R' ∧ P'.length ≤ L + 1 ∧ B' + P'.length ≤ B + L + 1
theorem DoOut.same {sp : Spc} {wz : World} {n0 g r B : Nat} {w0 w' : World} {P R : List Rq} (h : LR sp n0 w0 wz w' g r B P R) : DoOut sp n0 w0 wz g r B P.length (.returned (.bool true)) w' := ⟨rfl, B, P, R, h, Nat.le_succ _, Nat.le_succ _⟩
theorem act_range {W : World} {B5 : Nat} {k N c n : Int} {o : Opn} {Aa Ap Ac : Option Addr} {na ca np cp nc cc : Nat} (h : Blk W B5 48 (actCs k N c n o (.slice Aa na ca) (.slice Ap np cp) (.slice Ac nc cc))) : W.rangeAt B5 2 [.int .u64 c, .int .u64 n, .int .i64 o.k, .string (sx o.name), .string (sx o.dst), .slice Aa na ca, .slice Ap np cp, .slice Ac nc cc, .int .i64 o.n] := fun q v hv => by
 have hq : q < 9 := (List.getElem?_eq_some_iff.1 hv).1
 rw [h.cell, ← hv]
 rcases q with _ | _ | _ | _ | _ | _ | _ | _ | _ | q <;> first | rfl | omega
set_option maxHeartbeats 32000000 in
theorem do1_no {sp : Spc} {wz : World} (n0 g r B N m : Nat) (P R : List Rq) (c n : Int) (o : Opn) (Aa Ap Ac : Option Addr) (na ca np cp nc cc : Nat) (w0 w : World) (h : LR sp n0 w0 wz w g r B P R) (hn0 : n0 = w0.heap.size) (ho : OpAt w0 o (.slice Aa na ca) (.slice Ap np cp) (.slice Ac nc cc)) (hok : Mq.Ok ⟨c, n, o⟩) (hl : P.length ≤ 800) (hB : B + P.length ≤ 4611686018427388904) (hm : IntKind.u64.wrap ((B : Int) + (N : Int)) = (m : Int)) (hmay : mayO o = false) :
   Calls Tryz.prog 10 #[.pointer (some ⟨g, 0, none⟩), .pointer (some ⟨r, 0, none⟩), .agg (actCs (1) N c n o (.slice Aa na ca) (.slice Ap np cp) (.slice Ac nc cc))] w (DoOut sp n0 w0 wz g r B P.length) := by
 have HM := Lib.hid hmay
 clear hmay
 have hn0w : n0 ≤ w.heap.size := by rw [hn0]; exact h.bel.size
 obtain ⟨AR, nR, cR, hkR, _⟩ := id h.q.st
 have hbx : Below w.heap.size w (w.alloc (.cells (actCs (1) N c n o (.slice Aa na ca) (.slice Ap np cp) (.slice Ac nc cc)) 48)) := (Below.refl _ _).alloc (Nat.le_refl _) _
 have c0 : (w.alloc (.cells (actCs (1) N c n o (.slice Aa na ca) (.slice Ap np cp) (.slice Ac nc cc)) 48)).cell? ⟨r, 0, none⟩ = some (.int .u64 B) := (hkR.on hbx).cell 0
 obtain ⟨B5, hB5⟩ : ∃ b, b = w.heap.size := ⟨_, rfl⟩
 have k5 := Blk.new w 48 (actCs (1) N c n o (.slice Aa na ca) (.slice Ap np cp) (.slice Ac nc cc))
 rw [← hB5] at k5
 have HX := Lib.hid (And.intro (h.on hbx hn0w) (And.intro k5 (And.intro ho (And.intro hok (And.intro hl (And.intro hB (And.intro hn0 (hn0 ▸ Nat.le_trans (hn0 ▸ hn0w) hbx.size))))))))
 have hN0 := Lib.hid hn0w
 clear h hkR hbx k5 ho hok hl hB hn0 hn0w
 go_enter Tryz.func10, Tryz.ntmps10
 go_upto_region 1 with fail
 go_quiet (fail)
 obtain ⟨W1, hW1, hLR, hk5, hsz⟩ : ∃ W1, W1 = (w.alloc (.cells (actCs (1) N c n o (.slice Aa na ca) (.slice Ap np cp) (.slice Ac nc cc)) 48)).drewN nq ∧ LR sp n0 w0 wz W1 g r B P R ∧ Blk W1 B5 48 (actCs (1) N c n o (.slice Aa na ca) (.slice Ap np cp) (.slice Ac nc cc)) ∧ n0 ≤ W1.heap.size := ⟨_, rfl, HX.out.1.on (below_drewN (Below.refl _ _) _) HX.out.2.2.2.2.2.2.2, HX.out.2.1, HX.out.2.2.2.2.2.2.2⟩
 rw [← hW1, ← hB5]
 have a0 : W1.cell? ⟨B5, 0, none⟩ = some (.int .i64 (1)) := hk5.cell 0
 have HL := Lib.hid (And.intro hLR (And.intro hk5 hsz))
 clear hW1 hLR hk5 hsz hB5 c0 hm
 have HR := Lib.hid (act_range HL.out.2.1)
 have HA := Lib.hid (append_no n0 g B P c n o _ _ _ W1 HL.out.1.p HL.out.2.2 HX.out.2.2.2.1.lim (HX.out.2.2.1.on (HX.out.2.2.2.2.2.2.1 ▸ HL.out.1.bel)) HM.out)
 go_upto_region 5 with (first
   | (refine wpList_load_mid rfl 46 _ rfl B5 2 rfl [.int .u64 c, .int .u64 n, .int .i64 o.k, .string (sx o.name), .string (sx o.dst), .slice Aa na ca, .slice Ap np cp, .slice Ac nc cc, .int .i64 o.n] _ HR.out rfl rfl (by kernel_rfl) ?_)
   | (go_at_call 15; (with_reducible refine HA.out.mono ?_); clear HA; rintro e w2 ⟨rfl, hb2⟩; dsimp only; have H2 := Lib.hid (And.intro (HL.out.1.on hb2 HL.out.2.2) (And.intro (HL.out.2.1.on hb2) (Nat.le_trans HL.out.2.2 hb2.size))); clear hb2))
 have HR2 := Lib.hid (act_range H2.out.2.1)
 have HB := Lib.hid (rappend_no n0 r B R c n o _ _ _ w0 w2 H2.out.1.q HX.out.2.2.2.2.2.2.1 H2.out.1.bel HX.out.2.2.2.1.lim HX.out.2.2.1 HM.out)
 clear a0
 go_wp2_with (first
   | (refine wpList_load_mid rfl 46 _ rfl B5 2 rfl [.int .u64 c, .int .u64 n, .int .i64 o.k, .string (sx o.name), .string (sx o.dst), .slice Aa na ca, .slice Ap np cp, .slice Ac nc cc, .int .i64 o.n] _ HR2.out rfl rfl (by kernel_rfl) ?_)
   | (go_at_call 25; (with_reducible refine HB.out.mono ?_); clear HB; rintro e w3 ⟨rfl, hb3⟩; dsimp only; have H3 := Lib.hid (H2.out.1.on hb3 H2.out.2.2); clear hb3))
 go_ret
 exact DoOut.same H3.out
set_option maxHeartbeats 32000000 in
theorem do1_full {sp : Spc} {wz : World} (n0 g r B N m : Nat) (P R : List Rq) (c n : Int) (o : Opn) (Aa Ap Ac : Option Addr) (na ca np cp nc cc : Nat) (w0 w : World) (h : LR sp n0 w0 wz w g r B P R) (hn0 : n0 = w0.heap.size) (ho : OpAt w0 o (.slice Aa na ca) (.slice Ap np cp) (.slice Ac nc cc)) (hok : Mq.Ok ⟨c, n, o⟩) (hl : P.length ≤ 800) (hB : B + P.length ≤ 4611686018427388904) (hm : IntKind.u64.wrap ((B : Int) + (N : Int)) = (m : Int)) (hmay : mayO o = true) (hs : 2097152 < sumM (means P) + Mq.sz ⟨c, n, o⟩) :
   Calls Tryz.prog 10 #[.pointer (some ⟨g, 0, none⟩), .pointer (some ⟨r, 0, none⟩), .agg (actCs (1) N c n o (.slice Aa na ca) (.slice Ap np cp) (.slice Ac nc cc))] w (DoOut sp n0 w0 wz g r B P.length) := by
 have HG := Lib.hid (Mq.Good.mk hok hmay)
 have HS := Lib.hid hs
 clear hmay hs
 have hn0w : n0 ≤ w.heap.size := by rw [hn0]; exact h.bel.size
 obtain ⟨AR, nR, cR, hkR, _⟩ := id h.q.st
 have hbx : Below w.heap.size w (w.alloc (.cells (actCs (1) N c n o (.slice Aa na ca) (.slice Ap np cp) (.slice Ac nc cc)) 48)) := (Below.refl _ _).alloc (Nat.le_refl _) _
 have c0 : (w.alloc (.cells (actCs (1) N c n o (.slice Aa na ca) (.slice Ap np cp) (.slice Ac nc cc)) 48)).cell? ⟨r, 0, none⟩ = some (.int .u64 B) := (hkR.on hbx).cell 0
 obtain ⟨B5, hB5⟩ : ∃ b, b = w.heap.size := ⟨_, rfl⟩
 have k5 := Blk.new w 48 (actCs (1) N c n o (.slice Aa na ca) (.slice Ap np cp) (.slice Ac nc cc))
 rw [← hB5] at k5
 have HX := Lib.hid (And.intro (h.on hbx hn0w) (And.intro k5 (And.intro ho (And.intro hok (And.intro hl (And.intro hB (And.intro hn0 (hn0 ▸ Nat.le_trans (hn0 ▸ hn0w) hbx.size))))))))
 have hN0 := Lib.hid hn0w
 clear h hkR hbx k5 ho hok hl hB hn0 hn0w
 go_enter Tryz.func10, Tryz.ntmps10
 go_upto_region 1 with fail
 go_quiet (fail)
 obtain ⟨W1, hW1, hLR, hk5, hsz⟩ : ∃ W1, W1 = (w.alloc (.cells (actCs (1) N c n o (.slice Aa na ca) (.slice Ap np cp) (.slice Ac nc cc)) 48)).drewN nq ∧ LR sp n0 w0 wz W1 g r B P R ∧ Blk W1 B5 48 (actCs (1) N c n o (.slice Aa na ca) (.slice Ap np cp) (.slice Ac nc cc)) ∧ n0 ≤ W1.heap.size := ⟨_, rfl, HX.out.1.on (below_drewN (Below.refl _ _) _) HX.out.2.2.2.2.2.2.2, HX.out.2.1, HX.out.2.2.2.2.2.2.2⟩
 rw [← hW1, ← hB5]
 have a0 : W1.cell? ⟨B5, 0, none⟩ = some (.int .i64 (1)) := hk5.cell 0
 have HL := Lib.hid (And.intro hLR (And.intro hk5 hsz))
 clear hW1 hLR hk5 hsz hB5 c0 hm
 have HR := Lib.hid (act_range HL.out.2.1)
 have HA := Lib.hid (append_full n0 g B P c n o _ _ _ W1 HL.out.1.p HL.out.2.2 HG.out (HX.out.2.2.1.on (HX.out.2.2.2.2.2.2.1 ▸ HL.out.1.bel)) (Nat.le_trans HX.out.2.2.2.2.1 (by decide)) HS.out)
 go_upto_region 5 with (first
   | (refine wpList_load_mid rfl 46 _ rfl B5 2 rfl [.int .u64 c, .int .u64 n, .int .i64 o.k, .string (sx o.name), .string (sx o.dst), .slice Aa na ca, .slice Ap np cp, .slice Ac nc cc, .int .i64 o.n] _ HR.out rfl rfl (by kernel_rfl) ?_)
   | (go_at_call 15; (with_reducible refine HA.out.mono ?_); clear HA; rintro e w2 ⟨rfl, hb2⟩; dsimp only; have H2 := Lib.hid (And.intro (HL.out.1.on hb2 HL.out.2.2) (And.intro (HL.out.2.1.on hb2) (Nat.le_trans HL.out.2.2 hb2.size))); clear hb2))
 have HR2 := Lib.hid (act_range H2.out.2.1)
 have HB := Lib.hid (rappend_full n0 r B R c n o _ _ _ w0 w2 H2.out.1.q HX.out.2.2.2.2.2.2.1 H2.out.1.bel HX.out.2.2.2.1.lim HX.out.2.2.1 HG.out (by rw [← HL.out.1.len]; exact Nat.le_trans HX.out.2.2.2.2.1 (by decide)) (by rw [← HL.out.1.m]; exact HS.out))
 clear a0
 go_wp2_with (first
   | (refine wpList_load_mid rfl 46 _ rfl B5 2 rfl [.int .u64 c, .int .u64 n, .int .i64 o.k, .string (sx o.name), .string (sx o.dst), .slice Aa na ca, .slice Ap np cp, .slice Ac nc cc, .int .i64 o.n] _ HR2.out rfl rfl (by kernel_rfl) ?_)
   | (go_at_call 25; (with_reducible refine HB.out.mono ?_); clear HB; rintro e w3 ⟨rfl, hb3⟩; dsimp only; have H3 := Lib.hid (H2.out.1.on hb3 H2.out.2.2); clear hb3))
 go_ret
 exact DoOut.same H3.out
set_option maxHeartbeats 32000000 in
theorem do1_ok {sp : Spc} {wz : World} (n0 g r B N m : Nat) (P R : List Rq) (c n : Int) (o : Opn) (Aa Ap Ac : Option Addr) (na ca np cp nc cc : Nat) (w0 w : World) (h : LR sp n0 w0 wz w g r B P R) (hn0 : n0 = w0.heap.size) (ho : OpAt w0 o (.slice Aa na ca) (.slice Ap np cp) (.slice Ac nc cc)) (hok : Mq.Ok ⟨c, n, o⟩) (hl : P.length ≤ 800) (hB : B + P.length ≤ 4611686018427388904) (hm : IntKind.u64.wrap ((B : Int) + (N : Int)) = (m : Int)) (hmay : mayO o = true) (hs : sumM (means P) + Mq.sz ⟨c, n, o⟩ ≤ 2097152) :
   Calls Tryz.prog 10 #[.pointer (some ⟨g, 0, none⟩), .pointer (some ⟨r, 0, none⟩), .agg (actCs (1) N c n o (.slice Aa na ca) (.slice Ap np cp) (.slice Ac nc cc))] w (DoOut sp n0 w0 wz g r B P.length) := by
 have HG := Lib.hid (Mq.Good.mk hok hmay)
 have HS := Lib.hid hs
 clear hmay hs
 have hn0w : n0 ≤ w.heap.size := by rw [hn0]; exact h.bel.size
 obtain ⟨AR, nR, cR, hkR, _⟩ := id h.q.st
 have hbx : Below w.heap.size w (w.alloc (.cells (actCs (1) N c n o (.slice Aa na ca) (.slice Ap np cp) (.slice Ac nc cc)) 48)) := (Below.refl _ _).alloc (Nat.le_refl _) _
 have c0 : (w.alloc (.cells (actCs (1) N c n o (.slice Aa na ca) (.slice Ap np cp) (.slice Ac nc cc)) 48)).cell? ⟨r, 0, none⟩ = some (.int .u64 B) := (hkR.on hbx).cell 0
 obtain ⟨B5, hB5⟩ : ∃ b, b = w.heap.size := ⟨_, rfl⟩
 have k5 := Blk.new w 48 (actCs (1) N c n o (.slice Aa na ca) (.slice Ap np cp) (.slice Ac nc cc))
 rw [← hB5] at k5
 have HX := Lib.hid (And.intro (h.on hbx hn0w) (And.intro k5 (And.intro ho (And.intro hok (And.intro hl (And.intro hB (And.intro hn0 (hn0 ▸ Nat.le_trans (hn0 ▸ hn0w) hbx.size))))))))
 have hN0 := Lib.hid hn0w
 clear h hkR hbx k5 ho hok hl hB hn0 hn0w
 go_enter Tryz.func10, Tryz.ntmps10
 go_upto_region 1 with fail
 go_quiet (fail)
 obtain ⟨W1, hW1, hLR, hk5, hsz⟩ : ∃ W1, W1 = (w.alloc (.cells (actCs (1) N c n o (.slice Aa na ca) (.slice Ap np cp) (.slice Ac nc cc)) 48)).drewN nq ∧ LR sp n0 w0 wz W1 g r B P R ∧ Blk W1 B5 48 (actCs (1) N c n o (.slice Aa na ca) (.slice Ap np cp) (.slice Ac nc cc)) ∧ n0 ≤ W1.heap.size := ⟨_, rfl, HX.out.1.on (below_drewN (Below.refl _ _) _) HX.out.2.2.2.2.2.2.2, HX.out.2.1, HX.out.2.2.2.2.2.2.2⟩
 rw [← hW1, ← hB5]
 have a0 : W1.cell? ⟨B5, 0, none⟩ = some (.int .i64 (1)) := hk5.cell 0
 have HL := Lib.hid (And.intro hLR (And.intro hk5 hsz))
 clear hW1 hLR hk5 hsz hB5 c0 hm
 have HR := Lib.hid (act_range HL.out.2.1)
 obtain ⟨E, hE⟩ : ∃ E, E = B + (P.length + 1) := ⟨_, rfl⟩
 have HA := Lib.hid (append_ok n0 g B E P c n o _ _ _ W1 HL.out.1.p HL.out.2.2 HG.out (HX.out.2.2.1.on (HX.out.2.2.2.2.2.2.1 ▸ HL.out.1.bel)) (Nat.le_trans HX.out.2.2.2.2.1 (by decide)) (by have := HX.out.2.2.2.2.2.1; omega) hE HS.out)
 have HE := Lib.hid hE
 clear hE
 go_upto_region 5 with (first
   | (refine wpList_load_mid rfl 46 _ rfl B5 2 rfl [.int .u64 c, .int .u64 n, .int .i64 o.k, .string (sx o.name), .string (sx o.dst), .slice Aa na ca, .slice Ap np cp, .slice Ac nc cc, .int .i64 o.n] _ HR.out rfl rfl (by kernel_rfl) ?_)
   | (go_at_call 15; (with_reducible refine HA.out.mono ?_); clear HA; rintro e w2 ⟨x, hxm, rfl, hlp, hfr⟩; dsimp only; have H2 := Lib.hid (And.intro hxm (And.intro hlp (And.intro hfr (hfr.typ B5 48 _ (by simp [TP]) HL.out.2.1)))); clear hxm hlp hfr))
 have HR2 := Lib.hid (act_range H2.out.2.2.2)
 have HB := Lib.hid (rappend_ok n0 r B E R c n o _ _ _ w0 w2 (HL.out.1.q.onP H2.out.2.2.1) HX.out.2.2.2.2.2.2.1 (HL.out.1.bel.trans H2.out.2.2.1.bel) HX.out.2.2.2.1.lim HX.out.2.2.1 HG.out (by rw [← HL.out.1.len]; exact Nat.le_trans HX.out.2.2.2.2.1 (by decide)) (by have := HX.out.2.2.2.2.2.1; omega) (by rw [← HL.out.1.len]; exact HE.out) (by rw [← HL.out.1.m]; exact HS.out))
 clear a0
 go_wp2_with (first
   | (refine wpList_load_mid rfl 46 _ rfl B5 2 rfl [.int .u64 c, .int .u64 n, .int .i64 o.k, .string (sx o.name), .string (sx o.dst), .slice Aa na ca, .slice Ap np cp, .slice Ac nc cc, .int .i64 o.n] _ HR2.out rfl rfl (by kernel_rfl) ?_)
   | (go_at_call 25; (with_reducible refine HB.out.mono ?_); clear HB; rintro e w3 ⟨y, hym, rfl, hlq, hfr⟩; dsimp only; have H3 := Lib.hid (And.intro hym (And.intro hlq hfr)); clear hym hlq hfr))
 go_ret
 refine ⟨by simp, B, P ++ [x], R ++ [y], ⟨H2.out.2.1.onQ H3.out.2.2, H3.out.2.1, ?_, (HL.out.1.bel.trans H2.out.2.2.1.bel).trans H3.out.2.2.bel, (HL.out.1.fr.trans H2.out.2.2.1.tp).trans (FrT.tq (sp := sp) (g := g) H3.out.2.2)⟩, by simp, by simp; omega⟩
 rw [means_app, means_app, HL.out.1.m, show means [x] = [x.m] from rfl, show means [y] = [y.m] from rfl, H2.out.1, H3.out.1]
end Go.Proofs.YtniaijgejljjbaaGreat.Tlv
