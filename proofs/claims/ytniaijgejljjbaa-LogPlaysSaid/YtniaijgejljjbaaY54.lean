/- The law: a log, act by act. -/
import Derived.Test.YtniaijgejljjbaaY53
import Derived.Test.YtniaijgejljjbaaRows
import Derived.WalkKit
import Derived.ProofKit
import Derived.OpenShut
import Derived.ShutString
import Derived.ChangeOld
import Derived.Below
namespace Go.Proofs.Ytniaijgejljjbaa.Tlv
open Go.RowKit
set_option maxRecDepth 100000
set_option linter.unusedVariables false
set_option linter.unusedSimpArgs false
theorem rqs_rds {w : World} {A : Option Addr} {L : List Rq} (h : RdK kRq w w.heap.size A L) : RdS w.heap.size w A L := fun hp => by
 obtain ⟨b, off, e, h1, h2⟩ := h hp
 exact ⟨b, off, e, h1, .inl h1, h2⟩
theorem mem_at {L : List Rq} {x : Rq} (h : x ∈ L) : ∃ i, i < L.length ∧ x = L.getD i default := by
 obtain ⟨i, hi, rfl⟩ := List.mem_iff_getElem.1 h
 exact ⟨i, hi, by rw [List.getD_eq_getElem?_getD, List.getElem?_eq_getElem hi]; rfl⟩
def Small (L : List Ac) (Q : List Rq) : Prop := (∀ i, i < L.length → SmO (L.getD i default).x.o) ∧ (∀ i, i < Q.length → SmO (Q.getD i default).o) ∧ L.length ≤ 40 ∧ Q.length ≤ 40
theorem oks {w : World} {L : List Ac} {Q : List Rq} (h : Small L Q) (hi : ∀ i, i < Q.length → RqIn w (Q.getD i default)) : ∀ m ∈ means Q, m.Ok := fun m hm => by
 obtain ⟨x, hx, rfl⟩ := List.mem_map.1 hm
 obtain ⟨i, hl, rfl⟩ := mem_at hx
 exact (hi i hl).ok (h.2.1 i hl)
theorem of_law {w w1 : World} {B cD : Nat} {D : Option Addr} {L : List Ac} {Q : List Rq} (h : Small L Q) (hr : RdK kRq w w.heap.size D Q) (hi : ∀ i, i < Q.length → RqIn w (Q.getD i default)) (hb : Below w.heap.size w w1) (hB : B < 18446744073709551616) :
   Calls Try.prog 8 #[.int .u64 B, .slice D Q.length cD] w1 (OfOut w.heap.size B (means Q) w1) :=
 of_any w.heap.size B Q.length cD Q D w w1 rfl hb rfl ((rqs_rds hr).frT (T := TN) ⟨hb, fun b t cs _ hk => hk.on hb⟩ id) (fun x hx => by
   obtain ⟨i, hl, rfl⟩ := mem_at hx
   exact (hi i hl).at') (oks h hi) (by have := h.2.2.2; omega) hB
theorem rof_law {w w1 : World} {B n c : Nat} {A : Option Addr} {L : List Ac} {Q : List Rq} (h : Small L Q) (hrow : RowK kRq w1 w.heap.size (.slice A n c) Q) (hi : ∀ i, i < Q.length → RqIn w (Q.getD i default)) (hb : Below w.heap.size w w1) (hB : B < 18446744073709551616) :
   Calls Try.prog 9 #[.int .u64 B, .slice A n c] w1 (ROfOut w.heap.size B Q w w1) := by
 obtain ⟨h1, h2, h3, h4⟩ := rds_of_row (n0 := w.heap.size) hrow
 exact rof_any w.heap.size B n c Q A w w1 rfl hb h1 h2 h3 h4 (fun x hx => by
   obtain ⟨i, hl, rfl⟩ := mem_at hx
   exact (hi i hl).at') (oks h hi) (by have := h.2.2.2; omega) hB
theorem not_good {Q : List Rq} (h1 : ∃ m ∈ means Q, mayO m.o = false) (h2 : ∀ m ∈ means Q, m.Good) : False := by
 obtain ⟨m, hm, e⟩ := h1
 rw [(h2 m hm).may] at e
 cases e
set_option maxHeartbeats 32000000 in
theorem law_err2 (B : Nat) (v : Value) (D : Option Addr) (cD : Nat) (Q : List Rq) (L : List Ac) (w : World) (hQ : RqsAt w (.slice D Q.length cD) Q) (hL : AcsAt w v L) (u : Value) (hu : u = .slice D Q.length cD)
   (h8 : Small L Q → ∀ w1, Below w.heap.size w w1 → Calls Try.prog 8 #[.int .u64 B, .slice D Q.length cD] w1 fun e w' => e = .returned (.tuple #[.pointer none, .int .i64 2]) ∧ Below w1.heap.size w1 w')
   (h9 : Small L Q → ∀ w1 A n c, Below w.heap.size w w1 → RowK kRq w1 w.heap.size (.slice A n c) Q → Calls Try.prog 9 #[.int .u64 B, .slice A n c] w1 fun e w' => e = .returned (.tuple #[.pointer none, .int .i64 2]) ∧ Below w1.heap.size w1 w') :
   Calls Try.prog 3 #[.int .u64 B, u, v] w fun e w' => e = .returned (.bool true) ∧ Below w.heap.size w w' := by
 subst hu
 have HF : Hid (Calls Try.prog 6 #[v, .slice D Q.length cD, .int .i64 40] w (FewOut L Q 40 w)) := Lib.hid (few_any L Q v _ 40 w hL hQ (by decide))
 have HAL := Lib.hid hL
 obtain ⟨A, cA, rfl, _⟩ := hL
 obtain ⟨D0, cD0, e0, hD, hrD, hiD⟩ := hQ
 injection e0 with e1 e2 e3
 subst e1 e3
 clear e2
 have HQL := Lib.hid (And.intro hD.1 (And.intro hrD hiD))
 have H8 := Lib.hid h8
 have H9 := Lib.hid h9
 clear h8 h9 hD hrD hiD
 go_enter Try.func3, Try.ntmps3
 go_wp2_with (first
   | (go_at_call 6; (with_reducible refine HF.out.mono ?_); clear HF; rintro e w1 ⟨bb, rfl, hsm, hb1⟩; dsimp only; have H1 := Lib.hid (And.intro (show bb = true → Small L Q from hsm) hb1); clear hsm hb1; cases bb)
   | (go_at_call 7; (with_reducible refine (known_any _).mono ?_); rintro e w9 ⟨rfl, hb9⟩; dsimp only; have HEND : Hid (Below w.heap.size w w9) := Lib.hid (by first | exact HZ.out.trans (hb9.mono HZ.out.size) | exact H1.out.2.trans (hb9.mono H1.out.2.size)); clear hb9)
   | (go_at_call 8; (with_reducible refine (H8.out (H1.out.1 (by simp)) _ H1.out.2).mono ?_); rintro e w2 ⟨rfl, hb2⟩; dsimp only; have H2 := Lib.hid (And.intro True.intro (H1.out.2.trans (hb2.mono H1.out.2.size))); clear hb2)
   | (at_builtin; refine wpList_appK kRq rfl _ _ rfl Q rfl (nil_row kRq _ _) rfl ((HQL.out.2.1.below H2.out.2)) HQL.out.1 (by have h := (H1.out.1 (by simp)).2.2.2; simp; omega) H2.out.2.size ?_; intro v' w3 hrow hgrow; have H3 := Lib.hid (And.intro (show RowK kRq w3 w.heap.size v' Q from hrow) (H2.out.2.trans ((grown_nilQ hgrow).mono H2.out.2.size))); obtain ⟨A3, c3, n3, HN3, rfl, _, _⟩ := RowK.rdn hrow; clear hrow hgrow)
   | (go_at_call 9; (with_reducible refine (H9.out (H1.out.1 (by simp)) _ _ _ _ H3.out.2 H3.out.1).mono ?_); rintro e w4 ⟨rfl, hb4⟩; dsimp only; have HZ := Lib.hid (H3.out.2.trans (hb4.mono H3.out.2.size)); clear hb4))
 all_goals
   go_ret
   exact ⟨rfl, HEND.out⟩
set_option maxHeartbeats 32000000 in
theorem law_err10 (B : Nat) (v : Value) (D : Option Addr) (cD : Nat) (Q : List Rq) (L : List Ac) (w : World) (hQ : RqsAt w (.slice D Q.length cD) Q) (hL : AcsAt w v L) (u : Value) (hu : u = .slice D Q.length cD)
   (h8 : Small L Q → ∀ w1, Below w.heap.size w w1 → Calls Try.prog 8 #[.int .u64 B, .slice D Q.length cD] w1 fun e w' => e = .returned (.tuple #[.pointer none, .int .i64 10]) ∧ Below w1.heap.size w1 w')
   (h9 : Small L Q → ∀ w1 A n c, Below w.heap.size w w1 → RowK kRq w1 w.heap.size (.slice A n c) Q → Calls Try.prog 9 #[.int .u64 B, .slice A n c] w1 fun e w' => e = .returned (.tuple #[.pointer none, .int .i64 10]) ∧ Below w1.heap.size w1 w') :
   Calls Try.prog 3 #[.int .u64 B, u, v] w fun e w' => e = .returned (.bool true) ∧ Below w.heap.size w w' := by
 subst hu
 have HF : Hid (Calls Try.prog 6 #[v, .slice D Q.length cD, .int .i64 40] w (FewOut L Q 40 w)) := Lib.hid (few_any L Q v _ 40 w hL hQ (by decide))
 have HAL := Lib.hid hL
 obtain ⟨A, cA, rfl, _⟩ := hL
 obtain ⟨D0, cD0, e0, hD, hrD, hiD⟩ := hQ
 injection e0 with e1 e2 e3
 subst e1 e3
 clear e2
 have HQL := Lib.hid (And.intro hD.1 (And.intro hrD hiD))
 have H8 := Lib.hid h8
 have H9 := Lib.hid h9
 clear h8 h9 hD hrD hiD
 go_enter Try.func3, Try.ntmps3
 go_wp2_with (first
   | (go_at_call 6; (with_reducible refine HF.out.mono ?_); clear HF; rintro e w1 ⟨bb, rfl, hsm, hb1⟩; dsimp only; have H1 := Lib.hid (And.intro (show bb = true → Small L Q from hsm) hb1); clear hsm hb1; cases bb)
   | (go_at_call 7; (with_reducible refine (known_any _).mono ?_); rintro e w9 ⟨rfl, hb9⟩; dsimp only; have HEND : Hid (Below w.heap.size w w9) := Lib.hid (by first | exact HZ.out.trans (hb9.mono HZ.out.size) | exact H1.out.2.trans (hb9.mono H1.out.2.size)); clear hb9)
   | (go_at_call 8; (with_reducible refine (H8.out (H1.out.1 (by simp)) _ H1.out.2).mono ?_); rintro e w2 ⟨rfl, hb2⟩; dsimp only; have H2 := Lib.hid (And.intro True.intro (H1.out.2.trans (hb2.mono H1.out.2.size))); clear hb2)
   | (at_builtin; refine wpList_appK kRq rfl _ _ rfl Q rfl (nil_row kRq _ _) rfl ((HQL.out.2.1.below H2.out.2)) HQL.out.1 (by have h := (H1.out.1 (by simp)).2.2.2; simp; omega) H2.out.2.size ?_; intro v' w3 hrow hgrow; have H3 := Lib.hid (And.intro (show RowK kRq w3 w.heap.size v' Q from hrow) (H2.out.2.trans ((grown_nilQ hgrow).mono H2.out.2.size))); obtain ⟨A3, c3, n3, HN3, rfl, _, _⟩ := RowK.rdn hrow; clear hrow hgrow)
   | (go_at_call 9; (with_reducible refine (H9.out (H1.out.1 (by simp)) _ _ _ _ H3.out.2 H3.out.1).mono ?_); rintro e w4 ⟨rfl, hb4⟩; dsimp only; have HZ := Lib.hid (H3.out.2.trans (hb4.mono H3.out.2.size)); clear hb4))
 all_goals
   go_ret
   exact ⟨rfl, HEND.out⟩
set_option maxHeartbeats 32000000 in
theorem law_ok (B : Nat) (v : Value) (D : Option Addr) (cD : Nat) (Q : List Rq) (L : List Ac) (w : World) (hQ : RqsAt w (.slice D Q.length cD) Q) (hL : AcsAt w v L) (hB : B ≤ 4611686018427387904) (u : Value) (hu : u = .slice D Q.length cD)
   (h8 : Small L Q → ∀ w1, Below w.heap.size w w1 → Calls Try.prog 8 #[.int .u64 B, .slice D Q.length cD] w1 fun e w' => ∃ g P, e = .returned (.tuple #[.pointer (some ⟨g, 0, none⟩), .int .i64 0]) ∧ means P = means Q ∧ LogP w.heap.size w' g B P ∧ Below w1.heap.size w1 w')
   (h9 : Small L Q → ∀ w1 A n c, Below w.heap.size w w1 → RowK kRq w1 w.heap.size (.slice A n c) Q → Calls Try.prog 9 #[.int .u64 B, .slice A n c] w1 fun e w' => ∃ r, e = .returned (.tuple #[.pointer (some ⟨r, 0, none⟩), .int .i64 0]) ∧ LogQ w.heap.size w w' r B Q ∧ Below w1.heap.size w1 w') :
   Calls Try.prog 3 #[.int .u64 B, u, v] w fun e w' => e = .returned (.bool true) ∧ Below w.heap.size w w' := by
 subst hu
 have HF : Hid (Calls Try.prog 6 #[v, .slice D Q.length cD, .int .i64 40] w (FewOut L Q 40 w)) := Lib.hid (few_any L Q v _ 40 w hL hQ (by decide))
 have HAL := Lib.hid hL
 obtain ⟨A, cA, rfl, _⟩ := hL
 obtain ⟨D0, cD0, e0, hD, hrD, hiD⟩ := hQ
 injection e0 with e1 e2 e3
 subst e1 e3
 clear e2
 have HQL := Lib.hid (And.intro hD.1 (And.intro hrD hiD))
 have H8 := Lib.hid h8
 have H9 := Lib.hid h9
 clear h8 h9 hD hrD hiD
 go_enter Try.func3, Try.ntmps3
 obtain ⟨n, hn⟩ : ∃ n, n = L.length := ⟨_, rfl⟩
 have HN := Lib.hid hn
 rw [← hn] at HF ⊢
 have HBB := Lib.hid hB
 clear hn hB
 go_upto_region 10 with (first
   | (go_at_call 6; (with_reducible refine HF.out.mono ?_); clear HF; rintro e w1 ⟨bb, rfl, hsm, hb1⟩; dsimp only; have H1 := Lib.hid (And.intro (show bb = true → Small L Q from hsm) hb1); clear hsm hb1; cases bb)
   | (go_at_call 7; (with_reducible refine (known_any _).mono ?_); rintro e w9 ⟨rfl, hb9⟩; dsimp only; have HEND : Hid (Below w.heap.size w w9) := Lib.hid (by first | exact HZ.out.trans (hb9.mono HZ.out.size) | exact H1.out.2.trans (hb9.mono H1.out.2.size)); clear hb9)
   | (go_at_call 8; (with_reducible refine (H8.out (H1.out.1 (by simp)) _ H1.out.2).mono ?_); rintro e w2 ⟨g, P, rfl, hmP, hlP, hb2⟩; dsimp only; have H2 := Lib.hid (And.intro (And.intro hmP hlP) (H1.out.2.trans (hb2.mono H1.out.2.size))); clear hmP hlP hb2)
   | (at_builtin; refine wpList_appK kRq rfl _ _ rfl Q rfl (nil_row kRq _ _) rfl ((HQL.out.2.1.below H2.out.2)) HQL.out.1 (by have h := (H1.out.1 (by simp)).2.2.2; simp; omega) H2.out.2.size ?_; intro v' w3 hrow hgrow; have H3 := Lib.hid (And.intro (show RowK kRq w3 w.heap.size v' Q from hrow) (H2.out.2.trans ((grown_nilQ hgrow).mono H2.out.2.size))); have H3b := Lib.hid (grown_nilQ hgrow); obtain ⟨A3, c3, n3, HN3, rfl, _, _⟩ := RowK.rdn hrow; clear hrow hgrow)
   | (go_at_call 9; (with_reducible refine (H9.out (H1.out.1 (by simp)) _ _ _ _ H3.out.2 H3.out.1).mono ?_); rintro e w4 ⟨r, rfl, hlq, hb4⟩; dsimp only; have H4 : Hid (LR w.heap.size w w4 g r B P Q ∧ True) := Lib.hid ⟨⟨(H2.out.1.2.on (H3b.out.trans (hb4.mono H3b.out.size)) H2.out.2.size), hlq, H2.out.1.1, H3.out.2.trans (hb4.mono H3.out.2.size)⟩, trivial⟩; clear hlq hb4))
 · go_ret
   exact ⟨rfl, HEND.out⟩
 have HSM : Hid (Small L Q) := Lib.hid (H1.out.1 (by simp))
 have HPQ : Hid (P.length = Q.length) := Lib.hid H4.out.1.len
 have hn1 : n ≤ 40 := by rw [HN.out]; exact HSM.out.2.2.1
 obtain ⟨W4, hW4⟩ : ∃ W, W = w4 := ⟨_, rfl⟩
 rw [← hW4]
 have H5 : Hid (LR w.heap.size w W4 g r B P Q) := Lib.hid (hW4 ▸ H4.out.1)
 clear hW4
 go_loopw [11] (fun s11 wr => ∃ k : Nat, s11 = .int .i64 k ∧ k ≤ n ∧ Hid (∃ B' P' R', LR w.heap.size w wr g r B' P' R' ∧ P'.length ≤ 40 + k ∧ B' + P'.length ≤ 4611686018427387904 + 40 + k)) (fun s11 _ => n - (intOf s11).toNat)
 case atStart => exact ⟨0, rfl, Nat.zero_le _, Lib.hid ⟨B, P, Q, H5.out, by rw [HPQ.out]; exact HSM.out.2.2.2, by rw [HPQ.out]; have h1 := HSM.out.2.2.2; have h2 := HBB.out; omega⟩⟩
 case round =>
   obtain ⟨k, rfl, hkn, HJ⟩ := hrel
   obtain ⟨B', P', R', hLR, hP1, hP2⟩ := HJ.out
   have HI := Lib.hid (And.intro hLR (And.intro hP1 hP2))
   clear hLR hP1 hP2 HJ
   by_cases hlt : k < n
   · have hki : (k : Int) < (n : Int) := by omega
     have hkL : k < L.length := by have := HN.out; omega
     obtain ⟨A2, cA2, eA, _, hrA, hiA⟩ := HAL.out
     injection eA with e1 e2 e3
     subst e1
     obtain ⟨b, off, rfl, hbl, hra⟩ := hrA.below HI.out.1.bel (by omega)
     have hin := hiA k hkL
     have hso := HSM.out.1 k hkL
     have hra2 := fun (i : Nat) (u : Value) (h : (acL (L.getD k default))[i]? = some u) => hra k hkL i u h
     generalize L.getD k default = aa at hin hso hra2
     have HD := Lib.hid (do_any w.heap.size g r B' P' R' aa w wr HI.out.1 rfl hin (hin.x.ok hso) (by have := HI.out.2.1; omega) (by have := HI.out.2.2; omega))
     obtain ⟨aK, aN, xc, xn, xo, xA, xla, xca, xP, xlp, xcp, xC, xlc, xcc⟩ := aa
     have HD2 : Hid (Calls Try.prog 10 #[.pointer (some ⟨g, 0, none⟩), .pointer (some ⟨r, 0, none⟩), .agg #[.int .i64 aK, .int .u64 aN, .int .u64 xc, .int .u64 xn, .int .i64 xo.k, .string (sx xo.name), .string (sx xo.dst), .slice xA xla xca, .slice xP xlp xcp, .slice xC xlc xcc, .int .i64 xo.n]] wr (DoOut w.heap.size w g r B' P'.length)) := Lib.hid HD.out
     have HRG : Hid (wr.rangeAt b (off + k * 11) [.int .i64 aK, .int .u64 aN, .int .u64 xc, .int .u64 xn, .int .i64 xo.k, .string (sx xo.name), .string (sx xo.dst), .slice xA xla xca, .slice xP xlp xcp, .slice xC xlc xcc, .int .i64 xo.n]) := Lib.hid fun q v hv => hra2 q v hv
     clear hra hra2 hin hso hbl hrA hiA e2 e3 hkL
     go_wp2_with (first
       | (refine wpList_load_mid rfl 44 _ rfl b (off + k * 11) rfl [.int .i64 aK, .int .u64 aN, .int .u64 xc, .int .u64 xn, .int .i64 xo.k, .string (sx xo.name), .string (sx xo.dst), .slice xA xla xca, .slice xP xlp xcp, .slice xC xlc xcc, .int .i64 xo.n] _ HRG.out rfl rfl (by kernel_rfl) ?_)
       | (go_at_call 10; (with_reducible refine HD2.out.mono ?_); clear HD HD2; rintro e w6 ⟨rfl, B2, P2, R2, h6, h7, h8⟩; dsimp only; have H6 := Lib.hid (And.intro h6 (And.intro h7 h8)); clear h6 h7 h8))
     go_roundw
     case rel => exact ⟨k + 1, by go_num, by omega, Lib.hid ⟨B2, P2, R2, H6.out.1, by have := H6.out.2.1; have := HI.out.2.1; omega, by have := H6.out.2.2; have := HI.out.2.2; omega⟩⟩
     case measure => simp [intOf]; omega
   · have hki : ¬ (k : Int) < (n : Int) := by omega
     have HS := Lib.hid (same_any w.heap.size g r B' P' R' w wr HI.out.1 rfl (by have := HI.out.2.1; omega) (by have := HI.out.2.2; omega))
     go_wp2_with (first
       | (go_at_call 11; (with_reducible refine HS.out.mono ?_); clear HS; rintro e w6 ⟨rfl, hb6⟩; dsimp only; have H6 := Lib.hid (HI.out.1.bel.trans (hb6.mono HI.out.1.bel.size)); clear hb6)
       | (go_at_call 7; (with_reducible refine (known_any _).mono ?_); rintro e w9 ⟨rfl, hb9⟩; dsimp only; have HEND := Lib.hid (H6.out.trans (hb9.mono H6.out.size)); clear hb9))
     go_ret
     exact ⟨rfl, HEND.out⟩
theorem lawPlays (B : Nat) (v u : Value) (Q : List Rq) (L : List Ac) (w : World) (hB : B < 18446744073709551616) (hQ : RqsAt w u Q) (hL : AcsAt w v L) : Calls Try.prog 3 #[.int .u64 B, u, v] w fun e w' => e = .returned (.bool true) ∧ Below w.heap.size w w' := by
 obtain ⟨D, cD, rfl, hD, hrD, hiD⟩ := hQ
 have hQ : RqsAt w (.slice D Q.length cD) Q := ⟨D, cD, rfl, hD, hrD, hiD⟩
 by_cases h1 : ∃ m ∈ means Q, mayO m.o = false
 · refine law_err2 B v D cD Q L w hQ hL _ rfl (fun hs w1 hb => (of_law hs hrD hiD hb hB).mono fun e w' ⟨hb2, ho⟩ => ?_) (fun hs w1 A n c hb hrow => (rof_law hs hrow hiD hb hB).mono fun e w' ⟨hb2, ho⟩ => ?_)
   · rcases ho with ⟨_, he⟩ | ⟨hg, _⟩ | ⟨hg, _⟩ | ⟨hg, _⟩
     · exact ⟨he, hb2⟩
     all_goals exact (not_good h1 hg).elim
   · rcases ho with ⟨_, he⟩ | ⟨hg, _⟩ | ⟨hg, _⟩ | ⟨hg, _⟩
     · exact ⟨he, hb2⟩
     all_goals exact (not_good h1 hg).elim
 by_cases h2 : 4611686018427387904 < B
 · refine law_err2 B v D cD Q L w hQ hL _ rfl (fun hs w1 hb => (of_law hs hrD hiD hb hB).mono fun e w' ⟨hb2, ho⟩ => ?_) (fun hs w1 A n c hb hrow => (rof_law hs hrow hiD hb hB).mono fun e w' ⟨hb2, ho⟩ => ?_)
   · rcases ho with ⟨hb, _⟩ | ⟨hg, _, he⟩ | ⟨hg, h3, _⟩ | ⟨hg, h3, _⟩
     · exact (h1 hb).elim
     · exact ⟨he, hb2⟩
     all_goals omega
   · rcases ho with ⟨hb, _⟩ | ⟨hg, _, he⟩ | ⟨hg, h3, _⟩ | ⟨hg, h3, _⟩
     · exact (h1 hb).elim
     · exact ⟨he, hb2⟩
     all_goals omega
 by_cases h3 : 2097152 < sumM (means Q)
 · refine law_err10 B v D cD Q L w hQ hL _ rfl (fun hs w1 hb => (of_law hs hrD hiD hb hB).mono fun e w' ⟨hb2, ho⟩ => ?_) (fun hs w1 A n c hb hrow => (rof_law hs hrow hiD hb hB).mono fun e w' ⟨hb2, ho⟩ => ?_)
   · rcases ho with ⟨hb, _⟩ | ⟨hg, h4, he⟩ | ⟨hg, _, _, he⟩ | ⟨hg, _, h4, _⟩
     · exact (h1 hb).elim
     · omega
     · exact ⟨he, hb2⟩
     · omega
   · rcases ho with ⟨hb, _⟩ | ⟨hg, h4, he⟩ | ⟨hg, _, _, he⟩ | ⟨hg, _, h4, _⟩
     · exact (h1 hb).elim
     · omega
     · exact ⟨he, hb2⟩
     · omega
 · refine law_ok B v D cD Q L w hQ hL (by omega) _ rfl (fun hs w1 hb => (of_law hs hrD hiD hb hB).mono fun e w' ⟨hb2, ho⟩ => ?_) (fun hs w1 A n c hb hrow => (rof_law hs hrow hiD hb hB).mono fun e w' ⟨hb2, ho⟩ => ?_)
   · rcases ho with ⟨hb, _⟩ | ⟨hg, h4, he⟩ | ⟨hg, _, h4, _⟩ | ⟨hg, _, _, g, P, he, hm, hl⟩
     · exact (h1 hb).elim
     · omega
     · omega
     · exact ⟨g, P, he, hm, hl, hb2⟩
   · rcases ho with ⟨hb, _⟩ | ⟨hg, h4, he⟩ | ⟨hg, _, h4, _⟩ | ⟨hg, _, _, r, he, hl⟩
     · exact (h1 hb).elim
     · omega
     · omega
     · exact ⟨r, he, hl, hb2⟩
end Go.Proofs.Ytniaijgejljjbaa.Tlv
namespace Go.Proofs.Ytniaijgejljjbaa.logPlays
open Go.ChangeShapes Go.WideShapes Go.ChangeAt Go.RowKit
open Go.ChangeMaps (open_string shut_string)
set_option linter.unusedVariables false
theorem own : ownKnob Try.prog.godebug = none := by kernel_rfl
theorem laidOut : laidOutB Try.prog = true := by kernel_rfl
set_option maxRecDepth 100000 in
theorem lifted (os : Os) (started : os.Started) (H : Type) (enc : TypeId × Value → H) :
   ReturnsInHanded {} Try.checked os 3 .any (Rows.logPlaysSpec.pre6 enc Try.prog Try.f3 Rows.logPlaysRow.domain false) (Rows.logPlaysSpec.post enc Try.prog Try.f3 false true false false) := by
 refine returnsInHanded_of_change (C := Try.checked) own started (by kernel_rfl) Try.func3
   (ChangeSpec.witness6 (enc := enc) (C := Try.checked) false ⟨#[], #[.int .u64 0, .slice none 0 0, .slice none 0 0], []⟩ 8 (by kernel_rfl) (by kernel_rfl) (by kernel_rfl) (by kernel_rfl)) ?_
 intro W base args ds gs before hval0 hW hcnd _
 have hval : ∀ (j : Nat) t v, Try.f3.params[j]? = some t → args[j]? = some v → Value.okWide Try.prog W .any base t v := hval0
 have hW' := hW
 obtain ⟨p, q, hA0, hV, rfl, hfz, hnd⟩ := hW
 have hA : DataW.TrodAll enc Try.prog W 0 (fun _ => true) true Try.f3.params.toList args.toList ds p := hA0
 rw [Try.params3] at hA hval
 obtain ⟨v0, vs0, d0, ds0, p0, q0, hargs, rfl, rfl, h0, r0⟩ := trodAll_cons hA
 obtain ⟨v1, vs1, d1, ds1, p1, q1, rfl, rfl, rfl, h1, r1⟩ := trodAll_cons r0
 obtain ⟨v2, vs2, d2, ds2, p2, q2, rfl, rfl, rfl, h2, r2⟩ := trodAll_cons r1
 obtain ⟨rfl, rfl, rfl⟩ := trodAll_nil r2
 obtain rfl : args = #[v0, v1, v2] := by cases args; simp_all
 obtain ⟨rfl, rfl⟩ := trodVars_none hV
 have k1 := h1
 have lt1 : ∀ x ∈ p1, x.block < W.heap.size := by obtain ⟨m, hm⟩ := k1; exact DataW.trod_lt m _ _ _ hm
 have k2 := h2
 have lt2 : ∀ x ∈ p2, x.block < W.heap.size := by obtain ⟨m, hm⟩ := k2; exact DataW.trod_lt m _ _ _ hm
 obtain ⟨a0, rfl, rfl, rfl, w0⟩ := open_int Try.underlying22 (hval 0 22 v0 rfl rfl) h0
 obtain ⟨A1, n1, c1, rfl⟩ := okWide_slice Try.underlying23 (hval 1 23 v1 rfl rfl)
 obtain ⟨A2, n2, c2, rfl⟩ := okWide_slice Try.underlying24 (hval 2 24 v2 rfl rfl)
 obtain ⟨f1, hf1⟩ := h1
 obtain ⟨f2, hf2⟩ := h2
 obtain ⟨u1, Q, e1, qa⟩ := Tlv.open_rqsC hf1
 obtain ⟨u2, L, e2, la⟩ := Tlv.open_acsC hf2
 simp [Value.cells] at e1 e2
 subst e1 e2
 clear hA0 hval0
 simp only [List.nil_append] at hW'
 have hw := Tlv.wfU w0
 obtain ⟨B, rfl⟩ : ∃ B : Nat, a0 = B := ⟨a0.toNat, by omega⟩
 refine (show Calls Try.prog 3 _ W fun e w' => e = .returned (.bool true) ∧ Below W.heap.size W w' from by exact Tlv.lawPlays B _ _ Q L W (by omega) qa la).mono fun e W' ⟨he, bel⟩ => ?_
 subst he
 exact ⟨_, rfl, _, _, _, [], _, [], hW', trodAll_mk1 (shut_bool Try.underlying4 _), (trodAll_cons_mk (shut_int Try.underlying22 w0) (trodAll_cons_mk (Below.trod laidOut (by kernel_rfl) (of_decide_eq_true (by kernel_rfl)) k1 bel lt1) (trodAll_cons_mk (Below.trod laidOut (by kernel_rfl) (of_decide_eq_true (by kernel_rfl)) k2 bel lt2) trodAll_mk0))), rfl, bel.frame _, fun h => by cases h⟩
theorem over : Rows.logPlaysRow.holds Try.pinned (OpenSpec.ofChange Rows.logPlaysSpec) :=
 OpenClaim.holds_of_wide 3 Try.f3 rfl rfl rfl rfl rfl rfl rfl ⟨rfl, rfl, rfl, rfl, rfl⟩ rfl rfl rfl rfl rfl (by kernel_rfl) Try.func3 (by kernel_rfl)
   (of_decide_eq_true (by kernel_rfl)) (by unfold Func.isWrapper; first | (rw [if_pos (by decide +kernel)]; kernel_rfl) | (rw [if_neg (by decide +kernel)]; exact ⟨rfl, rfl⟩))
   (fun os started H enc _ => lifted os started H enc)
theorem proved : Rows.LogPlaysSaid := over
#print axioms proved
end Go.Proofs.Ytniaijgejljjbaa.logPlays
