/- An act of whatever kind; are there few; do both look the same. -/
import Derived.Test.YtniaijgejljjbaaY51
import Derived.Lib.QuietBelow
namespace Go.Proofs.Ytniaijgejljjbaa.Tlv
open Go.RowKit
set_option maxRecDepth 100000
set_option linter.unusedVariables false
set_option linter.unusedSimpArgs false
theorem do_any (n0 g r B : Nat) (P R : List Rq) (a : Ac) (w0 w : World) (h : LR n0 w0 w g r B P R) (hn0 : n0 = w0.heap.size) (hin : AcIn w0 a) (hok : a.x.m.Ok) (hl : P.length ≤ 800) (hB : B + P.length ≤ 4611686018427388904) :
   Calls Try.prog 10 #[.pointer (some ⟨g, 0, none⟩), .pointer (some ⟨r, 0, none⟩), .agg (acL a).toArray] w (DoOut n0 w0 g r B P.length) := by
 obtain ⟨K, N, xc, xn, xo, xA, xla, xca, xP, xlp, xcp, xC, xlc, xcc⟩ := a
 have hN : N < 18446744073709551616 := hin.N
 have ho : OpAt w0 xo (.slice xA xla xca) (.slice xP xlp xcp) (.slice xC xlc xcc) := hin.x.at'
 have hok2 : (⟨xc, xn, xo⟩ : Mq).Ok := hok
 show Calls Try.prog 10 #[.pointer (some ⟨g, 0, none⟩), .pointer (some ⟨r, 0, none⟩), .agg (actCs K N xc xn xo (.slice xA xla xca) (.slice xP xlp xcp) (.slice xC xlc xcc))] w _
 obtain ⟨m, hm⟩ : ∃ m : Nat, IntKind.u64.wrap ((B : Int) + (N : Int)) = (m : Int) := ⟨(B + N) % 18446744073709551616, by rw [IntKind.wrap_u64]; omega⟩
 have hm2 : (m : Int) = ((B : Int) + (N : Int)) % 18446744073709551616 := by rw [← hm, IntKind.wrap_u64]
 by_cases h1 : K = 1
 · subst h1
   cases hmay : mayO xo with
   | false => exact do1_no n0 g r B N m P R xc xn xo _ _ _ _ _ _ _ _ _ w0 w h hn0 ho hok2 hl hB hm hmay
   | true =>
     rcases Nat.lt_or_ge 2097152 (sumM (means P) + Mq.sz ⟨xc, xn, xo⟩) with hs | hs
     · exact do1_full n0 g r B N m P R xc xn xo _ _ _ _ _ _ _ _ _ w0 w h hn0 ho hok2 hl hB hm hmay hs
     · exact do1_ok n0 g r B N m P R xc xn xo _ _ _ _ _ _ _ _ _ w0 w h hn0 ho hok2 hl hB hm hmay hs
 have hcase : (m = B + N ∧ N ≤ P.length) ∨ (m < B ∨ B + P.length < m) := by omega
 by_cases h2 : K = 2
 · subst h2
   rcases hcase with ⟨e, hle⟩ | hno
   · exact do2_ok n0 g r B N m P R xc xn xo _ _ _ _ _ _ _ _ _ w0 w h hn0 ho hok2 hl hB hm e hle
   · exact do2_no n0 g r B N m P R xc xn xo _ _ _ _ _ _ _ _ _ w0 w h hn0 ho hok2 hl hB hm hno
 by_cases h3 : K = 3
 · subst h3
   rcases hcase with ⟨e, hle⟩ | hno
   · exact do3_ok n0 g r B N m P R xc xn xo _ _ _ _ _ _ _ _ _ w0 w h hn0 ho hok2 hl hB hm e hle
   · exact do3_no n0 g r B N m P R xc xn xo _ _ _ _ _ _ _ _ _ w0 w h hn0 ho hok2 hl hB hm hno
 by_cases h4 : K = 4
 · subst h4
   by_cases hj : m = B + N ∧ 0 < N ∧ N ≤ P.length
   · exact do4_in n0 g r B N m P R xc xn xo _ _ _ _ _ _ _ _ _ w0 w h hn0 ho hok2 hl hB hm (N - 1) (by omega) (by omega)
   · exact do4_no n0 g r B N m P R xc xn xo _ _ _ _ _ _ _ _ _ w0 w h hn0 ho hok2 hl hB hm (by omega)
 by_cases h5 : K = 5
 · subst h5
   rcases hcase with ⟨e, hle⟩ | hno
   · exact do5_in n0 g r B N m P R xc xn xo _ _ _ _ _ _ _ _ _ w0 w h hn0 ho hok2 hl hB hm e hle
   · exact do5_no n0 g r B N m P R xc xn xo _ _ _ _ _ _ _ _ _ w0 w h hn0 ho hok2 hl hB hm hno
 exact do_else n0 g r B N m P R K xc xn xo _ _ _ _ _ _ _ _ _ w0 w h hn0 ho hok2 hl hB hm h1 h2 h3 h4 h5
def FewOut (L : List Ac) (Q : List Rq) (most : Nat) (w : World) (e : Ending) (w' : World) : Prop := ∃ b : Bool, e = .returned (.bool b) ∧ (b = true → (∀ i, i < L.length → SmO (L.getD i default).x.o) ∧ (∀ i, i < Q.length → SmO (Q.getD i default).o) ∧ L.length ≤ most ∧ Q.length ≤ most) ∧ Below w.heap.size w w'
set_option maxHeartbeats 16000000 in
theorem few_any (L : List Ac) (Q : List Rq) (v u : Value) (most : Nat) (w : World) (hL : AcsAt w v L) (hQ : RqsAt w u Q) (hmo : most ≤ 1000) : Calls Try.prog 6 #[v, u, .int .i64 most] w (FewOut L Q most w) := by
 obtain ⟨A, cA, rfl, ⟨_, hA1, hA2⟩, hrA, hiA⟩ := hL
 obtain ⟨D, cD, rfl, ⟨_, hD1, hD2⟩, hrD, hiD⟩ := hQ
 obtain ⟨n, hn⟩ : ∃ n, n = L.length := ⟨_, rfl⟩
 obtain ⟨nq, hnq⟩ : ∃ n, n = Q.length := ⟨_, rfl⟩
 have hn1 : n ≤ 9223372036854775807 := by unfold maxLen at hA2; omega
 have hn2 : nq ≤ 9223372036854775807 := by unfold maxLen at hD2; omega
 clear hA1 hA2 hD1 hD2
 rw [← hn, ← hnq]
 have HH := Lib.hid (And.intro hrA (And.intro hiA (And.intro hrD (And.intro hiD (And.intro hn hnq)))))
 clear hrA hiA hrD hiD hn hnq
 go_enter Try.func6, Try.ntmps6
 go_wp2_with fail
 go_loopw [7] (fun s7 wr => ∃ k : Nat, s7 = .int .i64 k ∧ k ≤ n ∧ Hid (Below w.heap.size w wr ∧ ∀ i, i < k → SmO (L.getD i default).x.o)) (fun s7 _ => n - (intOf s7).toNat)
 case atStart => exact ⟨0, rfl, Nat.zero_le _, Lib.hid ⟨Below.refl _ _, fun i hi => absurd hi (Nat.not_lt_zero _)⟩⟩
 case round =>
   obtain ⟨k, rfl, hkn, HF⟩ := hrel
   by_cases hlt : k < n
   · have hki : (k : Int) < (n : Int) := by omega
     have hkL : k < L.length := by have := HH.out.2.2.2.2.1; omega
     obtain ⟨b, off, rfl, hbl, hra⟩ := HH.out.1.below HF.out.1 (by omega)
     have hin := (HH.out.2.1 k hkL).x.on HF.out.1
     have hra2 := fun (i : Nat) (u : Value) (h : (acL (L.getD k default))[i]? = some u) => hra k hkL i u h
     obtain ⟨aa, haa⟩ : ∃ aa, aa = L.getD k default := ⟨_, rfl⟩
     rw [← haa] at hin hra2
     have HAA := Lib.hid haa
     clear haa hra hkL
     obtain ⟨aK, aN, xc, xn, xo, xA, xla, xca, xP, xlp, xcp, xC, xlc, xcc⟩ := aa
     have HRG : Hid (wr.rangeAt b (off + k * 11 + 2) [.int .u64 xc, .int .u64 xn, .int .i64 xo.k, .string (sx xo.name), .string (sx xo.dst), .slice xA xla xca, .slice xP xlp xcp, .slice xC xlc xcc, .int .i64 xo.n]) := Lib.hid fun q v hv => by
       have hq : q < 9 := (List.getElem?_eq_some_iff.1 hv).1
       have := hra2 (q + 2) v (by rw [← hv]; unfold acL; rcases q with _ | _ | _ | _ | _ | _ | _ | _ | _ | q <;> first | rfl | omega)
       rwa [show kAc.size = 11 from rfl, show off + k * 11 + (q + 2) = off + k * 11 + 2 + q by omega] at this
     have HS := Lib.hid (small_any ⟨xc, xn, xo, xA, xla, xca, xP, xlp, xcp, xC, xlc, xcc⟩ wr hin)
     clear hra2 hin hbl
     go_wp2_with (first
       | (refine wpList_load_mid rfl 42 _ rfl b (off + k * 11 + 2) rfl [.int .u64 xc, .int .u64 xn, .int .i64 xo.k, .string (sx xo.name), .string (sx xo.dst), .slice xA xla xca, .slice xP xlp xcp, .slice xC xlc xcc, .int .i64 xo.n] _ HRG.out rfl rfl (by kernel_rfl) ?_)
       | (go_at_call 24; (with_reducible refine HS.out.mono ?_); clear HS; rintro e w2 ⟨bb, rfl, hsm, hb2⟩; dsimp only; have H2 := Lib.hid (And.intro hsm (HF.out.1.trans (hb2.mono HF.out.1.size))); clear hsm hb2; cases bb))
     · go_ret
       exact ⟨false, rfl, (fun e => by cases e), H2.out.2⟩
     · go_roundw
       case rel => exact ⟨k + 1, by go_num, by omega, Lib.hid ⟨H2.out.2, fun i hi => by
         rcases Nat.lt_or_ge i k with h | h
         · exact HF.out.2 i h
         · have : i = k := by omega
           subst this
           rw [← HAA.out]
           exact H2.out.1 rfl⟩⟩
       case measure => simp [intOf]; omega
   · have hki : ¬ (k : Int) < (n : Int) := by omega
     have HALL : Hid (∀ i, i < L.length → SmO (L.getD i default).x.o) := Lib.hid fun i hi => HF.out.2 i (by have := HH.out.2.2.2.2.1; omega)
     go_upto_region 7 with fail
     obtain ⟨W7, hW7⟩ : ∃ W, W = wr := ⟨_, rfl⟩
     have HBW : Hid (Below w.heap.size w W7) := Lib.hid (by rw [hW7]; exact HF.out.1)
     rw [← hW7]
     clear hW7 hkn hlt
     go_loopw [8] (fun s8 wq => ∃ j : Nat, s8 = .int .i64 j ∧ j ≤ nq ∧ Hid (Below w.heap.size w wq ∧ ∀ i, i < j → SmO (Q.getD i default).o)) (fun s8 _ => nq - (intOf s8).toNat)
     case atStart => exact ⟨0, rfl, Nat.zero_le _, Lib.hid ⟨HBW.out, fun i hi => absurd hi (Nat.not_lt_zero _)⟩⟩
     case round =>
       rename World => wq
       obtain ⟨j, rfl, hjn, HJ⟩ := hrel
       by_cases hlt : j < nq
       · have hji : (j : Int) < (nq : Int) := by omega
         have hjQ : j < Q.length := by have := HH.out.2.2.2.2.2; omega
         obtain ⟨b, off, rfl, hbl, hra⟩ := HH.out.2.2.1.below HJ.out.1 (by omega)
         have hin := (HH.out.2.2.2.1 j hjQ).on HJ.out.1
         have hra2 := fun (i : Nat) (u : Value) (h : (rqL (Q.getD j default))[i]? = some u) => hra j hjQ i u h
         obtain ⟨aa, haa⟩ : ∃ aa, aa = Q.getD j default := ⟨_, rfl⟩
         rw [← haa] at hin hra2
         have HAA := Lib.hid haa
         clear haa hra hjQ
         obtain ⟨xc, xn, xo, xA, xla, xca, xP, xlp, xcp, xC, xlc, xcc⟩ := aa
         have HRG : Hid (wq.rangeAt b (off + j * 9) [.int .u64 xc, .int .u64 xn, .int .i64 xo.k, .string (sx xo.name), .string (sx xo.dst), .slice xA xla xca, .slice xP xlp xcp, .slice xC xlc xcc, .int .i64 xo.n]) := Lib.hid fun q v hv => hra2 q v hv
         have HS := Lib.hid (small_any ⟨xc, xn, xo, xA, xla, xca, xP, xlp, xcp, xC, xlc, xcc⟩ wq hin)
         clear hra2 hin hbl
         go_wp2_with (first
           | (refine wpList_load_mid rfl 42 _ rfl b (off + j * 9) rfl [.int .u64 xc, .int .u64 xn, .int .i64 xo.k, .string (sx xo.name), .string (sx xo.dst), .slice xA xla xca, .slice xP xlp xcp, .slice xC xlc xcc, .int .i64 xo.n] _ HRG.out rfl rfl (by kernel_rfl) ?_)
           | (go_at_call 24; (with_reducible refine HS.out.mono ?_); clear HS; rintro e w2 ⟨bb, rfl, hsm, hb2⟩; dsimp only; have H2 := Lib.hid (And.intro hsm (HJ.out.1.trans (hb2.mono HJ.out.1.size))); clear hsm hb2; cases bb))
         · go_ret
           exact ⟨false, rfl, (fun e => by cases e), H2.out.2⟩
         · go_roundw
           case rel => exact ⟨j + 1, by go_num, by omega, Lib.hid ⟨H2.out.2, fun i hi => by
             rcases Nat.lt_or_ge i j with h | h
             · exact HJ.out.2 i h
             · have : i = j := by omega
               subst this
               rw [← HAA.out]
               exact H2.out.1 rfl⟩⟩
           case measure => simp [intOf]; omega
       · have hji : ¬ (j : Int) < (nq : Int) := by omega
         have HALQ : Hid (∀ i, i < Q.length → SmO (Q.getD i default).o) := Lib.hid fun i hi => HJ.out.2 i (by have := HH.out.2.2.2.2.2; omega)
         by_cases hc1 : n ≤ most
         · have d1 : decide ((n : Int) ≤ (most : Int)) = true := by simp; omega
           have d2 : decide (n ≤ most) = true := by simp; omega
           by_cases hc2 : nq ≤ most
           · have d3 : decide ((nq : Int) ≤ (most : Int)) = true := by simp; omega
             have d4 : decide (nq ≤ most) = true := by simp; omega
             have HC := Lib.hid (And.intro hc1 hc2)
             clear hc1 hc2
             go_wp2
             go_ret
             exact ⟨true, by simp_all, fun _ => ⟨HALL.out, HALQ.out, by rw [← HH.out.2.2.2.2.1]; exact HC.out.1, by rw [← HH.out.2.2.2.2.2]; exact HC.out.2⟩, HJ.out.1⟩
           · have d3 : decide ((nq : Int) ≤ (most : Int)) = false := by simp; omega
             have d4 : decide (nq ≤ most) = false := by simp; omega
             clear hc1 hc2
             go_wp2
             go_ret
             exact ⟨false, by simp_all, (fun e => by cases e), HJ.out.1⟩
         · have d1 : decide ((n : Int) ≤ (most : Int)) = false := by simp; omega
           have d2 : decide (n ≤ most) = false := by simp; omega
           clear hc1
           go_wp2
           go_ret
           exact ⟨false, by simp_all, (fun e => by cases e), HJ.out.1⟩
end Go.Proofs.Ytniaijgejljjbaa.Tlv
