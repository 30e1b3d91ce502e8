/- A reader's Number, Flag. -/
import Derived.Test.YtcjiofhjognklaaGreatY06
namespace Go.Proofs.YtcjiofhjognklaaGreat.Tlv
open Go.RowKit
set_option maxRecDepth 100000
set_option linter.unusedVariables false
set_option linter.unusedSimpArgs false
theorem u64_or_nat (a b : Nat) (ha : a < 18446744073709551616) (hb : b < 18446744073709551616) : bits .or .u64 (a : Int) (b : Int) = ((a ||| b : Nat) : Int) := by
 have hx : a ||| b < 2 ^ 64 := Nat.or_lt_two_pow ha hb
 show IntKind.u64.wrap ((BitVec.ofInt 64 (a : Int) ||| BitVec.ofInt 64 (b : Int)).toNat : Int) = _
 rw [BitVec.toNat_or, ofInt_u64 a (by omega), ofInt_u64 b (by omega)]
 exact IntWalk.u64_in _ (by omega)
theorem shl_or (n b : Int) (h0 : 0 ≤ n) (h1 : n < 72057594037927936) (hb0 : 0 ≤ b) (hb1 : b ≤ 255) : bits .or .u64 (n * 256) b = 256 * n + b := by
 obtain ⟨k, rfl⟩ := Int.eq_ofNat_of_zero_le h0
 obtain ⟨c, rfl⟩ := Int.eq_ofNat_of_zero_le hb0
 rw [show (k : Int) * 256 = ((2 ^ 8 * k : Nat) : Int) from by omega, u64_or_nat _ _ (by omega) (by omega), ← Nat.two_pow_add_eq_or_of_lt (by omega)]
 omega
def numOf (v : List Int) : Int := v.foldl (fun n b => 256 * n + b) 0
theorem numOf_be8 {n : Int} (h0 : 0 ≤ n) (h1 : n < 18446744073709551616) : numOf (be8 n) = n := by
 simp only [numOf, be8, List.foldl_cons, List.foldl_nil]
 omega
theorem numOf_snoc {v : List Int} {k : Nat} (hk : k < v.length) : numOf (v.take (k + 1)) = 256 * numOf (v.take k) + v.getD k 0 := by
 unfold numOf
 rw [List.take_add_one, List.getElem?_eq_getElem hk, List.foldl_append, List.getD_eq_getElem?_getD, List.getElem?_eq_getElem hk]
 rfl
theorem numOf_lt {v : List Int} (hb : Byt v) : ∀ k, k ≤ v.length → 0 ≤ numOf (v.take k) ∧ numOf (v.take k) < ((256 ^ k : Nat) : Int) := by
 intro k
 induction k with
 | zero => intro _; simp [numOf]
 | succ k ih =>
   intro hk
   have := ih (by omega)
   have hx := hb.at k
   rw [numOf_snoc (by omega), Nat.pow_succ]
   omega
set_option maxHeartbeats 4000000 in
theorem number_r (D g : Nat) (f : Bool) (r : List Int) (tag : Int) (w : World) (hs : RS w D g f r) :
   Calls Tryz.prog 101 #[.pointer (some ⟨g, 0, none⟩), .int .u8 tag] w fun e w' => ∃ n f' r', e = .returned (.int .u64 n) ∧ RS w' D g f' r' ∧ w.grownBy w' (some g) ∧
     ((∃ v, (tk f r tag).1 = some v ∧ v.length = 8 ∧ n = numOf v ∧ f' = (tk f r tag).2.1 ∧ r' = (tk f r tag).2.2) ∨ (f' = true ∧ n = 0 ∧ r' = (tk f r tag).2.2 ∧ ¬ ∃ v, (tk f r tag).1 = some v ∧ v.length = 8)) := by
 have ht := Lib.hid (take_any D g f r tag w hs)
 have hbyt : Hid (∀ v, (tk f r tag).1 = some v → Byt v) := Lib.hid fun v h => by
   obtain ⟨h1, h2, h3, h4, h5⟩ := tk_some (f' := (tk f r tag).2.1) (r' := (tk f r tag).2.2) hs.byt (by rw [← h])
   exact fun x hx => hs.byt x (by rw [h4]; simp [valB, hx])
 have hno : Hid ((tk f r tag).1 = none → (tk f r tag).2.1 = true) := Lib.hid fun h => (tk_none (f' := (tk f r tag).2.1) (r' := (tk f r tag).2.2) (by rw [← h])).1
 generalize tk f r tag = t at *
 obtain ⟨v0, f0, r0⟩ := t
 clear hs
 go_enter Tryz.func101, Tryz.ntmps101
 go_wp2_with fail
 refine ht.out.mono ?_
 clear ht
 rintro e w1 ⟨h, hrs, hg⟩
 have HRS := Lib.hid (And.intro hrs hg)
 clear hrs hg
 rcases h with ⟨v, A1, rfl, rfl, hr⟩ | ⟨rfl, rfl⟩
 · have hby := hbyt.out v rfl
   by_cases h8 : v.length = 8
   · go_wp2_with fail
     go_loopw [7, 26] (fun n i wr => ∃ k : Nat, n = .int .u64 (numOf (v.take k)) ∧ i = .int .i64 k ∧ k ≤ 8 ∧ wr = w1) (fun _ i _ => 8 - (intOf i).toNat)
     case atStart => exact ⟨0, rfl, rfl, by omega, rfl⟩
     case round =>
       obtain ⟨k, rfl, rfl, hk, rfl⟩ := hrel
       by_cases hlt : k < 8
       · obtain ⟨b, off, rfl, hb, hc⟩ := hr (by omega)
         have ck := hc k (by omega)
         have hx := hby.at k
         have hn := numOf_lt hby k (by omega)
         have hn2 : numOf (v.take k) < 72057594037927936 := by
           have h7 : 256 ^ k ≤ 72057594037927936 := Nat.le_trans (Nat.pow_le_pow_right (show 0 < 256 by omega) (show k ≤ 7 by omega)) (by decide)
           have := hn.2
           omega
         have HS := Lib.hid (numOf_snoc (v := v) (k := k) (by omega))
         have hn0 := hn.1
         obtain ⟨hx0, hx1⟩ := hx
         have hor := shl_or (numOf (v.take k)) (v.getD k 0) hn0 hn2 hx0 hx1
         clear hc hn
         generalize numOf (v.take k) = N at *
         generalize v.getD k 0 = bk at *
         go_wp2_with fail
         exact ⟨⟨k + 1, by rw [HS.out], by go_num, by omega, trivial⟩, by simp [intOf]; omega⟩
       · have : k = 8 := by omega
         subst this
         have HT : Hid (v.take 8 = v) := Lib.hid (List.take_of_length_le (by omega))
         rw [HT.out]
         clear hr hby
         go_wp2_with fail
         go_ret
         exact ⟨_, f0, r0, rfl, HRS.out.1, HRS.out.2, .inl ⟨v, rfl, h8, rfl, rfl, rfl⟩⟩
   · have hf := Lib.hid (fail_any D g f0 r0 w1 HRS.out.1)
     have h8' : ((v.length : Int) == 8) = false := by simp; omega
     have H8 := Lib.hid h8
     clear hr hby h8
     go_wp2_with fail
     refine hf.out.mono ?_
     rintro e w2 ⟨⟨vv, rfl⟩, h1, h2⟩
     go_wp2_with fail
     go_ret
     exact ⟨0, true, r0, rfl, h1, grownBy_trans HRS.out.2 h2, .inr ⟨rfl, rfl, rfl, fun ⟨v', e1, e2⟩ => H8.out (by injection e1 with e1; rw [e1]; exact e2)⟩⟩
 · have hf0 := hno.out rfl
   subst hf0
   go_wp2_with fail
   refine wp_loop_rounds 1 ?_
   rw [rounds_succ]
   go_wp2_with fail
   go_ret
   exact ⟨0, true, r0, rfl, HRS.out.1, HRS.out.2, .inr ⟨rfl, rfl, rfl, fun ⟨v', e1, e2⟩ => by cases e1⟩⟩
set_option maxHeartbeats 4000000 in
theorem flag_r (D g : Nat) (f : Bool) (r : List Int) (tag : Int) (w : World) (hs : RS w D g f r) :
   Calls Tryz.prog 91 #[.pointer (some ⟨g, 0, none⟩), .int .u8 tag] w fun e w' => ∃ (n : Bool) (f' : Bool) (r' : List Int), e = .returned (.bool n) ∧ RS w' D g f' r' ∧ w.grownBy w' (some g) ∧
     ((∃ x : Int, (tk f r tag).1 = some [x] ∧ x ≤ 1 ∧ n = (x == 1) ∧ f' = (tk f r tag).2.1 ∧ r' = (tk f r tag).2.2) ∨ (f' = true ∧ n = false ∧ r' = (tk f r tag).2.2 ∧ ¬ ∃ x : Int, (tk f r tag).1 = some [x] ∧ x ≤ 1)) := by
 have ht := Lib.hid (take_any D g f r tag w hs)
 have hno : Hid ((tk f r tag).1 = none → (tk f r tag).2.1 = true) := Lib.hid fun h => (tk_none (f' := (tk f r tag).2.1) (r' := (tk f r tag).2.2) (by rw [← h])).1
 generalize tk f r tag = t at *
 obtain ⟨v0, f0, r0⟩ := t
 clear hs
 go_enter Tryz.func91, Tryz.ntmps91
 go_wp2_with fail
 refine ht.out.mono ?_
 clear ht
 rintro e w1 ⟨h, hrs, hg⟩
 have HRS := Lib.hid (And.intro hrs hg)
 clear hrs hg
 rcases h with ⟨v, A1, rfl, rfl, hr⟩ | ⟨rfl, rfl⟩
 · by_cases h8 : v.length = 1
   · obtain ⟨x, rfl⟩ := List.length_eq_one_iff.1 h8
     · obtain ⟨b, off, rfl, hb, hc⟩ := hr (by simp)
       have x0 := hc 0 (by simp)
       simp only [List.getD_cons_zero, Nat.add_zero] at x0
       clear hc hr
       by_cases hx : x ≤ 1
       · have hd : decide (1 < x) = false := by simp; omega
         have HX := Lib.hid hx
         clear hx
         go_wp2_with fail
         go_ret
         exact ⟨_, f0, r0, rfl, HRS.out.1, HRS.out.2, .inl ⟨x, rfl, HX.out, rfl, rfl, rfl⟩⟩
       · have hd : decide (1 < x) = true := by simp; omega
         have HX := Lib.hid hx
         have hf := Lib.hid (fail_any D g f0 r0 w1 HRS.out.1)
         clear hx
         go_wp2_with fail
         refine hf.out.mono ?_
         rintro e w2 ⟨⟨vv, rfl⟩, h1, h2⟩
         go_wp2_with fail
         go_ret
         exact ⟨false, true, r0, rfl, h1, grownBy_trans HRS.out.2 h2, .inr ⟨rfl, rfl, rfl, fun ⟨y, e1, e2⟩ => by simp at e1; have := HX.out; omega⟩⟩
   · have hf := Lib.hid (fail_any D g f0 r0 w1 HRS.out.1)
     have h8' : ((v.length : Int) == 1) = false := by simp; omega
     have h8'' : ((v.length : Int) != 1) = true := by simp; omega
     have h9 : decide ((v.length : Int) = 1) = false := by simp; omega
     have H8 := Lib.hid h8
     clear hr h8
     go_wp2_with fail
     refine hf.out.mono ?_
     rintro e w2 ⟨⟨vv, rfl⟩, h1, h2⟩
     go_wp2_with fail
     go_ret
     exact ⟨false, true, r0, rfl, h1, grownBy_trans HRS.out.2 h2, .inr ⟨rfl, rfl, rfl, fun ⟨y, e1, e2⟩ => H8.out (by injection e1 with e1; rw [e1]; rfl)⟩⟩
 · have hf0 := hno.out rfl
   subst hf0
   go_wp2_with fail
   go_ret
   exact ⟨false, true, r0, rfl, HRS.out.1, HRS.out.2, .inr ⟨rfl, rfl, rfl, fun ⟨v', e1, e2⟩ => by cases e1⟩⟩
theorem tk_bytS {f : Bool} {r v : List Int} {tag : Int} {q : Bool × List Int} (hb : Byt r) (h : tk f r tag = (some v, q)) : Byt v := by
 obtain ⟨q1, q2⟩ := q
 obtain ⟨_, _, _, h4, _⟩ := tk_some hb h
 exact fun x hx => hb x (by rw [h4]; simp [valB, hx])
theorem q1 (N M R : Int) (h : N = 256 * M + R) (h0 : 0 ≤ R) (h1 : R < 256) : N / 256 = M := by omega
theorem q2 (N M R : Int) (h : N = 65536 * M + R) (h0 : 0 ≤ R) (h1 : R < 65536) : N / 65536 = M := by omega
theorem q3 (N M R : Int) (h : N = 16777216 * M + R) (h0 : 0 ≤ R) (h1 : R < 16777216) : N / 16777216 = M := by omega
theorem q4 (N M R : Int) (h : N = 4294967296 * M + R) (h0 : 0 ≤ R) (h1 : R < 4294967296) : N / 4294967296 = M := by omega
theorem q5 (N M R : Int) (h : N = 1099511627776 * M + R) (h0 : 0 ≤ R) (h1 : R < 1099511627776) : N / 1099511627776 = M := by omega
theorem q6 (N M R : Int) (h : N = 281474976710656 * M + R) (h0 : 0 ≤ R) (h1 : R < 281474976710656) : N / 281474976710656 = M := by omega
theorem q7 (N M R : Int) (h : N = 72057594037927936 * M + R) (h0 : 0 ≤ R) (h1 : R < 72057594037927936) : N / 72057594037927936 = M := by omega
theorem qm (M x : Int) (h0 : 0 ≤ x) (h1 : x ≤ 255) : (256 * M + x) % 256 = x := by omega
theorem be8_numOf {v : List Int} (hb : Byt v) (h : v.length = 8) : be8 (numOf v) = v := by
 match v, h with
 | [a, b, c, d, e, f, g, i], _ =>
   obtain ⟨la, ua⟩ := hb a (by simp)
   obtain ⟨lb, ub⟩ := hb b (by simp)
   obtain ⟨lc, uc⟩ := hb c (by simp)
   obtain ⟨ld, ud⟩ := hb d (by simp)
   obtain ⟨le, ue⟩ := hb e (by simp)
   obtain ⟨lf, uf⟩ := hb f (by simp)
   obtain ⟨lg, ug⟩ := hb g (by simp)
   obtain ⟨li, ui⟩ := hb i (by simp)
   clear hb
   simp only [numOf, be8, List.foldl_cons, List.foldl_nil]
   have e1 := q7 (256 * (256 * (256 * (256 * (256 * (256 * (256 * (256 * 0 + a) + b) + c) + d) + e) + f) + g) + i) a (281474976710656 * b + 1099511627776 * c + 4294967296 * d + 16777216 * e + 65536 * f + 256 * g + i) (by omega) (by omega) (by omega)
   have e2 := q6 (256 * (256 * (256 * (256 * (256 * (256 * (256 * (256 * 0 + a) + b) + c) + d) + e) + f) + g) + i) (256 * a + b) (1099511627776 * c + 4294967296 * d + 16777216 * e + 65536 * f + 256 * g + i) (by omega) (by omega) (by omega)
   have e3 := q5 (256 * (256 * (256 * (256 * (256 * (256 * (256 * (256 * 0 + a) + b) + c) + d) + e) + f) + g) + i) (256 * (256 * a + b) + c) (4294967296 * d + 16777216 * e + 65536 * f + 256 * g + i) (by omega) (by omega) (by omega)
   have e4 := q4 (256 * (256 * (256 * (256 * (256 * (256 * (256 * (256 * 0 + a) + b) + c) + d) + e) + f) + g) + i) (256 * (256 * (256 * a + b) + c) + d) (16777216 * e + 65536 * f + 256 * g + i) (by omega) (by omega) (by omega)
   have e5 := q3 (256 * (256 * (256 * (256 * (256 * (256 * (256 * (256 * 0 + a) + b) + c) + d) + e) + f) + g) + i) (256 * (256 * (256 * (256 * a + b) + c) + d) + e) (65536 * f + 256 * g + i) (by omega) (by omega) (by omega)
   have e6 := q2 (256 * (256 * (256 * (256 * (256 * (256 * (256 * (256 * 0 + a) + b) + c) + d) + e) + f) + g) + i) (256 * (256 * (256 * (256 * (256 * a + b) + c) + d) + e) + f) (256 * g + i) (by omega) (by omega) (by omega)
   have e7 := q1 (256 * (256 * (256 * (256 * (256 * (256 * (256 * (256 * 0 + a) + b) + c) + d) + e) + f) + g) + i) (256 * (256 * (256 * (256 * (256 * (256 * a + b) + c) + d) + e) + f) + g) i (by omega) (by omega) (by omega)
   rw [e1, e2, e3, e4, e5, e6, e7, qm _ b lb ub, qm _ c lc uc, qm _ d ld ud, qm _ e le ue, qm _ f lf uf, qm _ g lg ug, qm _ i li ui]
end Go.Proofs.YtcjiofhjognklaaGreat.Tlv
