/- A reader's Number, Flag. -/
import Derived.Test.YtcjiofhjognklaaGreatV04
import Derived.Test.YtcjiofhjognklaaGreatV25
import Derived.Test.YtcjiofhjognklaaGreatV26
namespace Go.Proofs.YtcjiofhjognklaaGreat.Tlv
open Go.RowKit
set_option maxRecDepth 100000
set_option linter.unusedVariables false
set_option linter.unusedSimpArgs false
theorem u64_or_nat (a b : Nat) (ha : a < 18446744073709551616) (hb : b < 18446744073709551616) : bits .or .u64 (a : Int) (b : Int) = ((a ||| b : Nat) : Int) := by
 have hx : a ||| b < 2 ^ 64 := Nat.or_lt_two_pow ha hb
 show IntKind.u64.wrap ((BitVec.ofInt 64 (a : Int) ||| BitVec.ofInt 64 (b : Int)).toNat : Int) = _
 rw [BitVec.toNat_or, ofInt_u64 a (by omega), ofInt_u64 b (by omega)]
 exact IntWalk.u64_in _ (by omega)
theorem shl_or (n b : Int) (h0 : 0 ≤ n) (h1 : n < 72057594037927936) (hb0 : 0 ≤ b) (hb1 : b ≤ 255) : bits .or .u64 (n * 256) b = 256 * n + b := by
 obtain ⟨k, rfl⟩ := Int.eq_ofNat_of_zero_le h0
 obtain ⟨c, rfl⟩ := Int.eq_ofNat_of_zero_le hb0
 rw [show (k : Int) * 256 = ((2 ^ 8 * k : Nat) : Int) from by omega, u64_or_nat _ _ (by omega) (by omega), ← Nat.two_pow_add_eq_or_of_lt (by omega)]
 omega
def numOf (v : List Int) : Int := v.foldl (fun n b => 256 * n + b) 0
theorem numOf_be8 {n : Int} (h0 : 0 ≤ n) (h1 : n < 18446744073709551616) : numOf (be8 n) = n := by
 simp only [numOf, be8, List.foldl_cons, List.foldl_nil]
 omega
theorem numOf_snoc {v : List Int} {k : Nat} (hk : k < v.length) : numOf (v.take (k + 1)) = 256 * numOf (v.take k) + v.getD k 0 := by
 unfold numOf
 rw [List.take_add_one, List.getElem?_eq_getElem hk, List.foldl_append, List.getD_eq_getElem?_getD, List.getElem?_eq_getElem hk]
 rfl
theorem numOf_lt {v : List Int} (hb : Byt v) : ∀ k, k ≤ v.length → 0 ≤ numOf (v.take k) ∧ numOf (v.take k) < ((256 ^ k : Nat) : Int) := by
 intro k
 induction k with
 | zero => intro _; simp [numOf]
 | succ k ih =>
   intro hk
   have := ih (by omega)
   have hx := hb.at k
   rw [numOf_snoc (by omega), Nat.pow_succ]
   omega
set_option maxHeartbeats 4000000 in
theorem number_r (D g : Nat) (f : Bool) (r : List Int) (tag : Int) (w : World) (hs : RS w D g f r) :
   Calls Tryz.prog 101 #[.pointer (some ⟨g, 0, none⟩), .int .u8 tag] w fun e w' => ∃ n f' r', e = .returned (.int .u64 n) ∧ RS w' D g f' r' ∧ w.grownBy w' (some g) ∧
     ((∃ v, (tk f r tag).1 = some v ∧ v.length = 8 ∧ n = numOf v ∧ f' = (tk f r tag).2.1 ∧ r' = (tk f r tag).2.2) ∨ (f' = true ∧ n = 0 ∧ r' = (tk f r tag).2.2 ∧ ¬ ∃ v, (tk f r tag).1 = some v ∧ v.length = 8)) := by
 have ht := Lib.hid (take_any D g f r tag w hs)
 have hbyt : Hid (∀ v, (tk f r tag).1 = some v → Byt v) := Lib.hid fun v h => by
   obtain ⟨h1, h2, h3, h4, h5⟩ := tk_some (f' := (tk f r tag).2.1) (r' := (tk f r tag).2.2) hs.byt (by rw [← h])
   exact fun x hx => hs.byt x (by rw [h4]; simp [valB, hx])
 have hno : Hid ((tk f r tag).1 = none → (tk f r tag).2.1 = true) := Lib.hid fun h => (tk_none (f' := (tk f r tag).2.1) (r' := (tk f r tag).2.2) (by rw [← h])).1
 generalize tk f r tag = t at *
 obtain ⟨v0, f0, r0⟩ := t
 clear hs
 go_enter Tryz.func101, Tryz.ntmps101
 go_wp2_with fail
 refine ht.out.mono ?_
 clear ht
 rintro e w1 ⟨h, hrs, hg⟩
 have HRS := Lib.hid (And.intro hrs hg)
 clear hrs hg
 rcases h with ⟨v, A1, rfl, rfl, hr⟩ | ⟨rfl, rfl⟩
 · have hby := hbyt.out v rfl
   by_cases h8 : v.length = 8
   · go_wp2_with fail
     go_loopw [7, 26] (fun n i wr => ∃ k : Nat, n = .int .u64 (numOf (v.take k)) ∧ i = .int .i64 k ∧ k ≤ 8 ∧ wr = w1) (fun _ i _ => 8 - (intOf i).toNat)
     case atStart => exact ⟨0, rfl, rfl, by omega, rfl⟩
     case round =>
       obtain ⟨k, rfl, rfl, hk, rfl⟩ := hrel
       by_cases hlt : k < 8
       · obtain ⟨b, off, rfl, hb, hc⟩ := hr (by omega)
         have ck := hc k (by omega)
         have hx := hby.at k
         have hn := numOf_lt hby k (by omega)
         have hn2 : numOf (v.take k) < 72057594037927936 := by
           have h7 : 256 ^ k ≤ 72057594037927936 := Nat.le_trans (Nat.pow_le_pow_right (show 0 < 256 by omega) (show k ≤ 7 by omega)) (by decide)
           have := hn.2
           omega
         have HS := Lib.hid (numOf_snoc (v := v) (k := k) (by omega))
         have hn0 := hn.1
         obtain ⟨hx0, hx1⟩ := hx
         have hor := shl_or (numOf (v.take k)) (v.getD k 0) hn0 hn2 hx0 hx1
         clear hc hn
         generalize numOf (v.take k) = N at *
         generalize v.getD k 0 = bk at *
         go_wp2_with fail
         exact ⟨⟨k + 1, by rw [HS.out], by go_num, by omega, trivial⟩, by simp [intOf]; omega⟩
       · have : k = 8 := by omega
         subst this
         have HT : Hid (v.take 8 = v) := Lib.hid (List.take_of_length_le (by omega))
         rw [HT.out]
         clear hr hby
         go_wp2_with fail
         go_ret
         exact ⟨_, f0, r0, rfl, HRS.out.1, HRS.out.2, .inl ⟨v, rfl, h8, rfl, rfl, rfl⟩⟩
   · have hf := Lib.hid (fail_any D g f0 r0 w1 HRS.out.1)
     have h8' : ((v.length : Int) == 8) = false := by simp; omega
     have H8 := Lib.hid h8
     clear hr hby h8
     go_wp2_with fail
     refine hf.out.mono ?_
     rintro e w2 ⟨⟨vv, rfl⟩, h1, h2⟩
     go_wp2_with fail
     go_ret
     exact ⟨0, true, r0, rfl, h1, grownBy_trans HRS.out.2 h2, .inr ⟨rfl, rfl, rfl, fun ⟨v', e1, e2⟩ => H8.out (by injection e1 with e1; rw [e1]; exact e2)⟩⟩
 · have hf0 := hno.out rfl
   subst hf0
   go_wp2_with fail
   refine wp_loop_rounds 1 ?_
   rw [rounds_succ]
   go_wp2_with fail
   go_ret
   exact ⟨0, true, r0, rfl, HRS.out.1, HRS.out.2, .inr ⟨rfl, rfl, rfl, fun ⟨v', e1, e2⟩ => by cases e1⟩⟩
theorem tk_bytS {f : Bool} {r v : List Int} {tag : Int} {q : Bool × List Int} (hb : Byt r) (h : tk f r tag = (some v, q)) : Byt v := by
 obtain ⟨q1, q2⟩ := q
 obtain ⟨_, _, _, h4, _⟩ := tk_some hb h
 exact fun x hx => hb x (by rw [h4]; simp [valB, hx])
theorem q1 (N M R : Int) (h : N = 256 * M + R) (h0 : 0 ≤ R) (h1 : R < 256) : N / 256 = M := by omega
theorem q2 (N M R : Int) (h : N = 65536 * M + R) (h0 : 0 ≤ R) (h1 : R < 65536) : N / 65536 = M := by omega
theorem q3 (N M R : Int) (h : N = 16777216 * M + R) (h0 : 0 ≤ R) (h1 : R < 16777216) : N / 16777216 = M := by omega
theorem q4 (N M R : Int) (h : N = 4294967296 * M + R) (h0 : 0 ≤ R) (h1 : R < 4294967296) : N / 4294967296 = M := by omega
theorem q5 (N M R : Int) (h : N = 1099511627776 * M + R) (h0 : 0 ≤ R) (h1 : R < 1099511627776) : N / 1099511627776 = M := by omega
theorem q6 (N M R : Int) (h : N = 281474976710656 * M + R) (h0 : 0 ≤ R) (h1 : R < 281474976710656) : N / 281474976710656 = M := by omega
theorem q7 (N M R : Int) (h : N = 72057594037927936 * M + R) (h0 : 0 ≤ R) (h1 : R < 72057594037927936) : N / 72057594037927936 = M := by omega
theorem qm (M x : Int) (h0 : 0 ≤ x) (h1 : x ≤ 255) : (256 * M + x) % 256 = x := by omega
theorem be8_numOf {v : List Int} (hb : Byt v) (h : v.length = 8) : be8 (numOf v) = v := by
 match v, h with
 | [a, b, c, d, e, f, g, i], _ =>
   obtain ⟨la, ua⟩ := hb a (by simp)
   obtain ⟨lb, ub⟩ := hb b (by simp)
   obtain ⟨lc, uc⟩ := hb c (by simp)
   obtain ⟨ld, ud⟩ := hb d (by simp)
   obtain ⟨le, ue⟩ := hb e (by simp)
   obtain ⟨lf, uf⟩ := hb f (by simp)
   obtain ⟨lg, ug⟩ := hb g (by simp)
   obtain ⟨li, ui⟩ := hb i (by simp)
   clear hb
   simp only [numOf, be8, List.foldl_cons, List.foldl_nil]
   have e1 := q7 (256 * (256 * (256 * (256 * (256 * (256 * (256 * (256 * 0 + a) + b) + c) + d) + e) + f) + g) + i) a (281474976710656 * b + 1099511627776 * c + 4294967296 * d + 16777216 * e + 65536 * f + 256 * g + i) (by omega) (by omega) (by omega)
   have e2 := q6 (256 * (256 * (256 * (256 * (256 * (256 * (256 * (256 * 0 + a) + b) + c) + d) + e) + f) + g) + i) (256 * a + b) (1099511627776 * c + 4294967296 * d + 16777216 * e + 65536 * f + 256 * g + i) (by omega) (by omega) (by omega)
   have e3 := q5 (256 * (256 * (256 * (256 * (256 * (256 * (256 * (256 * 0 + a) + b) + c) + d) + e) + f) + g) + i) (256 * (256 * a + b) + c) (4294967296 * d + 16777216 * e + 65536 * f + 256 * g + i) (by omega) (by omega) (by omega)
   have e4 := q4 (256 * (256 * (256 * (256 * (256 * (256 * (256 * (256 * 0 + a) + b) + c) + d) + e) + f) + g) + i) (256 * (256 * (256 * a + b) + c) + d) (16777216 * e + 65536 * f + 256 * g + i) (by omega) (by omega) (by omega)
   have e5 := q3 (256 * (256 * (256 * (256 * (256 * (256 * (256 * (256 * 0 + a) + b) + c) + d) + e) + f) + g) + i) (256 * (256 * (256 * (256 * a + b) + c) + d) + e) (65536 * f + 256 * g + i) (by omega) (by omega) (by omega)
   have e6 := q2 (256 * (256 * (256 * (256 * (256 * (256 * (256 * (256 * 0 + a) + b) + c) + d) + e) + f) + g) + i) (256 * (256 * (256 * (256 * (256 * a + b) + c) + d) + e) + f) (256 * g + i) (by omega) (by omega) (by omega)
   have e7 := q1 (256 * (256 * (256 * (256 * (256 * (256 * (256 * (256 * 0 + a) + b) + c) + d) + e) + f) + g) + i) (256 * (256 * (256 * (256 * (256 * (256 * a + b) + c) + d) + e) + f) + g) i (by omega) (by omega) (by omega)
   rw [e1, e2, e3, e4, e5, e6, e7, qm _ b lb ub, qm _ c lc uc, qm _ d ld ud, qm _ e le ue, qm _ f lf uf, qm _ g lg ug, qm _ i li ui]
def Took {α : Type} (P : α → List Int) (G : α → Prop) (f : Bool) (r : List Int) (a : α) (f' : Bool) (r' : List Int) : Prop :=
 (f' = false → f = false ∧ r = P a ++ r' ∧ G a) ∧ (f = false → ∀ a0 r1, G a0 → r = P a0 ++ r1 → a = a0 ∧ f' = false ∧ r' = r1)
abbrev SmB (v : List Int) : Prop := v.length ≤ 4194304 ∧ Byt v
abbrev SmT (s : List UInt8) : Prop := s.length ≤ 4194304
abbrev SmN (m n : Int) : Prop := 0 ≤ n ∧ n ≤ m
theorem took_bytes {f : Bool} {r : List Int} {tag : Int} (hb : Byt r) (ht : tag ≠ 0) : Took (valB tag) SmB f r ((tk f r tag).1.getD []) (tk f r tag).2.1 (tk f r tag).2.2 := by
 refine ⟨fun h => ?_, fun h a0 r1 hg e => ?_⟩
 · cases htk : tk f r tag with
   | mk o q =>
     obtain ⟨q1, q2⟩ := q
     rw [htk] at h
     cases o with
     | none => have := (tk_none htk).1; simp only at h; rw [this] at h; cases h
     | some v =>
       obtain ⟨h1, h2, _, h4, h5⟩ := tk_some hb htk
       exact ⟨h1, h4, h5, tk_bytS hb htk⟩
 · subst h e
   rw [tk_put ht hg.1]
   exact ⟨rfl, rfl, rfl⟩
theorem took_text {f : Bool} {r : List Int} {tag : Int} (hb : Byt r) (ht : tag ≠ 0) : Took (txtB tag) SmT f r (u8s ((tk f r tag).1.getD [])) (tk f r tag).2.1 (tk f r tag).2.2 := by
 have h := took_bytes (f := f) hb ht
 refine ⟨fun h0 => ?_, fun h0 a0 r1 hg e => ?_⟩
 · obtain ⟨h1, h2, h3, h4⟩ := h.1 h0
   have e := bytes_u8s h4
   refine ⟨h1, by rw [txtB, e]; exact h2, ?_⟩
   have := bytes_sx (u8s ((tk f r tag).1.getD []))
   rw [e] at this
   show _ ≤ _
   omega
 · obtain ⟨h1, h2, h3⟩ := h.2 h0 (bytesOf (sx a0)) r1 ⟨by rw [bytes_sx]; exact hg, byt_bytesOf _⟩ e
   exact ⟨by rw [h1, u8s_bytes], h2, h3⟩
theorem numOf_lt8 {v : List Int} (hb : Byt v) (h : v.length = 8) : 0 ≤ numOf v ∧ numOf v ≤ 18446744073709551615 := by
 have := numOf_lt hb 8 (by omega)
 rw [List.take_of_length_le (by omega)] at this
 have e : ((256 ^ 8 : Nat) : Int) = 18446744073709551616 := by decide
 rw [e] at this
 omega
def NumOut (t : Option (List Int) × Bool × List Int) (n : Int) (f' : Bool) (r' : List Int) : Prop :=
 (∃ v, t.1 = some v ∧ v.length = 8 ∧ n = numOf v ∧ f' = t.2.1 ∧ r' = t.2.2) ∨ (f' = true ∧ n = 0 ∧ r' = t.2.2 ∧ ¬ ∃ v, t.1 = some v ∧ v.length = 8)
theorem took_num {f f' : Bool} {r r' : List Int} {tag n : Int} (hb : Byt r) (ht : tag ≠ 0) (h : NumOut (tk f r tag) n f' r') : Took (numB tag) (SmN 18446744073709551615) f r n f' r' := by
 refine ⟨fun h0 => ?_, fun h0 a0 r1 hg e => ?_⟩
 · rcases h with ⟨v, e1, e2, e3, e4, e5⟩ | ⟨e1, _⟩
   · cases htk : tk f r tag with
     | mk o q =>
       obtain ⟨q1, q2⟩ := q
       rw [htk] at e1 e4 e5
       simp only at e1 e4 e5
       subst e1
       obtain ⟨h1, h2, _, h4, h5⟩ := tk_some hb htk
       have hv := tk_bytS hb htk
       refine ⟨h1, ?_, ?_⟩
       · rw [e3, numB, be8_numOf hv e2, e5]
         exact h4
       · rw [e3]
         exact numOf_lt8 hv e2
   · rw [h0] at e1; cases e1
 · subst h0 e
   rcases h with ⟨v, e1, e2, e3, e4, e5⟩ | ⟨e1, e2⟩
   · rw [tk_put ht (by simp [be8])] at e1 e4 e5
     simp only [Option.some.injEq] at e1 e4 e5
     subst e1
     exact ⟨by rw [e3, numOf_be8 hg.1 (by have := hg.2; omega)], e4, e5⟩
   · exact (e2.2.2 ⟨be8 a0, by rw [tk_put ht (by simp [be8])], rfl⟩).elim
def numV (t : Option (List Int) × Bool × List Int) : Int × Bool × List Int := if t.1.isSome = true ∧ (t.1.getD []).length = 8 then (numOf (t.1.getD []), t.2.1, t.2.2) else (0, true, t.2.2)
theorem NumOut.is {t : Option (List Int) × Bool × List Int} {n : Int} {f' : Bool} {r' : List Int} (h : NumOut t n f' r') : n = (numV t).1 ∧ f' = (numV t).2.1 ∧ r' = (numV t).2.2 := by
 unfold numV
 rcases h with ⟨v, e1, e2, e3, e4, e5⟩ | ⟨e1, e2, e3, e4⟩
 · rw [if_pos (by rw [e1]; exact ⟨rfl, e2⟩), e1]
   exact ⟨e3, e4, e5⟩
 · rw [if_neg]
   · exact ⟨e2, e1, e3⟩
   · rintro ⟨h1, h2⟩
     obtain ⟨v, hv⟩ := Option.isSome_iff_exists.1 h1
     exact e4 ⟨v, hv, by rw [hv] at h2; exact h2⟩
theorem num_out (t : Option (List Int) × Bool × List Int) : NumOut t (numV t).1 (numV t).2.1 (numV t).2.2 := by
 unfold numV
 split
 · rename_i h
   obtain ⟨v, hv⟩ := Option.isSome_iff_exists.1 h.1
   have h2 := h.2
   rw [hv] at h2 ⊢
   exact .inl ⟨v, hv, h2, rfl, rfl, rfl⟩
 · rename_i h
   exact .inr ⟨rfl, rfl, rfl, fun ⟨v, h1, h2⟩ => h (by rw [h1]; exact ⟨rfl, h2⟩)⟩
def smallV (m : Int) (t : Option (List Int) × Bool × List Int) : Int × Bool × List Int := if m < (numV t).1 then (0, true, (numV t).2.2) else numV t
theorem numV_range {f : Bool} {r : List Int} {tag : Int} (hb : Byt r) : 0 ≤ (numV (tk f r tag)).1 ∧ (numV (tk f r tag)).1 ≤ 18446744073709551615 := by
 unfold numV
 split
 · rename_i h
   refine numOf_lt8 ?_ h.2
   obtain ⟨v, hv⟩ := Option.isSome_iff_exists.1 h.1
   rw [hv]
   cases htk : tk f r tag with
   | mk o q =>
     rw [htk] at hv
     simp only at hv
     subst hv
     exact tk_bytS hb htk
 · show (0 : Int) ≤ 0 ∧ (0 : Int) ≤ 18446744073709551615
   decide
theorem took_small {f f' : Bool} {r r' : List Int} {tag n m : Int} (hm : m ≤ 18446744073709551615) (h : Took (numB tag) (SmN 18446744073709551615) f r n f' r') (hn : n ≤ m) : Took (numB tag) (SmN m) f r n f' r' :=
 ⟨fun h0 => by obtain ⟨h1, h2, h3⟩ := h.1 h0; exact ⟨h1, h2, h3.1, hn⟩, fun h0 a0 r1 hg e => h.2 h0 a0 r1 ⟨hg.1, by have := hg.2; omega⟩ e⟩
theorem took_over {f f' : Bool} {r r' : List Int} {tag n m : Int} (hm : m ≤ 18446744073709551615) (h : Took (numB tag) (SmN 18446744073709551615) f r n f' r') (hn : m < n) : Took (numB tag) (SmN m) f r 0 true r' :=
 ⟨fun h0 => by (cases h0), fun h0 a0 r1 hg e => by
   obtain ⟨h1, _⟩ := h.2 h0 a0 r1 ⟨hg.1, by have := hg.2; omega⟩ e
   have := hg.2
   omega⟩
theorem took_numV {f : Bool} {r : List Int} {tag : Int} (hb : Byt r) (ht : tag ≠ 0) : Took (numB tag) (SmN 18446744073709551615) f r (numV (tk f r tag)).1 (numV (tk f r tag)).2.1 (numV (tk f r tag)).2.2 := took_num hb ht (num_out _)
theorem took_smallV {f : Bool} {r : List Int} {tag m : Int} (hb : Byt r) (ht : tag ≠ 0) (hm : m ≤ 18446744073709551615) : Took (numB tag) (SmN m) f r (smallV m (tk f r tag)).1 (smallV m (tk f r tag)).2.1 (smallV m (tk f r tag)).2.2 := by
 have h := took_numV (f := f) hb ht
 unfold smallV
 split
 · rename_i hc
   exact took_over hm h hc
 · rename_i hc
   exact took_small hm h (by omega)
theorem Took.fail {α : Type} {P : α → List Int} {G : α → Prop} {r r' : List Int} {a : α} {f' : Bool} (h : Took P G true r a f' r') : f' = true := by
 cases f' with
 | true => rfl
 | false => have := (h.1 rfl).1; cases this
abbrev SmL (l : List At) : Prop := (∀ a ∈ l, SmA a) ∧ (atsB l).length ≤ 4194304
abbrev SmP (l : List (List UInt8)) : Prop := (∀ s ∈ l, s.length ≤ 4194304) ∧ (partsB l).length ≤ 4194304
abbrev opA (k : Int) (nm : List UInt8) (l : List At) : Opn := ⟨k, nm, [], l, [], [], 0⟩
abbrev opR (k : Int) (nm ds : List UInt8) : Opn := ⟨k, nm, ds, [], [], [], 0⟩
abbrev opN (k : Int) (nm : List UInt8) : Opn := ⟨k, nm, [], [], [], [], 0⟩
abbrev opP (k : Int) (p : List (List UInt8)) (c : List Int) (n : Int) : Opn := ⟨k, [], [], [], p, c, n⟩
abbrev opG (k : Int) (c : List Int) (n : Int) : Opn := ⟨k, [], [], [], [], c, n⟩
theorem may_parts {o : Opn} (h : mayO o = true) : isK o.k = true ∧ mayText (fN o.k) o.name = true ∧ mayText (fT o.k) o.dst = true ∧ mayAt o.k o.attrs = true ∧ mayPt (fP o.k) o.parts = true ∧ mayPg (fG o.k) o.cur o.n = true := by
 unfold mayO at h
 simpa only [Bool.and_eq_true] using h
theorem text_no {s : List UInt8} (h : mayText false s = true) : s = [] := by
 unfold mayText at h
 simp only [Bool.and_eq_true, Bool.false_or] at h
 exact of_decide_eq_true h.2
theorem parts_no {l : List (List UInt8)} (h : mayPt false l = true) : l = [] := by
 unfold mayPt at h
 simpa using h
theorem page_no {c : List Int} {n : Int} (h : mayPg false c n = true) : c = [] ∧ n = 0 := by
 unfold mayPg at h
 simpa using h
theorem attrs_no {k : Int} {l : List At} (h : mayAt k l = true) (h1 : k ≠ 1) (h3 : k ≠ 3) (h5 : k ≠ 5) : l = [] := by
 unfold mayAt at h
 rw [if_neg h1, if_neg h3, if_neg h5] at h
 simpa using h
theorem fA_is {k : Int} (h : fA k = true) : k = 1 ∨ k = 3 ∨ k = 5 := by unfold fA at h; simp at h; omega
theorem bare_A {o : Opn} (h : mayO o = true) (hk : fA o.k = true) : o = opA o.k o.name o.attrs := by
 obtain ⟨_, h1, h2, h3, h4, h5⟩ := may_parts h
 obtain ⟨k, a, b, c, d, e, n⟩ := o
 simp only at hk h1 h2 h3 h4 h5 ⊢
 rcases fA_is hk with rfl | rfl | rfl <;> (rw [text_no h2, parts_no h4]; obtain ⟨rfl, rfl⟩ := page_no h5; rfl)
theorem bare_R {o : Opn} (h : mayO o = true) (hk : o.k = 4) : o = opR 4 o.name o.dst := by
 obtain ⟨_, h1, h2, h3, h4, h5⟩ := may_parts h
 obtain ⟨k, a, b, c, d, e, n⟩ := o
 simp only at hk h1 h2 h3 h4 h5 ⊢
 subst hk
 rw [attrs_no h3 (by decide) (by decide) (by decide), parts_no h4]; obtain ⟨rfl, rfl⟩ := page_no h5; rfl
theorem bare_N {o : Opn} (h : mayO o = true) (hk : o.k = 2 ∨ o.k = 6) : o = opN o.k o.name := by
 obtain ⟨_, h1, h2, h3, h4, h5⟩ := may_parts h
 obtain ⟨k, a, b, c, d, e, n⟩ := o
 simp only at hk h1 h2 h3 h4 h5 ⊢
 rcases hk with rfl | rfl <;> (rw [attrs_no h3 (by decide) (by decide) (by decide), parts_no h4, text_no h2]; obtain ⟨rfl, rfl⟩ := page_no h5; rfl)
theorem bare_P {o : Opn} (h : mayO o = true) (hk : o.k = 7) : o = opP 7 o.parts o.cur o.n := by
 obtain ⟨_, h1, h2, h3, h4, h5⟩ := may_parts h
 obtain ⟨k, a, b, c, d, e, n⟩ := o
 simp only at hk h1 h2 h3 h4 h5 ⊢
 subst hk
 rw [attrs_no h3 (by decide) (by decide) (by decide), text_no h1, text_no h2]
theorem bare_G {o : Opn} (h : mayO o = true) (hk : o.k = 8) : o = opG 8 o.cur o.n := by
 obtain ⟨_, h1, h2, h3, h4, h5⟩ := may_parts h
 obtain ⟨k, a, b, c, d, e, n⟩ := o
 simp only at hk h1 h2 h3 h4 h5 ⊢
 subst hk
 rw [attrs_no h3 (by decide) (by decide) (by decide), text_no h1, text_no h2, parts_no h4]
structure MayG (o : Opn) : Prop where
 k : SmN 8 o.k
 k1 : 1 ≤ o.k
 nm : SmT o.name
 ds : SmT o.dst
 la : SmL o.attrs
 lp : SmP o.parts
 cl : o.cur.length ≤ 4194304
 n : SmN 1000 o.n
theorem isK_le {k : Int} (h : isK k = true) : 1 ≤ k ∧ k ≤ 8 := by
 rcases kinds k with rfl | rfl | rfl | rfl | rfl | rfl | rfl | rfl | h2
 any_goals omega
 rw [h] at h2; cases h2
theorem mayG {o : Opn} (h : mayO o = true) : MayG o := by
 have d := mayD h
 obtain ⟨k1, k2⟩ := isK_le d.k
 have hf := d.few
 have hl := atsB_few hf
 refine ⟨⟨by omega, k2⟩, k1, ?_, ?_, ⟨fun a ha => ?_, by omega⟩, ⟨fun s hs => ?_, ?_⟩, by have := d.cl; omega, d.n0, d.n1⟩
 · have := d.nm; show _ ≤ _; omega
 · have := d.ds; show _ ≤ _; omega
 · have := mayA_len (d.aa a ha)
   unfold SmA
   omega
 · have := d.psl s hs; omega
 · have := partsB_len o.parts d.psl
   have := d.pl
   omega
end Go.Proofs.YtcjiofhjognklaaGreat.Tlv
