/- A reader's Number, Flag. -/
import Derived.Test.YtniaijgejljjbaaGreatY03
import Derived.Test.YtniaijgejljjbaaGreatY17
import Derived.Test.YtniaijgejljjbaaGreatY13
import Derived.Test.YtniaijgejljjbaaGreatY21
import Derived.Test.YtniaijgejljjbaaGreatY22
namespace Go.Proofs.YtniaijgejljjbaaGreat.Tlv
open Go.RowKit
set_option maxRecDepth 100000
set_option linter.unusedVariables false
set_option linter.unusedSimpArgs false
theorem q1 (N M R : Int) (h : N = 256 * M + R) (h0 : 0 ≤ R) (h1 : R < 256) : N / 256 = M := by omega
theorem q2 (N M R : Int) (h : N = 65536 * M + R) (h0 : 0 ≤ R) (h1 : R < 65536) : N / 65536 = M := by omega
theorem q3 (N M R : Int) (h : N = 16777216 * M + R) (h0 : 0 ≤ R) (h1 : R < 16777216) : N / 16777216 = M := by omega
theorem q4 (N M R : Int) (h : N = 4294967296 * M + R) (h0 : 0 ≤ R) (h1 : R < 4294967296) : N / 4294967296 = M := by omega
theorem q5 (N M R : Int) (h : N = 1099511627776 * M + R) (h0 : 0 ≤ R) (h1 : R < 1099511627776) : N / 1099511627776 = M := by omega
theorem q6 (N M R : Int) (h : N = 281474976710656 * M + R) (h0 : 0 ≤ R) (h1 : R < 281474976710656) : N / 281474976710656 = M := by omega
abbrev opA (k : Int) (nm : List UInt8) (l : List At) : Opn := ⟨k, nm, [], l, [], [], 0⟩
abbrev opR (k : Int) (nm ds : List UInt8) : Opn := ⟨k, nm, ds, [], [], [], 0⟩
abbrev opN (k : Int) (nm : List UInt8) : Opn := ⟨k, nm, [], [], [], [], 0⟩
abbrev opP (k : Int) (p : List (List UInt8)) (c : List Int) (n : Int) : Opn := ⟨k, [], [], [], p, c, n⟩
abbrev opG (k : Int) (c : List Int) (n : Int) : Opn := ⟨k, [], [], [], [], c, n⟩
end Go.Proofs.YtniaijgejljjbaaGreat.Tlv
namespace Go.Proofs.YtniaijgejljjbaaGreat.Tlv
open Go.RowKit
set_option maxRecDepth 100000
set_option linter.deprecated false
set_option linter.unusedVariables false
set_option linter.unusedSimpArgs false
section
variable {α : Type} {K : Kind α} {w w' w1 : World} {base n0 n1 a b : Nat} {v : Value} {l : List α}
theorem RowK.fitT (h : RowK K w base v l) (hk : ∀ g, v.ownBlock = some g → w'.heap[g]? = w.heap[g]?) : RowK K w' base v l := by
 refine ⟨h.1, ?_⟩
 rcases h.2 with h0 | ⟨g, cap, cur, hv, hg, hh, rest⟩
 · exact .inl h0
 · exact .inr ⟨g, cap, cur, hv, hg, (hk g (by rw [hv]; rfl)).trans hh, rest⟩
theorem own_atT (h : RowK K w base v l) {g : Nat} (e : v.ownBlock = some g) : base ≤ g ∧ g < w.heap.size ∧ ∃ cs, Blk w g K.e cs := by
 rcases h.2 with ⟨e2, _⟩ | ⟨g', cap, cur, e2, hg, hh, _⟩
 · rw [e2] at e; simp [Value.ownBlock] at e
 · rw [e2] at e
   have e3 : g' = g := by simpa [Value.ownBlock] using e
   subst e3
   exact ⟨hg, (Array.getElem?_eq_some_iff.1 hh).1, cur, hh⟩
theorem RowK.onT (h : RowK K w base v l) (hb : Below w.heap.size w w') : RowK K w' base v l := RowK.fitT h fun g e => hb.block g (own_atT h e).2.1
end
end Go.Proofs.YtniaijgejljjbaaGreat.Tlv
namespace Go.Proofs.YtniaijgejljjbaaGreat.Tlv
open Go.RowKit
set_option maxRecDepth 100000
set_option linter.unusedVariables false
set_option linter.unusedSimpArgs false
abbrev o0 (k : Int) : Opn := ⟨k, [], [], [], [], [], 0⟩
abbrev zCs : Array Value := #[.int .i64 0, .string ⟨#[]⟩, .string ⟨#[]⟩, .slice none 0 0, .slice none 0 0, .slice none 0 0, .int .i64 0]
theorem RowK.rdp {w : World} {base : Nat} {v : Value} {l : List (List UInt8)} (h : RowK kStr w base v l) : RdP w v l := by
 obtain ⟨A, c, e, h0, h1⟩ := h.rd0
 refine ⟨A, c, e, ⟨h0, ?_⟩, h1⟩
 rcases h.2 with ⟨e2, hn⟩ | ⟨g, cap, cur, e2, _, _, h5, h6, _⟩
 · rw [e] at e2
   injection e2 with e3 e4 e5
   unfold maxLen
   omega
 · rw [e] at e2
   injection e2 with e3 e4 e5
   subst e5
   exact ⟨h5, h6⟩
theorem RowK.rdc2 {w : World} {base : Nat} {v : Value} {l : List Int} (h : RowK kB w base v l) : RdC w v l := by
 obtain ⟨A, c, e, h0, h1⟩ := h.rd0
 refine ⟨A, c, e, ⟨h0, ?_⟩, k_rd h1⟩
 rcases h.2 with ⟨e2, hn⟩ | ⟨g, cap, cur, e2, _, _, h5, h6, _⟩
 · rw [e] at e2
   injection e2 with e3 e4 e5
   unfold maxLen
   omega
 · rw [e] at e2
   injection e2 with e3 e4 e5
   subst e5
   exact ⟨h5, h6⟩
theorem cv_fun2 : ∃ (cv : World → ByteArray → World) (ca : World → ByteArray → Addr) (cc : World → ByteArray → Nat), ∀ W s, (convert 9 42 (.string s)).run Tryz.prog W = .ok (.slice (some (ca W s)) (bytesOf s).length (cc W s)) (cv W s) ∧ (Rd (cv W s) (cv W s).heap.size (some (ca W s)) (bytesOf s) ∧ Below W.heap.size W (cv W s)) ∧ (ca W s).block = W.heap.size :=
 ⟨fun W s => Classical.choose (text_conv W s), fun W s => ⟨W.heap.size, 0, none⟩, fun W s => Classical.choose (Classical.choose_spec (text_conv W s)), fun W s => ⟨(Classical.choose_spec (Classical.choose_spec (text_conv W s))).1, (Classical.choose_spec (Classical.choose_spec (text_conv W s))).2, rfl⟩⟩
theorem rd_apart {w w' : World} {a : Addr} {l : List Int} {row : Option Nat} (h : Rd w w.heap.size (some a) l) (hg : w.grownBy w' row) (hne : ∀ k, row = some k → k ≠ a.block) : Rd w' w'.heap.size (some a) l := fun hp => by
 obtain ⟨b, off, e, hl, hc⟩ := h hp
 injection e with e
 subst e
 exact ⟨b, off, rfl, Nat.lt_of_lt_of_le hl hg.size, fun j hj => (World.cell?_of_block (w := w) (a := ⟨b, off + j, none⟩) (hg.block b hl (fun e => hne b e.symm rfl))).trans (hc j hj)⟩
theorem val_out (tag : Int) (xs p : List Int) (A : Option Addr) (c : Nat) (w : World) (hr : Rd w w.heap.size A xs) (hA : A = none → c = 0) (hx : xs.length ≤ 4194304) (hp : p = valB tag xs) :
   Calls Tryz.prog 53 #[.int .u8 tag, .slice A xs.length c] w fun e w' => ∃ A' c', e = .returned (.slice A' p.length c') ∧ Rows2 w' w.heap.size A' c' p ∧ Below w.heap.size w w' := by
 refine (refValue_any tag xs A c w hr hA hx).mono ?_
 rintro e w' ⟨v, rfl, h1, h2⟩
 subst hp
 obtain ⟨A', c', rfl, h3⟩ := row_two h1
 exact ⟨A', c', rfl, h3, h2⟩
theorem num_out2 (tag n : Int) (p : List Int) (w : World) (hn : 0 ≤ n) (hn2 : n < 18446744073709551616) (hp : p = numB tag n) :
   Calls Tryz.prog 52 #[.int .u8 tag, .int .u64 n] w fun e w' => ∃ A' c', e = .returned (.slice A' p.length c') ∧ Rows2 w' w.heap.size A' c' p ∧ Below w.heap.size w w' := by
 refine (refNumber_any tag n w hn hn2).mono ?_
 rintro e w' ⟨v, rfl, h1, h2⟩
 subst hp
 obtain ⟨A', c', rfl, h3⟩ := row_two h1
 exact ⟨A', c', rfl, h3, h2⟩
theorem ats_out (tag : Int) (l : List At) (p : List Int) (v : Value) (w : World) (hv : YtniaijgejljjbaaGreat.RdV w v l) (hf : FewA l) (hp : p = valB tag (atsB l)) :
   Calls Tryz.prog 71 #[.int .u8 tag, v] w fun e w' => ∃ A' c', e = .returned (.slice A' p.length c') ∧ Rows2 w' w.heap.size A' c' p ∧ Below w.heap.size w w' := by
 refine (refAttrs_any tag l v w hv hf).mono ?_
 rintro e w' ⟨v, rfl, h1, h2⟩
 subst hp
 obtain ⟨A', c', rfl, h3⟩ := row_two h1
 exact ⟨A', c', rfl, h3, h2⟩
theorem partsB_snoc (l : List (List UInt8)) (k : Nat) (h : k < l.length) : partsB (l.take (k + 1)) = partsB (l.take k) ++ valB 1 (bytesOf (sx (l.getD k default))) := by
 rw [take_snocP l k h]
 unfold partsB
 rw [List.flatMap_append]
 simp
set_option maxHeartbeats 8000000 in
theorem texts_any (tag : Int) (l : List (List UInt8)) (p : List Int) (v : Value) (w : World) (hv : RdP w v l) (hl : l.length ≤ 8) (hs : ∀ s ∈ l, s.length ≤ 1000) (hp : p = valB tag (partsB l)) :
   Calls Tryz.prog 72 #[.int .u8 tag, v] w fun e w' => ∃ A' c', e = .returned (.slice A' p.length c') ∧ Rows2 w' w.heap.size A' c' p ∧ Below w.heap.size w w' := by
 obtain ⟨A, c, n, rfl, HN, HR⟩ := hv.full
 have HS := Lib.hid hs
 have hn : n ≤ 8 := by have := HN.out; omega
 have HP := Lib.hid hp
 clear hv hl hs hp
 obtain ⟨cv, ca, cc, hcv⟩ := cv_fun
 go_enter Tryz.func72, Tryz.ntmps72
 go_wp2
 go_loopw [5, 6] (fun s5 s6 wr => ∃ k : Nat, s6 = .int .i64 k ∧ k ≤ n ∧ Hid (RowK kB wr w.heap.size s5 (partsB (l.take k)) ∧ Below w.heap.size w wr)) (fun _ s6 _ => n - (intOf s6).toNat)
 case atStart => exact ⟨0, rfl, Nat.zero_le _, Lib.hid ⟨nil_row kB _ _, Below.refl _ _⟩⟩
 case round =>
   obtain ⟨k, rfl, hk, H⟩ := hrel
   have hpl : (partsB (l.take k)).length ≤ 10000 := by
     have h1 := partsB_len (l.take k) (fun s hs => HS.out s (List.mem_of_mem_take hs))
     have h2 : (l.take k).length ≤ 8 := by rw [List.length_take]; have := HN.out; omega
     omega
   by_cases hlt : k < n
   · have hkl : k < l.length := by have := HN.out; omega
     obtain ⟨b, off, rfl, hbl, c0⟩ := str_cell HR.out H.out.2 hkl
     have hmem : l.getD k default ∈ l := by rw [List.getD_eq_getElem?_getD, List.getElem?_eq_getElem hkl]; exact List.getElem_mem _
     have hsz := HS.out _ hmem
     have HAS := Lib.hid (partsB_snoc l k hkl)
     generalize l.getD k default = s at c0 hsz HAS
     have hbs : (bytesOf (sx s)).length ≤ 1000 := by rw [bytes_sx]; exact hsz
     generalize sx s = x at c0 HAS hbs
     obtain ⟨q, hq⟩ : ∃ q, q = valB 1 (bytesOf x) := ⟨_, rfl⟩
     rw [← hq] at HAS
     have hql : q.length ≤ 2000 := by rw [hq, valB_length]; omega
     have HC := Lib.hid (hcv wr x)
     have hcT := (hcv wr x).1
     have HV := Lib.hid (val_out 1 (bytesOf x) q (some (ca wr x)) (cc wr x) (cv wr x) HC.out.2.1 (fun h => by cases h) (by omega) hq)
     have HL := Lib.hid (And.intro hpl hql)
     clear hbs hsz hmem hq hpl hql hkl
     generalize partsB (l.take k) = u at H HAS HL
     have HZ := Lib.hid H.out.2.size
     go_wp2_with (first
       | (go_at_call 53; (with_reducible refine HV.out.mono ?_); clear HV hcT c0; rintro e w2 ⟨A2, c2, rfl, hr2, hb2⟩; dsimp only; have H2 := Lib.hid (And.intro hr2 (HC.out.2.2.trans (hb2.mono HC.out.2.2.size))); clear hr2 hb2)
       | (at_builtin; refine wpList_appK kB rfl _ _ rfl q rfl (row_k.2 (Row.below (row_k.1 H.out.1) H2.out.2)) rfl (rd_k H2.out.1.2.1) H2.out.1.2.2 (by have h1 := HL.out.1; have h2 := HL.out.2; omega) (Nat.le_trans HZ.out H2.out.2.size) ?_; intro v8 w8 hrow8 hgr8; have H8 := Lib.hid (And.intro hrow8 (row_below (row_k.2 (Row.below (row_k.1 H.out.1) H2.out.2)) hgr8 (Nat.le_trans HZ.out H2.out.2.size))); clear hrow8 hgr8))
     go_roundw
     case rel => exact ⟨k + 1, by go_num, by omega, Lib.hid ⟨by rw [HAS.out]; exact H8.out.1, (H.out.2.trans (H2.out.2.mono HZ.out)).trans H8.out.2⟩⟩
     case measure => simp [intOf]; omega
   · have hkn : k = n := by omega
     subst hkn
     have HLT : Hid (l.take k = l) := Lib.hid (by rw [HN.out, List.take_length])
     rw [HLT.out] at hpl H
     obtain ⟨A5, c5, rfl, hr5⟩ := row_two (row_k.1 H.out.1)
     have H6 := Lib.hid (val_out tag (partsB l) p A5 c5 wr hr5.2.1 hr5.2.2 (by omega) HP.out)
     have HB := Lib.hid H.out.2
     clear H hr5 hpl
     go_wp2_with (go_at_call 53; (with_reducible refine H6.out.mono ?_); clear H6; rintro e w' ⟨A', c', rfl, h1, h2⟩; dsimp only; have HF := Lib.hid (And.intro h1 h2); clear h1 h2)
     go_ret
     refine ⟨_, _, rfl, ⟨row_k.2 ((row_k.1 HF.out.1.1).lowR HB.out.size), HF.out.1.2⟩, HB.out.trans (HF.out.2.mono HB.out.size)⟩
end Go.Proofs.YtniaijgejljjbaaGreat.Tlv
