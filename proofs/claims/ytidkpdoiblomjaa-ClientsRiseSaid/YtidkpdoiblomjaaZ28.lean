/- Rows of entries: their cells, what reads as entries; are two lists of entries the same. -/
import Derived.Test.YtidkpdoiblomjaaZ27
import Derived.Test.YtidkpdoiblomjaaZ19
import Derived.Test.YtidkpdoiblomjaaZ26
namespace Go.Proofs.Ytidkpdoiblomjaa.Tlv
open Go.RowKit
set_option maxRecDepth 100000
set_option linter.unusedVariables false
set_option linter.unusedSimpArgs false
structure En where
 nm : List UInt8
 A : Option Addr
 n : Nat
 c : Nat
deriving Inhabited
structure Eny where
 nm : List UInt8
 ats : List At
deriving Inhabited, DecidableEq
abbrev En.v (e : En) : Value := .slice e.A e.n e.c
theorem info126 : ∃ (i : TypeInfo) (z : Value), Try.prog.info? 47 = some i ∧ i.zero = some z ∧ i.size = 2 ∧ i.bytes = 40 ∧ z.cells.size = 2 := by
 have h : (Try.prog.info? 47).map (fun i => (i.zero, i.size, i.bytes)) = some (some (.agg #[.string ⟨#[]⟩, .slice none 0 0]), 2, 40) := by kernel_rfl
 obtain ⟨i, hi, h0, h1, h2⟩ := info_parts h
 exact ⟨i, _, hi, h0, h1, h2, rfl⟩
def kE : Kind En where
 e := 47
 st := 36
 size := 2
 bytes := 40
 cs := fun e => [.string (sx e.nm), e.v]
 len := fun _ => rfl
 one := fun x u hu => by simp at hu; rcases hu with rfl | rfl <;> rfl
 pos := by decide
 sl := Try.underlying36
 zero := info126
 small := by decide
def EnL (w : World) (es : List En) (l : List Eny) : Prop := es.length = l.length ∧ ∀ i, i < es.length → (es.getD i default).nm = (l.getD i default).nm ∧ Ytidkpdoiblomjaa.RdV w (es.getD i default).v (l.getD i default).ats
def RdE (w : World) (v : Value) (l : List Eny) : Prop := ∃ es A c, v = .slice A es.length c ∧ ((A = none → c = 0) ∧ es.length ≤ c ∧ c ≤ maxLen) ∧ RdK kE w w.heap.size A es ∧ EnL w es l
theorem EnL.on {w w' : World} {es : List En} {l : List Eny} (h : EnL w es l) (hb : Below w.heap.size w w') : EnL w' es l := ⟨h.1, fun i hi => ⟨(h.2 i hi).1, Ytidkpdoiblomjaa.RdV.on (h.2 i hi).2 hb⟩⟩
theorem RdE.on {w w' : World} {v : Value} {l : List Eny} (h : RdE w v l) (hb : Below w.heap.size w w') : RdE w' v l := by
 obtain ⟨es, A, c, e, h0, h1, h2⟩ := h
 exact ⟨es, A, c, e, h0, h1.on hb, h2.on hb⟩
theorem RdE.nil (w : World) : RdE w (.slice none 0 0) [] := ⟨[], none, 0, rfl, ⟨fun _ => rfl, Nat.le_refl _, Nat.zero_le _⟩, fun h => by simp at h, rfl, fun i hi => by simp at hi⟩
theorem RdE.len {w : World} {v : Value} {l : List Eny} (h : RdE w v l) : ∃ A c n, v = .slice A n c ∧ Hid (n = l.length) := by
 obtain ⟨es, A, c, e, _, _, h2⟩ := h
 exact ⟨A, c, _, e, Lib.hid h2.1⟩
theorem en_cells {w w' : World} {n k : Nat} {A : Option Addr} {es : List En} (h : RdK kE w n A es) (hb : Below n w w') (hk : k < es.length) : ∃ b off, A = some ⟨b, off, none⟩ ∧ b < n ∧
   w'.cell? ⟨b, off + k * 2, none⟩ = some (.string (sx (es.getD k default).nm)) ∧ w'.cell? ⟨b, off + k * 2 + 1, none⟩ = some (es.getD k default).v := by
 obtain ⟨b, off, e, hlt, hc⟩ := h (by omega)
 exact ⟨b, off, e, hlt, (hb.cell (p := ⟨b, off + k * 2, none⟩) hlt).trans (hc k hk 0 _ rfl), (hb.cell (p := ⟨b, off + k * 2 + 1, none⟩) hlt).trans (hc k hk 1 _ rfl)⟩
structure LimE (l : List Eny) : Prop where
 len : l.length ≤ 1000000
 nm : ∀ e ∈ l, e.nm.length ≤ 9223372036854775807
 la : ∀ e ∈ l, e.ats.length ≤ 1000000
 sa : ∀ e ∈ l, Ytidkpdoiblomjaa.Sm e.ats
theorem ext_getE {a b : List Eny} (h : a.length = b.length) (h2 : ∀ j, j < a.length → a.getD j default = b.getD j default) : a = b := by
 apply List.ext_getElem h
 intro j h3 h4
 have := h2 j h3
 simpa [List.getD_eq_getElem?_getD, List.getElem?_eq_getElem h3, List.getElem?_eq_getElem h4] using this
theorem ne_getE {a b : List Eny} {k : Nat} (h : a.getD k default ≠ b.getD k default) : a ≠ b := fun e => h (by rw [e])
theorem mem_getE {l : List Eny} {k : Nat} (h : k < l.length) : l.getD k default ∈ l := by rw [List.getD_eq_getElem?_getD, List.getElem?_eq_getElem h]; exact List.getElem_mem _
abbrev zE : Array Value := #[.string ⟨#[]⟩, .slice none 0 0]
set_option maxHeartbeats 8000000 in
theorem eqf_any (a b : List Eny) (va vb : Value) (w : World) (hva : RdE w va a) (hvb : RdE w vb b) (ha : LimE a) (hb : LimE b) :
   Calls Try.prog 43 #[va, vb, .func (.func 44) #[] #[]] w fun e w' => e = .returned (.bool (decide (a = b))) ∧ Below w.heap.size w w' := by
 obtain ⟨es, A, c, rfl, _, hr, hl⟩ := hva
 obtain ⟨fs, B, d, rfl, _, hr2, hl2⟩ := hvb
 have h1 := ha.len
 have h2 := hb.len
 by_cases hlen : a.length = b.length
 · have HR := Lib.hid (And.intro hr (And.intro hr2 (And.intro hl hl2)))
   have HL := Lib.hid (And.intro ha hb)
   obtain ⟨n, hn⟩ : ∃ n, n = a.length := ⟨_, rfl⟩
   have e1 : es.length = n := hl.1.trans hn.symm
   have e2 : fs.length = n := hl2.1.trans (hlen.symm.trans hn.symm)
   have HN := Lib.hid (And.intro hn (And.intro (hn.trans hlen) (And.intro e1 e2)))
   rw [e1, e2]
   rw [← hn] at h1
   clear hr hr2 hl hl2 ha hb hlen h2 hn e1 e2
   go_enter Try.func43, Try.ntmps43
   go_wp2
   go_loopw [17] (fun i wr => ∃ k : Nat, i = .int .i64 k ∧ k ≤ n ∧ Hid (Below w.heap.size w wr) ∧ Hid (∀ j, j < k → a.getD j default = b.getD j default)) (fun i _ => n - (intOf i).toNat)
   case atStart => exact ⟨0, rfl, Nat.zero_le _, Lib.hid (Below.refl _ _), Lib.hid fun j hj => absurd hj (Nat.not_lt_zero _)⟩
   case round =>
     obtain ⟨k, rfl, hk, HB, HA⟩ := hrel
     by_cases hlt : k < n
     · have hka : k < a.length := by have := HN.out.1; omega
       have hkb : k < b.length := by have := HN.out.2.1; omega
       have hke : k < es.length := by have := HN.out.2.2.1; omega
       have hkf : k < fs.length := by have := HN.out.2.2.2; omega
       obtain ⟨b1, o1, rfl, hl1, c0, c1⟩ := en_cells HR.out.1 HB.out hke
       obtain ⟨b2, o2, rfl, hl2, d0, d1⟩ := en_cells HR.out.2.1 HB.out hkf
       obtain ⟨m1, m2⟩ := HR.out.2.2.1.2 k hke
       obtain ⟨m3, m4⟩ := HR.out.2.2.2.2 k hkf
       have l1 := HL.out.1.la _ (mem_getE hka)
       have l2 := HL.out.2.la _ (mem_getE hkb)
       generalize es.getD k default = x at c0 c1 m1 m2
       generalize fs.getD k default = y at d0 d1 m3 m4
       obtain ⟨xn, xA, xm, xc⟩ := x
       obtain ⟨yn, yA, ym, yc⟩ := y
       dsimp only [En.v] at c0 c1 d0 d1 m1 m2 m3 m4
       subst m1 m3
       have HC : Hid (∀ W, Below w.heap.size w W → Calls Try.prog 44 #[.agg #[.string (sx (a.getD k default).nm), .slice xA xm xc], .agg #[.string (sx (b.getD k default).nm), .slice yA ym yc]] W fun e w' => e = .returned (.bool (decide ((a.getD k default) = (b.getD k default)))) ∧ Below W.heap.size W w') := Lib.hid fun W hW => by
         have h := Ytidkpdoiblomjaa.sameE_any (a.getD k default).nm (b.getD k default).nm (a.getD k default).ats (b.getD k default).ats _ _ W (Ytidkpdoiblomjaa.RdV.on m2 hW) (Ytidkpdoiblomjaa.RdV.on m4 hW) (by omega) (by omega)
         have e : (decide ((a.getD k default).nm = (b.getD k default).nm) && decide ((a.getD k default).ats = (b.getD k default).ats)) = decide (a.getD k default = b.getD k default) := by
           generalize a.getD k default = p
           generalize b.getD k default = q
           obtain ⟨p1, p2⟩ := p
           obtain ⟨q1, q2⟩ := q
           simp
         rw [e] at h
         exact h
       clear m2 m4 l1 l2
       generalize hbb : decide (a.getD k default = b.getD k default) = bb at HC
       generalize hxn : sx (a.getD k default).nm = sxa at c0 HC
       generalize hyn : sx (b.getD k default).nm = sya at d0 HC
       have HBB := Lib.hid hbb
       clear hbb hxn hyn hka hkb hke hkf
       go_upto_region 6 with (refine wpList_store_rowTo rfl 47 _ _ rfl rfl wr.heap.size #[.string sxa, .slice xA xm xc] rfl rfl 47 zE (Blk.new wr 47 zE) (by kernel_rfl) rfl (by kernel_rfl) ?_)
       have hb1 : Below wr.heap.size wr ((wr.alloc (.cells zE 47)).setRow wr.heap.size #[.string sxa, .slice xA xm xc]) := below_setRow ((Below.refl _ _).alloc (Nat.le_refl _) (.cells zE 47)) (Nat.le_refl _) _
       have k1 : Blk ((wr.alloc (.cells zE 47)).setRow wr.heap.size #[.string sxa, .slice xA xm xc]) wr.heap.size 47 #[.string sxa, .slice xA xm xc] := (Blk.new wr 47 zE).row _
       have d0' := (hb1.cell (p := ⟨b2, o2 + k * 2, none⟩) (Nat.lt_of_lt_of_le hl2 HB.out.size)).trans d0
       have d1' := (hb1.cell (p := ⟨b2, o2 + k * 2 + 1, none⟩) (Nat.lt_of_lt_of_le hl2 HB.out.size)).trans d1
       obtain ⟨B8, hB8⟩ : ∃ B, B = wr.heap.size := ⟨_, rfl⟩
       rw [← hB8] at k1 d0' d1' ⊢
       have hbz : Below wr.heap.size wr ((wr.alloc (.cells zE 47)).setRow B8 #[.string sxa, .slice xA xm xc]) := by rw [hB8]; exact hb1
       clear hb1 hB8 d0 d1 c0 c1
       generalize (wr.alloc (.cells zE 47)).setRow B8 #[.string sxa, .slice xA xm xc] = W1 at k1 d0' d1' hbz ⊢
       have H1 := Lib.hid (And.intro (HB.out.trans (hbz.mono HB.out.size)) k1)
       clear hbz k1
       go_upto_region 7 with (refine wpList_store_rowTo rfl 47 _ _ rfl rfl W1.heap.size #[.string sya, .slice yA ym yc] rfl rfl 47 zE (Blk.new W1 47 zE) (by kernel_rfl) rfl (by kernel_rfl) ?_)
       have hb2 : Below W1.heap.size W1 ((W1.alloc (.cells zE 47)).setRow W1.heap.size #[.string sya, .slice yA ym yc]) := below_setRow ((Below.refl _ _).alloc (Nat.le_refl _) (.cells zE 47)) (Nat.le_refl _) _
       have k2 : Blk ((W1.alloc (.cells zE 47)).setRow W1.heap.size #[.string sya, .slice yA ym yc]) W1.heap.size 47 #[.string sya, .slice yA ym yc] := (Blk.new W1 47 zE).row _
       have k1 := H1.out.2.on hb2
       have hbw := H1.out.1.trans (hb2.mono H1.out.1.size)
       obtain ⟨B9, hB9⟩ : ∃ B, B = W1.heap.size := ⟨_, rfl⟩
       rw [← hB9] at k1 k2 hbw ⊢
       clear hb2 hB9 d0' d1' H1
       generalize (W1.alloc (.cells zE 47)).setRow B9 #[.string sya, .slice yA ym yc] = W2 at k1 k2 hbw ⊢
       have H2 := Lib.hid (And.intro hbw (And.intro k1 k2))
       have HC' := Lib.hid (HC.out W2 hbw)
       clear hbw k1 k2 HC
       cases bb with
       | true =>
         have HE := Lib.hid (of_decide_eq_true HBB.out)
         go_wp2_with (first
           | (refine wpList_load_row rfl 47 _ rfl B8 rfl 47 #[.string sxa, .slice xA xm xc] (0, 0) _ H2.out.2.1 rfl rfl (by kernel_rfl) ?_)
           | (refine wpList_load_row rfl 47 _ rfl B9 rfl 47 #[.string sya, .slice yA ym yc] (0, 0) _ H2.out.2.2 rfl rfl (by kernel_rfl) ?_)
           | (go_at_call 44; (with_reducible refine HC'.out.mono ?_); clear HC'; rintro e w9 ⟨rfl, hb9⟩; dsimp only; have H9 := Lib.hid (H2.out.1.trans (hb9.mono H2.out.1.size)); clear hb9))
         go_roundw
         case rel => exact ⟨k + 1, by go_num, by omega, Lib.hid H9.out, Lib.hid fun j hj => by
           by_cases e : j = k
           · subst e; exact HE.out
           · exact HA.out j (by omega)⟩
         case measure => simp [intOf]; omega
       | false =>
         have HF : Hid (decide (a = b) = false) := Lib.hid (decide_eq_false (ne_getE (k := k) (of_decide_eq_false HBB.out)))
         go_wp2_with (first
           | (refine wpList_load_row rfl 47 _ rfl B8 rfl 47 #[.string sxa, .slice xA xm xc] (0, 0) _ H2.out.2.1 rfl rfl (by kernel_rfl) ?_)
           | (refine wpList_load_row rfl 47 _ rfl B9 rfl 47 #[.string sya, .slice yA ym yc] (0, 0) _ H2.out.2.2 rfl rfl (by kernel_rfl) ?_)
           | (go_at_call 44; (with_reducible refine HC'.out.mono ?_); clear HC'; rintro e w9 ⟨rfl, hb9⟩; dsimp only; have H9 := Lib.hid (H2.out.1.trans (hb9.mono H2.out.1.size)); clear hb9))
         go_ret
         exact ⟨by rw [HF.out]; rfl, H9.out⟩
     · have hkn : k = n := by omega
       have HF : Hid (decide (a = b) = true) := Lib.hid (decide_eq_true (ext_getE (by rw [← HN.out.1, ← HN.out.2.1]) (by rw [← HN.out.1, ← hkn]; exact HA.out)))
       go_wp2
       go_ret
       exact ⟨by rw [HF.out]; rfl, HB.out⟩
 · have HF : Hid (decide (a = b) = false) := Lib.hid (decide_eq_false fun e => hlen (by rw [e]))
   have e1 := hl.1
   have e2 := hl2.1
   obtain ⟨n, hn⟩ : ∃ n, n = es.length := ⟨_, rfl⟩
   obtain ⟨m, hm⟩ : ∃ m, m = fs.length := ⟨_, rfl⟩
   have hnm : n ≠ m := by omega
   have h3 : n ≤ 1000000 := by omega
   have h4 : m ≤ 1000000 := by omega
   rw [← hn, ← hm]
   clear hr hr2 hn hm hl hl2 ha hb h1 h2 e1 e2 hlen
   have hne : ((n : Int) != (m : Int)) = true := by rw [bne_iff_ne]; omega
   go_enter Try.func43, Try.ntmps43
   go_wp2
   go_ret
   exact ⟨by rw [HF.out]; rfl, Below.refl _ _⟩
end Go.Proofs.Ytidkpdoiblomjaa.Tlv
