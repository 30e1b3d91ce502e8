/- A result's bytes, by the document: the list of its entries' bytes. -/
import Derived.Test.YtidkpdoiblomjaaZ39
import Derived.Test.YtidkpdoiblomjaaZ31
import Derived.Test.YtidkpdoiblomjaaZ23
namespace Go.Proofs.Ytidkpdoiblomjaa.Tlv
open Go.RowKit Go.Lib Go.Sort
set_option maxRecDepth 100000
set_option linter.unusedVariables false
set_option linter.unusedSimpArgs false
def HG (w : World) (hs : List Hand) : Prop := ∀ x ∈ hs, Rd w w.heap.size x.A x.bs ∧ (x.A = none → x.c = 0) ∧ x.bs.length ≤ 4194304
theorem handsB_snoc (l : List Hand) (k : Nat) (h : k < l.length) : handsB (l.take (k + 1)) = handsB (l.take k) ++ valB 1 (l.getD k default).bs := by
 rw [take_snocH l k h]
 unfold handsB
 rw [List.flatMap_append]
 simp
set_option maxHeartbeats 8000000 in
theorem list89_any (tag : Int) (hs : List Hand) (p : List Int) (A : Option Addr) (c : Nat) (w : World) (hr : RdK kS w w.heap.size A hs) (hg : HG w hs) (hl : hs.length ≤ 1000000) (ht : (handsB hs).length ≤ 4194304) (hp : p = valB tag (handsB hs)) :
   Calls Try.prog 32 #[.int .u8 tag, .slice A hs.length c] w fun e w' => ∃ A' c', e = .returned (.tuple #[.slice A' p.length c', .bool true]) ∧ Rows2 w' w.heap.size A' c' p ∧ Below w.heap.size w w' := by
 obtain ⟨n, hnn⟩ : ∃ n, n = hs.length := ⟨_, rfl⟩
 rw [← hnn]
 have HN := Lib.hid hnn
 have HR := Lib.hid (And.intro hr hg)
 have hn : n ≤ 1000000 := by omega
 have HP := Lib.hid (And.intro hp ht)
 clear hr hg hl ht hp hnn
 go_enter Try.func32, Try.ntmps32
 go_wp2
 go_loopw [6, 7] (fun s5 s6 wr => ∃ k : Nat, s6 = .int .i64 k ∧ k ≤ n ∧ Hid (RowK kB wr w.heap.size s5 (handsB (hs.take k)) ∧ Below w.heap.size w wr)) (fun _ s6 _ => n - (intOf s6).toNat)
 case atStart => exact ⟨0, rfl, Nat.zero_le _, Lib.hid ⟨nil_row kB _ _, Below.refl _ _⟩⟩
 case round =>
   obtain ⟨k, rfl, hk, H⟩ := hrel
   have hpl : (handsB (hs.take k)).length ≤ 4194304 := Nat.le_trans (handsB_take hs k) HP.out.2
   by_cases hlt : k < n
   · have hkl : k < hs.length := by have := HN.out; omega
     obtain ⟨b, off, rfl, hbl, c0⟩ := hand_cell (HR.out.1.on H.out.2) hkl
     obtain ⟨g1, g2, g3⟩ := HR.out.2 _ (mem_getH hkl)
     have HAS := Lib.hid (handsB_snoc hs k hkl)
     generalize hs.getD k default = x at c0 g1 g2 g3 HAS
     obtain ⟨xt, xA, xc, xb⟩ := x
     dsimp only at c0 g1 g2 g3 HAS
     obtain ⟨q, hq⟩ : ∃ q, q = valB 1 xb := ⟨_, rfl⟩
     rw [← hq] at HAS
     have hql : q.length ≤ 4194400 := by rw [hq, valB_length]; omega
     have HV := Lib.hid (val_out 1 xb q xA xc wr (g1.on H.out.2) g2 g3 hq)
     obtain ⟨m, hm⟩ : ∃ m, m = xb.length := ⟨_, rfl⟩
     rw [← hm] at c0 HV
     have HL := Lib.hid (And.intro hpl hql)
     clear g1 g2 g3 hq hpl hql hkl hm
     generalize handsB (hs.take k) = u at H HAS HL
     have HZ := Lib.hid H.out.2.size
     go_wp2_with (first
       | (go_at_call 35; (with_reducible refine HV.out.mono ?_); clear HV c0; rintro e w2 ⟨A2, c2, rfl, hr2, hb2⟩; dsimp only; have H2 := Lib.hid (And.intro hr2 hb2); clear hr2 hb2)
       | (at_builtin; refine wpList_appK kB rfl _ _ rfl q rfl (row_k.2 (Row.below (row_k.1 H.out.1) H2.out.2)) rfl (rd_k H2.out.1.2.1) H2.out.1.2.2 (by have h1 := HL.out.1; have h2 := HL.out.2; omega) (Nat.le_trans HZ.out H2.out.2.size) ?_; intro v8 w8 hrow8 hgr8; have H8 := Lib.hid (And.intro hrow8 (row_below (row_k.2 (Row.below (row_k.1 H.out.1) H2.out.2)) hgr8 (Nat.le_trans HZ.out H2.out.2.size))); clear hrow8 hgr8))
     go_roundw
     case rel => exact ⟨k + 1, by go_num, by omega, Lib.hid ⟨by rw [HAS.out]; exact H8.out.1, (H.out.2.trans (H2.out.2.mono HZ.out)).trans H8.out.2⟩⟩
     case measure => simp [intOf]; omega
   · have hkn : k = n := by omega
     subst hkn
     have HLT : Hid (hs.take k = hs) := Lib.hid (by rw [HN.out, List.take_length])
     rw [HLT.out] at hpl H
     obtain ⟨A5, c5, rfl, hr5⟩ := row_two (row_k.1 H.out.1)
     have H6 := Lib.hid (val_out tag (handsB hs) p A5 c5 wr hr5.2.1 hr5.2.2 hpl HP.out.1)
     have HB := Lib.hid H.out.2
     obtain ⟨m, hm⟩ : ∃ m, m = (handsB hs).length := ⟨_, rfl⟩
     rw [← hm] at H6 hpl ⊢
     have hpl' : (m : Int) ≤ 4194304 := by omega
     clear H hr5 hpl hm
     go_wp2_with (go_at_call 35; (with_reducible refine H6.out.mono ?_); clear H6; rintro e w' ⟨A', c', rfl, h1, h2⟩; dsimp only; have HF := Lib.hid (And.intro h1 h2); clear h1 h2)
     go_ret2
     refine ⟨_, _, rfl, ⟨row_k.2 ((row_k.1 HF.out.1.1).lowR HB.out.size), HF.out.1.2⟩, HB.out.trans (HF.out.2.mono HB.out.size)⟩
theorem flag_out (tag : Int) (y : Bool) (p : List Int) (w : World) (hp : p = flgB tag y) :
   Calls Try.prog 34 #[.int .u8 tag, .bool y] w fun e w' => ∃ A' c', e = .returned (.slice A' p.length c') ∧ Rows2 w' w.heap.size A' c' p ∧ Below w.heap.size w w' := by
 refine (refFlag_any tag y w).mono ?_
 rintro e w' ⟨v, rfl, h1, h2⟩
 subst hp
 obtain ⟨A', c', rfl, h3⟩ := row_two h1
 exact ⟨A', c', rfl, h3, h2⟩
theorem rows2_apart {w w' : World} {base base0 c : Nat} {A : Option Addr} {l l0 : List Int} {v : Value} (h : Rows2 w base A c l) (h0 : RowK kB w base0 v l0) (hg : w.grownBy w' v.ownBlock) (hlt : ∀ g, v.ownBlock = some g → g < base) : Rows2 w' base A c l := by
 have h1 : RowK kB w' base (.slice A l.length c) l := RowK.fitT h.1 fun g e => hg.block g (own_atT h.1 e).2.1 (fun e2 => by
   have h3 := hlt g e2.symm
   have h4 := (own_atT h.1 e).1
   omega)
 obtain ⟨A', c', e, h2⟩ := row_two (row_k.1 h1)
 injection e with e1 e2 e3
 subst e1 e3
 exact h2
theorem HOk.snoc {W : World} {base : Nat} {hs : List Hand} {l : List Eny} (h : HOk W base hs l l.length) (x : Hand) (y : Eny) (hx : RowK kB W base (.slice x.A x.bs.length x.c) x.bs) (he : x.bs = entB y.nm y.ats) (hm : mayEn y = true) : HOk W base (hs ++ [x]) (l ++ [y]) (l ++ [y]).length := by
 refine ⟨by rw [List.length_append, List.length_append, h.1]; rfl, fun j hj => ?_⟩
 rw [List.length_append, List.length_singleton] at hj
 by_cases e : j < l.length
 · have e1 : (hs ++ [x]).getD j default = hs.getD j default := by rw [List.getD_eq_getElem?_getD, List.getElem?_append_left (by rw [h.1]; exact e), ← List.getD_eq_getElem?_getD]
   have e2 : (l ++ [y]).getD j default = l.getD j default := by rw [List.getD_eq_getElem?_getD, List.getElem?_append_left e, ← List.getD_eq_getElem?_getD]
   rw [e1, e2]
   exact h.2 j e
 · have ej : j = l.length := by omega
   subst ej
   have e1 : (hs ++ [x]).getD l.length default = x := by rw [← h.1]; simp
   have e2 : (l ++ [y]).getD l.length default = y := by simp
   rw [e1, e2]
   exact ⟨hx, he, hm⟩
theorem HOk.grow {W W' : World} {base : Nat} {hs : List Hand} {l : List Eny} {k : Nat} {v : Value} {ms : List Hand} (h : HOk W base hs l k) (hr : RowK kS W base v ms) (hg : W.grownBy W' v.ownBlock) : HOk W' base hs l k :=
 ⟨h.1, fun j hj => ⟨RowK.fitT (h.2 j hj).1 fun g e => hg.block g (own_atT (h.2 j hj).1 e).2.1 (fun e2 => by
   obtain ⟨_, _, cs, hc⟩ := own_atT (h.2 j hj).1 e
   obtain ⟨_, _, cs', hc'⟩ := own_atT hr e2.symm
   exact blk_ne hc hc' (by decide) rfl), (h.2 j hj).2⟩⟩
theorem rd_oneS (w : World) (x : Hand) : RdK kS (w.alloc (.cells #[.slice x.A x.bs.length x.c] 37)) (w.alloc (.cells #[.slice x.A x.bs.length x.c] 37)).heap.size (some ⟨w.heap.size, 0, none⟩) [x] := rd_block (K := kS) (l := [x]) (Blk.new _ _ _) rfl
end Go.Proofs.Ytidkpdoiblomjaa.Tlv
