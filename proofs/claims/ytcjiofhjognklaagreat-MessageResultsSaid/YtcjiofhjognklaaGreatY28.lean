/- The reference's reader: a list. -/
import Derived.Test.YtcjiofhjognklaaGreatY27
namespace Go.Proofs.YtcjiofhjognklaaGreat.Tlv
open Go.RowKit
set_option maxRecDepth 100000
set_option linter.deprecated false
set_option linter.unusedVariables false
set_option linter.unusedSimpArgs false
theorem info33 : ∃ (i : TypeInfo) (z : Value), Tryz.prog.info? 25 = some i ∧ i.zero = some z ∧ i.size = 1 ∧ i.bytes = 24 ∧ z.cells.size = 1 := by
 have h : (Tryz.prog.info? 25).map (fun i => (i.zero, i.size, i.bytes)) = some (some (.slice none 0 0), 1, 24) := by kernel_rfl
 obtain ⟨i, hi, h0, h1, h2⟩ := info_parts h
 exact ⟨i, _, hi, h0, h1, h2, rfl⟩
def kS : Kind Hand where
 e := 25
 st := 110
 size := 1
 bytes := 24
 cs := fun h => [.slice h.A h.bs.length h.c]
 len := fun _ => rfl
 one := fun x u hu => by simp at hu; subst hu; rfl
 pos := by decide
 sl := Tryz.underlying110
 zero := info33
 small := by decide
theorem take_form {D g : Nat} {t : Option (List Int) × Bool × List Int} {w w' : World} {e : Ending} (h : TakeR D g t w e w') : ∃ A1 c1, e = .returned (.slice A1 (t.1.getD []).length c1) ∧ Rd w' D A1 (t.1.getD []) ∧ (A1 = none → c1 = 0) ∧ (∀ a, A1 = some a → ∃ b off, a = ⟨b, off, none⟩ ∧ b < D) ∧ (t.1.getD []).length ≤ c1 ∧ c1 ≤ 9223372036854775807 ∧ RR w' D g t.2.1 t.2.2 ∧ w.grownBy w' (some g) := by
 obtain ⟨h1, h2, h3⟩ := h
 rcases h1 with ⟨v, A1, c1, e1, he, hr, ⟨b, off, rfl, hb⟩, hc, hcm⟩ | ⟨e1, he⟩
 · rw [e1]
   exact ⟨_, c1, he, hr, fun h => (by cases h), fun a ha => ⟨b, off, (by injection ha with ha; exact ha.symm), hb⟩, hc, hcm, h2, h3⟩
 · rw [e1]
   exact ⟨none, 0, he, Rd.nil, fun _ => rfl, fun a ha => (by cases ha), Nat.le_refl _, by omega, h2, h3⟩
theorem hand_cells {w : World} {B : Nat} {A : Option Addr} {hs : List Hand} (h : RdK kI w B A hs) {k : Nat} (hk : k < hs.length) : ∃ b off, A = some ⟨b, off, none⟩ ∧ b < B ∧ w.cell? ⟨b, off + k * 2, none⟩ = some (.int .u8 (hs.getD k default).t) ∧ w.cell? ⟨b, off + k * 2 + 1, none⟩ = some (.slice (hs.getD k default).A (hs.getD k default).bs.length (hs.getD k default).c) := by
 obtain ⟨b, off, rfl, hb, hc⟩ := h (by omega)
 exact ⟨b, off, rfl, hb, hc k hk 0 _ rfl, hc k hk 1 _ rfl⟩
def allT (of : Int) (v : List Int) : Bool := (items v).all (fun x => x.1 == of) && decide (endP v = v.length)
def ListQ (D g : Nat) (of : Int) (f1 : Bool) (r1 v : List Int) (w : World) (e : Ending) (w' : World) : Prop :=
 (if f1 = false ∧ allT of v = true then ∃ u hs, e = .returned u ∧ hs.map Hand.it = items v ∧ RowK kS w' w.heap.size u hs ∧ GoodH w' w'.heap.size hs ∧ RR w' D g false r1 else e = .returned (.slice none 0 0) ∧ RR w' D g true r1) ∧ w.grownBy w' (some g)
def ListR (D g : Nat) (of : Int) (t : Option (List Int) × Bool × List Int) (w : World) (e : Ending) (w' : World) : Prop := ListQ D g of t.2.1 t.2.2 (t.1.getD []) w e w'
theorem ListQ.bad {D g : Nat} {of : Int} {f1 : Bool} {r1 v : List Int} {w w' : World} (h : ¬ (f1 = false ∧ allT of v = true)) (h2 : RR w' D g true r1 ∧ w.grownBy w' (some g)) : ListQ D g of f1 r1 v w (.returned (.slice none 0 0)) w' := by
 unfold ListQ
 rw [if_neg h]
 exact ⟨⟨rfl, h2.1⟩, h2.2⟩
theorem ListQ.good {D g : Nat} {of : Int} {r1 v : List Int} {w w' : World} {u : Value} {hs : List Hand} (h : allT of v = true) (h1 : hs.map Hand.it = items v) (h2 : RowK kS w' w.heap.size u hs) (h3 : GoodH w' w'.heap.size hs) (h4 : RR w' D g false r1) (h5 : w.grownBy w' (some g)) : ListQ D g of false r1 v w (.returned u) w' := by
 unfold ListQ
 rw [if_pos ⟨rfl, h⟩]
 exact ⟨⟨u, hs, rfl, h1, h2, h3, h4⟩, h5⟩
theorem RowK.lowR {α : Type} [Inhabited α] {K : Kind α} {w : World} {base base' : Nat} {v : Value} {l : List α} (h : RowK K w base v l) (hb : base' ≤ base) : RowK K w base' v l := by
 refine ⟨h.1, ?_⟩
 rcases h.2 with h0 | ⟨g, cap, cur, hv, hg, rest⟩
 · exact .inl h0
 · exact .inr ⟨g, cap, cur, hv, Nat.le_trans hb hg, rest⟩
theorem take_snocH (l : List Hand) (k : Nat) (h : k < l.length) : l.take (k + 1) = l.take k ++ [l.getD k default] := by
 rw [List.take_succ, List.getD_eq_getElem?_getD, List.getElem?_eq_getElem h]
 rfl
theorem items_le : ∀ (n : Nat) (l : List Int), l.length ≤ n → (items l).length ≤ l.length := by
 intro n
 induction n with
 | zero =>
   intro l h
   obtain rfl : l = [] := List.eq_nil_of_length_eq_zero (by omega)
   rw [items_no (l := []) rfl]
   exact Nat.le_refl _
 | succ n ih =>
   intro l h
   cases hst : stands l with
   | false => rw [items_no hst]; simp
   | true =>
     have hp := (of_decide_eq_true hst : 5 ≤ l.length ∧ _)
     have := ih (l.drop (5 + nv l)) (by rw [List.length_drop]; omega)
     rw [List.length_drop] at this
     unfold items
     rw [dif_pos hst]
     simp only [List.length_cons]
     omega
set_option maxHeartbeats 8000000 in
theorem refList_any (D g : Nat) (f : Bool) (r : List Int) (tag of : Int) (w : World) (hs : RR w D g f r) (hrl : r.length ≤ 1000000) :
   Calls Tryz.prog 63 #[.pointer (some ⟨g, 0, none⟩), .int .u8 tag, .int .u8 of] w (ListR D g of (tk f r tag) w) := by
 have HT := Lib.hid (refTake_any D g f r tag w hs)
 have hgl := hs.lt
 have hby := hs.byt
 have HV : Hid (Byt ((tk f r tag).1.getD []) ∧ ((tk f r tag).1.getD []).length ≤ 1000000) := Lib.hid (by
   cases htk : tk f r tag with
   | mk o q =>
     obtain ⟨f1, r1⟩ := q
     cases o with
     | none => exact ⟨fun x hx => by simp at hx, by simp⟩
     | some bs =>
       obtain ⟨_, _, _, h4, h5⟩ := tk_some hby htk
       have h6 := congrArg List.length h4
       rw [List.length_append, valB_length] at h6
       exact ⟨fun x hx => hby x (by rw [h4]; simp only [Option.getD_some] at hx; simp [valB, hx]), by simp; omega⟩)
 unfold ListR
 generalize tk f r tag = t at HT HV ⊢
 obtain ⟨o, f1, r1⟩ := t
 dsimp only at HV ⊢
 obtain ⟨v, hv⟩ : ∃ v, v = o.getD [] := ⟨_, rfl⟩
 rw [← hv] at HV ⊢
 have HVV := Lib.hid hv
 clear hs hby hv
 go_enter Tryz.func63, Tryz.ntmps63
 go_wp2_with fail
 refine HT.out.mono ?_
 clear HT
 intro e w1 h
 obtain ⟨A1, c1, rfl, hr1, hA1, hA2, hc1, hc2, hRR, hg⟩ := take_form h
 clear h
 dsimp only at hr1 hc1 hRR ⊢
 rw [← HVV.out] at hr1 hc1 ⊢
 have hD : D ≤ g := hRR.1
 have hgl1 := hRR.lt
 have HAll := Lib.hid (bookR_any A1 c1 v w1 (hr1.more (by omega)) hA1 (fun a ha => by obtain ⟨b, off, e, hb⟩ := hA2 a ha; exact ⟨b, off, e, by omega⟩) HV.out.1 HV.out.2 hc1 hc2)
 have HRR := Lib.hid (And.intro hRR hg)
 have hz1 := hg.size
 clear hr1 hA1 hA2 hc1 hc2 hRR hg
 go_wp2_with fail
 refine HAll.out.mono ?_
 clear HAll
 rintro e w2 ⟨v2, hs, k2, rfl, hk2, hit, hrow, hgood, hb2⟩
 obtain ⟨A2, c2, rfl, _, hrd⟩ := RowK.rd0 hrow
 have hlen : hs.length ≤ 1000000 := by
   have h1 := congrArg List.length hit
   rw [List.length_map] at h1
   have h2 := items_le _ v (Nat.le_refl _)
   have h3 := HV.out.2
   omega
 have HI := Lib.hid (And.intro hk2 (And.intro hit (And.intro hgood hb2)))
 have HRD := Lib.hid hrd
 have hRR2 := HRR.out.1.on hb2
 have hg2 := grownBy_trans HRR.out.2 (grownBy_of (row := some g) hb2)
 have HOK : Hid (∀ W, Below w2.heap.size w2 W → RR W D g f1 r1 ∧ w.grownBy W (some g) ∧ W.cell? ⟨g, 1, none⟩ = some (.bool f1) ∧ W.frozen? ⟨g, 1, none⟩ = false) := Lib.hid fun W hb => by
   refine ⟨hRR2.on hb, grownBy_trans hg2 (grownBy_of hb), ?_⟩
   obtain ⟨_, A9, c9, hk9, _⟩ := hRR2.on hb
   exact ⟨hk9.cell 1, hk9.frozen 1⟩
 have HBAD : Hid (∀ W, Below w2.heap.size w2 W → RR (W.setCell ⟨g, 1, none⟩ (.bool true)) D g true r1 ∧ w.grownBy (W.setCell ⟨g, 1, none⟩ (.bool true)) (some g)) := Lib.hid fun W hb =>
   ⟨(HOK.out W hb).1.bad, grownBy_trans (HOK.out W hb).2.1 (blk_set_grown W g 1 _)⟩
 obtain ⟨n, hn⟩ : ∃ n, n = hs.length := ⟨_, rfl⟩
 have hn2 : n ≤ 1000000 := by omega
 rw [← hn]
 have HN := Lib.hid hn
 have hz2 : w.heap.size ≤ w2.heap.size := Nat.le_trans hz1 hb2.size
 clear hrow hgood hb2 hit hk2 hrd hRR2 hg2 hlen hn
 go_wp2_with fail
 go_loopw [10, 11] (fun s10 s11 wr => ∃ k : Nat, s11 = .int .i64 k ∧ k ≤ n ∧ Hid (RowK kS wr w2.heap.size s10 (hs.take k) ∧ Below w2.heap.size w2 wr ∧ ∀ j, j < k → (hs.getD j default).t = of)) (fun _ s11 _ => n - (intOf s11).toNat)
 case atStart => exact ⟨0, rfl, Nat.zero_le _, Lib.hid ⟨nil_row _ _ _, Below.refl _ _, fun j hj => by omega⟩⟩
 case round =>
   obtain ⟨k, rfl, hk, H⟩ := hrel
   by_cases hlt : k < n
   · have hkl : k < hs.length := by have := HN.out; omega
     obtain ⟨b, off, rfl, hbl, c0', c1'⟩ := hand_cells HRD.out hkl
     have hb := H.out.2.1
     have c0 := (hb.cell (p := ⟨b, off + k * 2, none⟩) hbl).trans c0'
     have c1 := (hb.cell (p := ⟨b, off + k * 2 + 1, none⟩) hbl).trans c1'
     obtain ⟨_, _, g1, gf⟩ := HOK.out wr hb
     have HF := Lib.hid (HBAD.out wr hb)
     have hmem : hs.getD k default ∈ hs := by rw [List.getD_eq_getElem?_getD, List.getElem?_eq_getElem hkl]; exact List.getElem_mem _
     have HX : Hid ((hs.getD k default).t ≠ of → allT of v = false) := Lib.hid fun h => by
       unfold allT
       rw [Bool.and_eq_false_iff]
       left
       rw [← Bool.not_eq_true, List.all_eq_true]
       intro h2
       have h3 := h2 (hs.getD k default).it (by rw [← HI.out.2.1]; exact List.mem_map_of_mem hmem)
       exact h (by simpa [Hand.it] using h3)
     have HTK := Lib.hid (take_snocH hs k hkl)
     generalize hx : hs.getD k default = x at c0' c1' c0 c1 HX HTK
     have HXX := Lib.hid hx
     have HWB := Lib.hid hb
     have hkk : (hs.take k).length + 1 ≤ 1000000000 := by rw [List.length_take]; omega
     have hwz : w.heap.size ≤ wr.heap.size := Nat.le_trans hz2 hb.size
     clear c0' c1' hmem hb hx
     by_cases hq : x.t = of
     · have hq' : (x.t != of) = false := by simpa using hq
       have HQ := Lib.hid hq
       clear hq g1 gf HF HX
       go_wp2_with (at_builtin; refine wpList_appK kS rfl _ _ rfl [x] rfl (H.out.1.alloc _) rfl (rd_block (K := kS) (l := [x]) (Blk.new _ _ _) rfl) (fun e => by cases e) hkk (le_alloc HWB.out.size) ?_; intro v8 w8 hrow8 hgr8; have Hrow8 := Lib.hid (And.intro hrow8 hgr8); clear hrow8 hgr8)
       go_roundw
       case rel => exact ⟨k + 1, by go_num, by omega, Lib.hid ⟨by rw [HTK.out]; exact Hrow8.out.1, (HWB.out.alloc HWB.out.size _).trans (row_below (H.out.1.alloc _) Hrow8.out.2 (le_alloc HWB.out.size)), fun j hj => by
         by_cases hjk : j = k
         · subst hjk
           rw [HXX.out]
           exact HQ.out
         · exact H.out.2.2 j (by omega)⟩⟩
       case measure => simp [intOf]; omega
     · have hq' : (x.t != of) = true := by simpa using hq
       have HA := Lib.hid (HX.out hq)
       clear hq HX
       go_wp2_with fail
       go_ret
       exact ListQ.bad (fun h => by rw [HA.out] at h; cases h.2) HF.out
   · obtain rfl : k = n := by omega
     have hb := H.out.2.1
     obtain ⟨_, _, g1, gf⟩ := HOK.out wr hb
     have HF := Lib.hid (HBAD.out wr hb)
     have HWB := Lib.hid hb
     clear hb hlt
     cases f1 with
     | true =>
       go_wp2_with fail
       go_ret
       exact ListQ.bad (fun h => by cases h.1) HF.out
     | false =>
       by_cases he : k2 = v.length
       · have HALL : Hid (allT of v = true) := Lib.hid (by
           unfold allT
           rw [Bool.and_eq_true_iff]
           refine ⟨?_, ?_⟩
           · rw [List.all_eq_true, ← HI.out.2.1]
             intro x hx
             obtain ⟨y, hy, rfl⟩ := List.mem_map.1 hx
             obtain ⟨j, hj, rfl⟩ := List.getElem_of_mem hy
             have h1 := H.out.2.2 j (by have := HN.out; omega)
             rw [List.getD_eq_getElem?_getD, List.getElem?_eq_getElem hj] at h1
             simpa [Hand.it] using h1
           · rw [← HI.out.1]
             exact decide_eq_true he)
         have HRW := Lib.hid H.out.1
         have hcc : (k2 != v.length) = false := by simpa using he
         go_wp2_with fail
         go_ret
         have hz3 := HWB.out.size
         have hz4 := HI.out.2.2.2.size
         refine ListQ.good HALL.out HI.out.2.1 ?_ ?_ (HOK.out wr HWB.out).1 (HOK.out wr HWB.out).2.1
         · have h1 := HRW.out
           rw [List.take_of_length_le (by have := HN.out; omega)] at h1
           exact h1.lowR hz2
         · exact (HI.out.2.2.1.below (HWB.out.mono hz4)).more (by omega)
       · have HNO : Hid (allT of v = false) := Lib.hid (by
           unfold allT
           rw [Bool.and_eq_false_iff]
           right
           rw [← HI.out.1]
           exact decide_eq_false he)
         have hcc : (k2 != v.length) = true := by simpa using he
         clear he
         go_wp2_with fail
         go_ret
         exact ListQ.bad (fun h => by rw [HNO.out] at h; cases h.2) HF.out
end Go.Proofs.YtcjiofhjognklaaGreat.Tlv
