/- Lists of values; the bytes of an operation, form by form. -/
import Derived.Test.YtcjiofhjognklaaGreatV27
namespace Go.Proofs.YtcjiofhjognklaaGreat.Tlv
open Go.RowKit
set_option maxRecDepth 100000
set_option linter.deprecated false
set_option linter.unusedVariables false
set_option linter.unusedSimpArgs false
def valsB (t : Int) (ls : List (List Int)) : List Int := ls.flatMap (valB t)
def snds (v : List Int) : List (List Int) := (items v).map (fun x => x.2)
theorem valsB_cons (t : Int) (x : List Int) (ls : List (List Int)) : valsB t (x :: ls) = valB t x ++ valsB t ls := by unfold valsB; rw [List.flatMap_cons]
theorem allT_nil (t : Int) : allT t [] = true ∧ snds [] = [] := by
 unfold allT snds
 rw [items_no (l := []) rfl, endP_no (l := []) rfl]
 simp
theorem allT_stand {t : Int} {v : List Int} (h : stands v = true) : allT t v = (v.getD 0 0 == t && allT t (v.drop (5 + nv v))) ∧ snds v = (v.drop 5).take (nv v) :: snds (v.drop (5 + nv v)) := by
 have hp := stands_parts h
 unfold allT snds
 rw [items_yes h, endP_yes h]
 refine ⟨?_, rfl⟩
 simp only [List.all_cons, List.length_drop]
 have e : decide (5 + nv v + endP (v.drop (5 + nv v)) = v.length) = decide (endP (v.drop (5 + nv v)) = v.length - (5 + nv v)) := by
   rw [decide_eq_decide]
   omega
 rw [e]
 simp only [Bool.and_assoc]
theorem allT_not {t : Int} {v : List Int} (h : stands v = false) (ho : allT t v = true) : v = [] := by
 unfold allT at ho
 rw [items_no h, endP_no h] at ho
 simp at ho
 exact List.eq_nil_of_length_eq_zero ho.symm
theorem allT_inv {t : Int} : ∀ (n : Nat) (v : List Int), v.length ≤ n → Byt v → allT t v = true → v = valsB t (snds v) ∧ ∀ x ∈ snds v, x.length ≤ 4194304 ∧ Byt x := by
 intro n
 induction n with
 | zero =>
   intro v h hb ho
   obtain rfl : v = [] := List.eq_nil_of_length_eq_zero (by omega)
   rw [(allT_nil t).2]
   exact ⟨rfl, fun a ha => by simp at ha⟩
 | succ n ih =>
   intro v h hb ho
   cases hst : stands v with
   | false =>
     obtain rfl := allT_not hst ho
     rw [(allT_nil t).2]
     exact ⟨rfl, fun a ha => by simp at ha⟩
   | true =>
     have hp := stands_parts hst
     obtain ⟨h1, h2⟩ := allT_stand (t := t) hst
     rw [h1] at ho
     obtain ⟨h3, h6⟩ := Bool.and_eq_true_iff.1 ho
     have h3 : v.getD 0 0 = t := by simpa using h3
     have htk : tk false v t = (some ((v.drop 5).take (nv v)), (false, v.drop (5 + nv v))) := by unfold tk; rw [if_neg (by decide), if_pos ⟨hst, h3⟩]
     obtain ⟨_, _, _, h7, h8⟩ := tk_some hb htk
     have hbs : Byt ((v.drop 5).take (nv v)) := fun x hx => hb x (List.mem_of_mem_drop (List.mem_of_mem_take hx))
     obtain ⟨i1, i2⟩ := ih (v.drop (5 + nv v)) (by rw [List.length_drop]; omega) (fun x hx => hb x (List.mem_of_mem_drop hx)) h6
     rw [h2]
     refine ⟨?_, ?_⟩
     · rw [valsB_cons, ← i1]
       exact h7
     · intro a ha
       rcases List.mem_cons.1 ha with rfl | ha
       · exact ⟨h8, hbs⟩
       · exact i2 a ha
theorem allT_vals {t : Int} (ht : t ≠ 0) : ∀ ls : List (List Int), (∀ x ∈ ls, x.length ≤ 4194304) → allT t (valsB t ls) = true ∧ snds (valsB t ls) = ls
 | [], _ => allT_nil t
 | a :: l, h => by
   obtain ⟨i1, i2⟩ := allT_vals ht l fun x hx => h x (List.mem_cons_of_mem _ hx)
   have ha := h a (List.mem_cons_self ..)
   have e1 : tk false (valsB t (a :: l)) t = (some a, (false, valsB t l)) := by
     rw [valsB_cons]
     exact tk_put ht ha
   obtain ⟨h1, h2, h3, h4⟩ := tk_yes e1
   obtain ⟨h5, h6⟩ := allT_stand (t := t) h1
   rw [← h4, i1] at h5
   rw [← h3, ← h4, i2] at h6
   rw [h2] at h5
   exact ⟨by rw [h5]; simp, h6⟩
theorem valB_cancel {t : Int} {x x' y y' : List Int} (ht : t ≠ 0) (hx : x.length ≤ 4194304) (hx' : x'.length ≤ 4194304) (h : valB t x ++ y = valB t x' ++ y') : x = x' ∧ y = y' := by
 have e1 := tk_put (tag := t) (xs := x) (r := y) ht hx
 have e2 := tk_put (tag := t) (xs := x') (r := y') ht hx'
 rw [h, e2] at e1
 simp only [Prod.mk.injEq, Option.some.injEq, true_and] at e1
 exact ⟨e1.1.symm, e1.2.symm⟩
theorem step_vals {t : Int} {r : List Int} (ht : t ≠ 0) (hb : Byt r) (hst : stands r = true) :
   ((tk false r t).2.1 = false ∧ r = valB t ((tk false r t).1.getD []) ++ (tk false r t).2.2 ∧ (tk false r t).2.2.length < r.length ∧ ((tk false r t).1.getD []).length ≤ 4194304) ∨
   ((tk false r t).2.1 = true ∧ (tk false r t).2.2 = r ∧ ∀ l : List (List Int), (∀ a ∈ l, a.length ≤ 4194304) → r ≠ valsB t l) := by
 cases htk : tk false r t with
 | mk o q =>
   obtain ⟨f1, r1⟩ := q
   cases o with
   | none =>
     obtain ⟨x1, x2⟩ := tk_none htk
     refine .inr ⟨x1, x2, fun l hl e => ?_⟩
     cases l with
     | nil => rw [e] at hst; simp [valsB, stands] at hst
     | cons a l' =>
       rw [e, valsB_cons, tk_put ht (hl a (List.mem_cons_self ..))] at htk
       simp at htk
   | some bs =>
     obtain ⟨_, h2, _, h4, h5⟩ := tk_some hb htk
     refine .inl ⟨h2, h4, ?_, h5⟩
     have := congrArg List.length h4
     rw [List.length_append, valB_length] at this
     show r1.length < _
     omega
theorem u8s_len (v : List Int) : (u8s v).length = v.length := by unfold u8s; rw [Array.length_toList]; exact mkS_size v
abbrev mapB (p : List (List UInt8)) : List (List Int) := p.map fun s => bytesOf (sx s)
theorem parts_vals (p : List (List UInt8)) : partsB p = valsB 1 (mapB p) := by
 unfold partsB valsB mapB
 rw [List.flatMap_map]
theorem mapB_len {p : List (List UInt8)} (h : ∀ s ∈ p, s.length ≤ 4194304) : ∀ x ∈ mapB p, x.length ≤ 4194304 := fun x hx => by
 obtain ⟨s, hs, rfl⟩ := List.mem_map.1 hx
 rw [bytes_sx]
 exact h s hs
theorem mapB_u8s {ls : List (List Int)} (h : ∀ x ∈ ls, Byt x) : mapB (ls.map u8s) = ls := by
 rw [mapB, List.map_map]
 conv => rhs; rw [← List.map_id ls]
 exact List.map_congr_left fun x hx => bytes_u8s (h x hx)
theorem u8s_mapB (p : List (List UInt8)) : (mapB p).map u8s = p := by
 rw [mapB, List.map_map]
 conv => rhs; rw [← List.map_id p]
 exact List.map_congr_left fun x hx => u8s_bytes x
theorem took_partsR {f : Bool} {r : List Int} {tag : Int} (hb : Byt r) (ht : tag ≠ 0) :
   Took (fun p => valB tag (partsB p)) SmP f r (if (tk f r tag).2.1 = false ∧ allT 1 ((tk f r tag).1.getD []) = true then (snds ((tk f r tag).1.getD [])).map u8s else []) (if (tk f r tag).2.1 = false ∧ allT 1 ((tk f r tag).1.getD []) = true then false else true) (tk f r tag).2.2 := by
 have h := took_bytes (f := f) hb ht
 have hby := (tk_byt (f := f) (tag := tag) hb).1
 generalize tk f r tag = t at h hby ⊢
 refine ⟨fun h0 => ?_, fun h0 a0 r1 hg e => ?_⟩
 · split at h0
   · rename_i hc
     rw [if_pos hc]
     obtain ⟨h1, h2, h3⟩ := h.1 hc.1
     obtain ⟨i1, i2⟩ := allT_inv _ _ (Nat.le_refl _) hby hc.2
     have e : partsB ((snds (t.1.getD [])).map u8s) = t.1.getD [] := by rw [parts_vals, mapB_u8s fun x hx => (i2 x hx).2, ← i1]
     refine ⟨h1, by dsimp only; rw [e]; exact h2, fun s hs => ?_, by rw [e]; exact h3.1⟩
     obtain ⟨x, hx, rfl⟩ := List.mem_map.1 hs
     rw [u8s_len]
     exact (i2 x hx).1
   · cases h0
 · have hB : Byt (partsB a0) := by
     rw [e] at hb
     intro x hx
     exact hb x (by simp [valB, hx])
   obtain ⟨h1, h2, h3⟩ := h.2 h0 (partsB a0) r1 ⟨hg.2, hB⟩ e
   rw [h1, h2, h3]
   obtain ⟨i1, i2⟩ := allT_vals (t := 1) (by decide) (mapB a0) (mapB_len hg.1)
   rw [parts_vals, i1, i2, u8s_mapB, if_pos ⟨rfl, rfl⟩, if_pos ⟨rfl, rfl⟩]
   exact ⟨rfl, rfl, rfl⟩
theorem took_attrsR {f : Bool} {r : List Int} {tag : Int} (hb : Byt r) (ht : tag ≠ 0) :
   Took (fun l => valB tag (atsB l)) SmL f r (if (tk f r tag).2.1 = false ∧ okL ((tk f r tag).1.getD []) = true then mkL ((tk f r tag).1.getD []) else []) (if (tk f r tag).2.1 = false ∧ okL ((tk f r tag).1.getD []) = true then false else true) (tk f r tag).2.2 := by
 have h := took_bytes (f := f) hb ht
 have hby := (tk_byt (f := f) (tag := tag) hb).1
 generalize tk f r tag = t at h hby ⊢
 refine ⟨fun h0 => ?_, fun h0 a0 r1 hg e => ?_⟩
 · split at h0
   · rename_i hc
     rw [if_pos hc]
     obtain ⟨h1, h2, h3⟩ := h.1 hc.1
     obtain ⟨i1, i2⟩ := okL_inv _ _ (Nat.le_refl _) hby hc.2
     exact ⟨h1, by dsimp only; rw [← i1]; exact h2, i2, by rw [← i1]; exact h3.1⟩
   · cases h0
 · have hB : Byt (atsB a0) := by
     rw [e] at hb
     intro x hx
     exact hb x (by simp [valB, hx])
   obtain ⟨h1, h2, h3⟩ := h.2 h0 (atsB a0) r1 ⟨hg.2, hB⟩ e
   obtain ⟨i1, i2⟩ := okL_ats a0 hg.1
   rw [h1, h2, h3, i1, i2, if_pos ⟨rfl, rfl⟩, if_pos ⟨rfl, rfl⟩]
   exact ⟨rfl, rfl, rfl⟩
structure Gd (o : Opn) : Prop where
 nm : SmT o.name
 ds : SmT o.dst
 la : SmL o.attrs
 lp : SmP o.parts
 cl : SmB o.cur
theorem smT_nil : SmT [] := by show _ ≤ _; decide
theorem smL_nil : SmL [] := ⟨fun a ha => by simp at ha, by show (0 : Nat) ≤ _; decide⟩
theorem smP_nil : SmP [] := ⟨fun a ha => by simp at ha, by show (0 : Nat) ≤ _; decide⟩
theorem smB_nil : SmB [] := ⟨by show (0 : Nat) ≤ _; decide, fun a ha => by simp at ha⟩
theorem partsB_many : ∀ l : List (List UInt8), 5 * l.length ≤ (partsB l).length
 | [] => Nat.le_refl _
 | s :: l => by
   have h1 := partsB_many l
   have h3 : partsB (s :: l) = valB 1 (bytesOf (sx s)) ++ partsB l := by unfold partsB; rw [List.flatMap_cons]
   rw [h3, List.length_append, valB_length, List.length_cons]
   omega
theorem Gd.lim {o : Opn} (h : Gd o) : Lim o := by
 obtain ⟨h1, h2, ⟨h3, h4⟩, ⟨h5, h6⟩, h7, h8⟩ := h
 have ha : o.attrs.length ≤ (atsB o.attrs).length := by rw [atsB_len]; omega
 have hp := partsB_many o.parts
 have k1 : o.name.length ≤ 4194304 := h1
 have k2 : o.dst.length ≤ 4194304 := h2
 refine ⟨by omega, by omega, fun x hx => ?_, ?_, ?_, fun s hs => by have := h5 s hs; omega, by omega, h8⟩
 · have := h3 x hx
   unfold SmA at this
   omega
 · rw [atsB_len] at h4
   omega
 · omega
structure Fin1 (l : List Int) (o : Opn) (f : Bool) (r : List Int) : Prop where
 snd : f = false → r = [] → l = opB o
 cmp : ∀ o0, mayO o0 = true → l = opB o0 → o0 = o ∧ f = false ∧ r = []
 gd : f = false → Gd o
theorem opB_head (o : Opn) : ∃ t, opB o = numB 1 o.k ++ t := by
 unfold opB
 split
 · exact ⟨_, by rw [List.nil_append, List.append_assoc]⟩
 · split
   · exact ⟨_, by rw [List.nil_append, List.append_assoc]⟩
   · split
     · exact ⟨_, by rw [List.nil_append]⟩
     · split
       · exact ⟨_, by rw [List.nil_append, List.append_assoc, List.append_assoc]⟩
       · exact ⟨_, by rw [List.nil_append, List.append_assoc]⟩
theorem kind_is {l r : List Int} {k m : Int} {f : Bool} (hm : 8 ≤ m) (h : Took (numB 1) (SmN m) false l k f r) {o : Opn} (ho : mayO o = true) (hl : l = opB o) : k = o.k ∧ f = false ∧ l = numB 1 o.k ++ r := by
 obtain ⟨t, ht⟩ := opB_head o
 have hg := (mayG ho).k
 obtain ⟨h1, h2, h3⟩ := h.2 rfl o.k t ⟨hg.1, by have := hg.2; omega⟩ (hl.trans ht)
 exact ⟨h1, h2, by rw [hl, ht, h3]⟩
theorem fin_no {l r : List Int} {k m : Int} {f : Bool} (hm : 8 ≤ m) (h : Took (numB 1) (SmN m) false l k f r) (hk : isK k = false) : ∀ o, mayO o = true → l ≠ opB o := fun o ho hl => by
 have := (kind_is hm h ho hl).1
 rw [this, (mayD ho).k] at hk
 cases hk
theorem fin_A {l r1 r2 r3 : List Int} {k m : Int} {f1 f2 f3 : Bool} {nm : List UInt8} {at' : List At} (hm : 8 ≤ m) (h1 : Took (numB 1) (SmN m) false l k f1 r1) (hk : fA k = true) (h2 : Took (txtB 2) SmT f1 r1 nm f2 r2) (h3 : Took (fun l => valB 4 (atsB l)) SmL f2 r2 at' f3 r3) : Fin1 l (opA k nm at') f3 r3 := by
 refine ⟨fun e1 e2 => ?_, fun o ho hl => ?_, fun e1 => ?_⟩
 · obtain ⟨a1, a2, a3⟩ := h3.1 e1
   obtain ⟨b1, b2, b3⟩ := h2.1 a1
   obtain ⟨c1, c2, c3⟩ := h1.1 b1
   unfold opB
   rw [if_pos (show fA (opA k nm at').k = true from hk), c2, b2, a2, e2]
   simp
 · obtain ⟨e1, e2, e3⟩ := kind_is hm h1 ho hl
   have hA : fA o.k = true := by rw [← e1]; exact hk
   have g := mayG ho
   have hl2 := hl
   unfold opB at hl2
   rw [if_pos hA, e3, List.nil_append, List.append_assoc] at hl2
   have hr1 := List.append_cancel_left hl2
   obtain ⟨i1, i2, i3⟩ := h2.2 e2 o.name _ g.nm hr1
   obtain ⟨j1, j2, j3⟩ := h3.2 i2 o.attrs [] g.la (by rw [i3]; simp)
   rw [e1, i1, j1]
   exact ⟨bare_A ho hA, j2, j3⟩
 · have a := h3.1 e1
   have b := h2.1 a.1
   exact ⟨b.2.2, smT_nil, a.2.2, smP_nil, smB_nil⟩
theorem fin_R {l r1 r2 r3 : List Int} {k m : Int} {f1 f2 f3 : Bool} {nm ds : List UInt8} (hm : 8 ≤ m) (h1 : Took (numB 1) (SmN m) false l k f1 r1) (hk : k = 4) (h2 : Took (txtB 2) SmT f1 r1 nm f2 r2) (h3 : Took (txtB 3) SmT f2 r2 ds f3 r3) : Fin1 l (opR 4 nm ds) f3 r3 := by
 subst hk
 refine ⟨fun e1 e2 => ?_, fun o ho hl => ?_, fun e1 => ?_⟩
 · obtain ⟨a1, a2, a3⟩ := h3.1 e1
   obtain ⟨b1, b2, b3⟩ := h2.1 a1
   obtain ⟨c1, c2, c3⟩ := h1.1 b1
   unfold opB
   rw [if_neg (show ¬ fA (opR 4 nm ds).k = true by simp [fA]), if_pos (show fT (opR 4 nm ds).k = true by simp [fT]), c2, b2, a2, e2]
   simp
 · obtain ⟨e1, e2, e3⟩ := kind_is hm h1 ho hl
   have g := mayG ho
   have hl2 := hl
   unfold opB at hl2
   rw [← e1, if_neg (show ¬ fA 4 = true by simp [fA]), if_pos (show fT 4 = true by simp [fT]), e3, ← e1, List.nil_append, List.append_assoc] at hl2
   have hr1 := List.append_cancel_left hl2
   obtain ⟨i1, i2, i3⟩ := h2.2 e2 o.name _ g.nm hr1
   obtain ⟨j1, j2, j3⟩ := h3.2 i2 o.dst [] g.ds (by rw [i3]; simp)
   rw [i1, j1]
   exact ⟨bare_R ho e1.symm, j2, j3⟩
 · have a := h3.1 e1
   have b := h2.1 a.1
   exact ⟨b.2.2, a.2.2, smL_nil, smP_nil, smB_nil⟩
theorem fin_N {l r1 r2 : List Int} {k m : Int} {f1 f2 : Bool} {nm : List UInt8} (hm : 8 ≤ m) (h1 : Took (numB 1) (SmN m) false l k f1 r1) (hk : k = 2 ∨ k = 6) (h2 : Took (txtB 2) SmT f1 r1 nm f2 r2) : Fin1 l (opN k nm) f2 r2 := by
 have kA : fA k = false := by rcases hk with rfl | rfl <;> simp [fA]
 have kT : fT k = false := by rcases hk with rfl | rfl <;> simp [fT]
 have kN : fN k = true := by rcases hk with rfl | rfl <;> simp [fN]
 refine ⟨fun e1 e2 => ?_, fun o ho hl => ?_, fun e1 => ?_⟩
 · obtain ⟨b1, b2, b3⟩ := h2.1 e1
   obtain ⟨c1, c2, c3⟩ := h1.1 b1
   unfold opB
   simp only [kA, kT, kN, if_true, Bool.false_eq_true, if_false]
   rw [c2, b2, e2]
   simp
 · obtain ⟨e1, e2, e3⟩ := kind_is hm h1 ho hl
   have g := mayG ho
   have hl2 := hl
   unfold opB at hl2
   simp only [← e1, kA, kT, kN, if_true, Bool.false_eq_true, if_false] at hl2
   rw [e3, ← e1, List.nil_append] at hl2
   have hr1 := List.append_cancel_left hl2
   obtain ⟨i1, i2, i3⟩ := h2.2 e2 o.name [] g.nm (by rw [hr1]; simp)
   rw [i1]
   exact ⟨by rw [e1]; exact bare_N ho (by rw [← e1]; exact hk), i2, i3⟩
 · have b := h2.1 e1
   exact ⟨b.2.2, smT_nil, smL_nil, smP_nil, smB_nil⟩
theorem fin_P {l r1 r2 r3 r4 : List Int} {k m n : Int} {f1 f2 f3 f4 : Bool} {p : List (List UInt8)} {c : List Int} (hm : 8 ≤ m) (h1 : Took (numB 1) (SmN m) false l k f1 r1) (hk : k = 7) (hby : Byt l) (h2 : Took (fun p => valB 5 (partsB p)) SmP f1 r1 p f2 r2) (h3 : Took (valB 6) SmB f2 r2 c f3 r3) (h4 : Took (numB 7) (SmN 1000) f3 r3 n f4 r4) : Fin1 l (opP 7 p c n) f4 r4 := by
 subst hk
 refine ⟨fun e1 e2 => ?_, fun o ho hl => ?_, fun e1 => ?_⟩
 · obtain ⟨z1, z2, z3⟩ := h4.1 e1
   obtain ⟨a1, a2, a3⟩ := h3.1 z1
   obtain ⟨b1, b2, b3⟩ := h2.1 a1
   obtain ⟨c1, c2, c3⟩ := h1.1 b1
   unfold opB
   simp [fA, fT, fN, fP]
   rw [c2, b2, a2, z2, e2]
   simp
 · obtain ⟨e1, e2, e3⟩ := kind_is hm h1 ho hl
   have g := mayG ho
   have hl2 := hl
   unfold opB at hl2
   rw [← e1] at hl2
   simp only [show fA 7 = false by simp [fA], show fT 7 = false by simp [fT], show fN 7 = false by simp [fN], show fP 7 = true by simp [fP], if_true, Bool.false_eq_true, if_false] at hl2
   have hbc : Byt o.cur := fun x hx => hby x (by rw [hl2]; simp [valB, hx])
   rw [e3, ← e1, List.nil_append, List.append_assoc, List.append_assoc] at hl2
   have hr1 := List.append_cancel_left hl2
   obtain ⟨i1, i2, i3⟩ := h2.2 e2 o.parts _ g.lp hr1
   obtain ⟨j1, j2, j3⟩ := h3.2 i2 o.cur _ ⟨g.cl, hbc⟩ i3
   obtain ⟨q1, q2, q3⟩ := h4.2 j2 o.n [] g.n (by rw [j3]; simp)
   rw [i1, j1, q1]
   exact ⟨bare_P ho e1.symm, q2, q3⟩
 · have z := h4.1 e1
   have a := h3.1 z.1
   have b := h2.1 a.1
   exact ⟨smT_nil, smT_nil, smL_nil, b.2.2, a.2.2⟩
theorem fin_G {l r1 r3 r4 : List Int} {k m n : Int} {f1 f3 f4 : Bool} {c : List Int} (hm : 8 ≤ m) (h1 : Took (numB 1) (SmN m) false l k f1 r1) (hk : k = 8) (hby : Byt l) (h3 : Took (valB 6) SmB f1 r1 c f3 r3) (h4 : Took (numB 7) (SmN 1000) f3 r3 n f4 r4) : Fin1 l (opG 8 c n) f4 r4 := by
 subst hk
 refine ⟨fun e1 e2 => ?_, fun o ho hl => ?_, fun e1 => ?_⟩
 · obtain ⟨z1, z2, z3⟩ := h4.1 e1
   obtain ⟨a1, a2, a3⟩ := h3.1 z1
   obtain ⟨c1, c2, c3⟩ := h1.1 a1
   unfold opB
   simp [fA, fT, fN, fP]
   rw [c2, a2, z2, e2]
   simp
 · obtain ⟨e1, e2, e3⟩ := kind_is hm h1 ho hl
   have g := mayG ho
   have hl2 := hl
   unfold opB at hl2
   rw [← e1] at hl2
   simp only [show fA 8 = false by simp [fA], show fT 8 = false by simp [fT], show fN 8 = false by simp [fN], show fP 8 = false by simp [fP], if_true, Bool.false_eq_true, if_false] at hl2
   have hbc : Byt o.cur := fun x hx => hby x (by rw [hl2]; simp [valB, hx])
   rw [e3, ← e1, List.nil_append, List.append_assoc] at hl2
   have hr1 := List.append_cancel_left hl2
   obtain ⟨j1, j2, j3⟩ := h3.2 e2 o.cur _ ⟨g.cl, hbc⟩ hr1
   obtain ⟨q1, q2, q3⟩ := h4.2 j2 o.n [] g.n (by rw [j3]; simp)
   rw [j1, q1]
   exact ⟨bare_G ho e1.symm, q2, q3⟩
 · have z := h4.1 e1
   have a := h3.1 z.1
   exact ⟨smT_nil, smT_nil, smL_nil, smP_nil, a.2.2⟩
theorem Fin1.none {l r : List Int} {o : Opn} {f : Bool} (h : Fin1 l o f r) (hg : ¬ (f = false ∧ r = [] ∧ mayO o = true)) : ∀ o0, mayO o0 = true → l ≠ opB o0 := fun o0 h1 h2 => by
 obtain ⟨e1, e2, e3⟩ := h.cmp o0 h1 h2
 subst e1
 exact hg ⟨e2, e3, h1⟩
theorem took_byt {α : Type} {P : α → List Int} {G : α → Prop} {f f' : Bool} {r r' : List Int} {a : α} (h : Took P G f r a f' r') (hb : Byt r) (e : f' = false) : Byt r' := fun x hx => hb x (by rw [(h.1 e).2.1]; simp [hx])
theorem fin_ex {l : List Int} (hb : Byt l) : (∀ o, mayO o = true → l ≠ opB o) ∨ ∃ o f r, Fin1 l o f r := by
 have h1 := took_smallV (f := false) (tag := 1) (m := 8) hb (by decide) (by decide)
 generalize smallV 8 (tk false l 1) = x at h1
 obtain ⟨k, f1, r1⟩ := x
 dsimp only at h1
 have hr1 : Byt r1 ∨ f1 = true := by
   cases f1 with
   | true => exact .inr rfl
   | false => exact .inl (took_byt h1 hb rfl)
 rcases hr1 with hr1 | rfl
 · rcases kinds k with rfl | rfl | rfl | rfl | rfl | rfl | rfl | rfl | h2
   · exact .inr ⟨_, _, _, fin_A (by decide) h1 (by simp [fA]) (took_text hr1 (by decide)) (took_attrsR (tk_byt hr1).2.1 (by decide))⟩
   · exact .inr ⟨_, _, _, fin_N (by decide) h1 (.inl rfl) (took_text hr1 (by decide))⟩
   · exact .inr ⟨_, _, _, fin_A (by decide) h1 (by simp [fA]) (took_text hr1 (by decide)) (took_attrsR (tk_byt hr1).2.1 (by decide))⟩
   · exact .inr ⟨_, _, _, fin_R (by decide) h1 rfl (took_text hr1 (by decide)) (took_text (tk_byt hr1).2.1 (by decide))⟩
   · exact .inr ⟨_, _, _, fin_A (by decide) h1 (by simp [fA]) (took_text hr1 (by decide)) (took_attrsR (tk_byt hr1).2.1 (by decide))⟩
   · exact .inr ⟨_, _, _, fin_N (by decide) h1 (.inr rfl) (took_text hr1 (by decide))⟩
   · exact .inr ⟨_, _, _, fin_P (by decide) h1 rfl hb (took_partsR hr1 (by decide)) (took_bytes (tk_byt hr1).2.1 (by decide)) (took_smallV (tk_byt (tk_byt hr1).2.1).2.1 (by decide) (by decide))⟩
   · exact .inr ⟨_, _, _, fin_G (by decide) h1 rfl hb (took_bytes hr1 (by decide)) (took_smallV (tk_byt hr1).2.1 (by decide) (by decide))⟩
   · exact .inl (fin_no (by decide) h1 h2)
 · exact .inl fun o ho hl => by
     have := (kind_is (by decide) h1 ho hl).2.1
     cases this
theorem opB_inj {l : List Int} (hb : Byt l) {o p : Opn} (ho : mayO o = true) (hp : mayO p = true) (h1 : l = opB o) (h2 : l = opB p) : o = p := by
 rcases fin_ex hb with h | ⟨q, f, r, h⟩
 · exact absurd h1 (h o ho)
 · rw [(h.cmp o ho h1).1, (h.cmp p hp h2).1]
end Go.Proofs.YtcjiofhjognklaaGreat.Tlv
