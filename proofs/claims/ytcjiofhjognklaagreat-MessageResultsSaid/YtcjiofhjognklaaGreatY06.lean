/- A reader: its state, and what takes a value off it. -/
import Derived.Test.YtcjiofhjognklaaGreatY05
import Derived.Test.YtcjiofhjognklaaGreatY03
namespace Go.Proofs.YtcjiofhjognklaaGreat.Tlv
open Go.RowKit
set_option maxRecDepth 100000
set_option linter.unusedVariables false
set_option linter.unusedSimpArgs false
theorem valB_length (t : Int) (xs : List Int) : (valB t xs).length = 5 + xs.length := by simp [valB, be4]; omega
theorem bytesOf_mkS {l : List Int} (h : Byt l) : bytesOf (mkS l) = l := by
 have key : ∀ (l : List Int) (r : ByteArray), Byt l → bytesOf (l.foldl (fun r n => r.push (UInt8.ofNat n.toNat)) r) = bytesOf r ++ l := by
   intro l
   induction l with
   | nil => intro r _; simp
   | cons x t ih =>
     intro r hb
     have hx := hb x (by simp)
     simp only [List.foldl_cons]
     rw [ih _ (fun y hy => hb y (by simp [hy]))]
     simp [bytesOf, ByteArray.push]
     omega
 have := key l ByteArray.empty h
 simpa [mkS, bytesOf] using this
theorem mkS_size (l : List Int) : (mkS l).size = l.length := by
 have key : ∀ (l : List Int) (r : ByteArray), (l.foldl (fun r n => r.push (UInt8.ofNat n.toNat)) r).size = r.size + l.length := by
   intro l
   induction l with
   | nil => intro r; rfl
   | cons x t ih => intro r; simp only [List.foldl_cons, List.length_cons]; rw [ih, ByteArray.size_push]; omega
 have := key l ByteArray.empty
 rw [show ByteArray.empty.size = 0 from rfl, Nat.zero_add] at this
 exact this
theorem toList_inj {a b : ByteArray} (h : a.toList = b.toList) : a = b := by
 have : ∀ x : ByteArray, x.toList = x.data.toList := fun x => ByteArray.toList_eq x
 rw [this, this] at h
 cases a; cases b
 simp_all
theorem byt_bytesOf (t : ByteArray) : Byt (bytesOf t) := fun x hx => by
 obtain ⟨b, _, rfl⟩ := List.mem_map.1 hx
 have := b.toNat_lt
 omega
theorem mkS_bytesOf (t : ByteArray) : mkS (bytesOf t) = t := by
 have h := bytesOf_mkS (byt_bytesOf t)
 have inj : ∀ {a b : ByteArray}, bytesOf a = bytesOf b → a = b := fun {a b} h => by
   unfold bytesOf at h
   have h2 : a.data.toList = b.data.toList := by
     refine List.map_inj_right (fun x y e => ?_) |>.1 h
     have e' : x.toNat = y.toNat := by omega
     exact UInt8.toNat_inj.1 e'
   cases a; cases b
   simp only [ByteArray.mk.injEq]
   exact Array.ext' h2
 exact inj h
def RS (W : World) (D g : Nat) (f : Bool) (r : List Int) : Prop :=
 D ≤ g ∧ ∃ A c, Blk W g 160 #[.slice A r.length c, .bool true, .bool f] ∧ Rd W D A r ∧ Byt r ∧ r.length ≤ c ∧ c ≤ 9223372036854775807 ∧ r.length ≤ 100000000
theorem RS.lt {W : World} {D g : Nat} {f : Bool} {r : List Int} (h : RS W D g f r) : g < W.heap.size := by
 obtain ⟨_, A, c, h, _⟩ := h
 exact h.lt
theorem RS.byt {W : World} {D g : Nat} {f : Bool} {r : List Int} (h : RS W D g f r) : Byt r := by
 obtain ⟨_, A, c, _, _, h, _⟩ := h
 exact h
theorem RS.on {W W' : World} {D g : Nat} {f : Bool} {r : List Int} (h : RS W D g f r) (hb : Below W.heap.size W W') : RS W' D g f r := by
 have hlt := h.lt
 obtain ⟨h0, A, c, h1, h2, h3⟩ := h
 exact ⟨h0, A, c, h1.on hb, h2.below (hb.mono (by omega)), h3⟩
def tk (f : Bool) (r : List Int) (tag : Int) : Option (List Int) × (Bool × List Int) :=
 if f = true then (none, (true, r)) else if stands r = true ∧ r.getD 0 0 = tag then (some ((r.drop 5).take (nv r)), (false, r.drop (5 + nv r))) else (none, (true, r))
theorem grownBy_trans {a b c : World} {row : Option Nat} (h : a.grownBy b row) (k : b.grownBy c row) : a.grownBy c row :=
 ⟨k.os.trans h.os, k.tape.trans h.tape, k.output.trans h.output, Nat.le_trans h.size k.size, fun i hi hne => (k.block i (Nat.lt_of_lt_of_le hi h.size) hne).trans (h.block i hi hne)⟩
theorem grownBy_of {a b : World} {row : Option Nat} (h : Below a.heap.size a b) : a.grownBy b row := ⟨h.os, h.tape, h.output, h.size, fun k hk _ => h.block k hk⟩
theorem blk_set_grown (W : World) (g i : Nat) (u : Value) : W.grownBy (W.setCell ⟨g, i, none⟩ u) (some g) := grownBy_set W ⟨g, i, none⟩ u
theorem Rd.gr {W W' : World} {D g : Nat} {A : Option Addr} {r : List Int} (h : Rd W D A r) (hg : W.grownBy W' (some g)) (hd : D ≤ g) (hl : g ≤ W.heap.size) : Rd W' D A r := fun hp => by
 obtain ⟨b, off, e, hlt, hc⟩ := h hp
 refine ⟨b, off, e, hlt, fun j hj => ?_⟩
 exact (World.cell?_of_block (w := W) (a := ⟨b, off + j, none⟩) (hg.block b (by omega) (fun e => by injection e with e; omega))).trans (hc j hj)
theorem stopped_any (D g : Nat) (f : Bool) (r : List Int) (w : World) (hs : RS w D g f r) : Calls Tryz.prog 141 #[.pointer (some ⟨g, 0, none⟩)] w fun e w' => e = .returned (.bool f) ∧ w' = w := by
 obtain ⟨_, A, c, hblk, _⟩ := hs
 have c1 := hblk.cell 1
 have c2 := hblk.cell 2
 clear hblk
 go_enter Tryz.func141, Tryz.ntmps141
 go_wp2
 go_ret
 exact ⟨rfl, rfl⟩
theorem fail_any (D g : Nat) (f : Bool) (r : List Int) (w : World) (hs : RS w D g f r) : Calls Tryz.prog 115 #[.pointer (some ⟨g, 0, none⟩)] w fun e w' => (∃ v, e = .returned v) ∧ RS w' D g true r ∧ w.grownBy w' (some g) := by
 have hlt := hs.lt
 obtain ⟨hD, A, c, hblk, hr, h3⟩ := hs
 have c1 := hblk.cell 1
 have f2 := hblk.frozen 2
 have H := Lib.hid (And.intro hblk hr)
 have H3 := Lib.hid h3
 have c2 := hblk.cell 2
 clear hblk hr h3
 go_enter Tryz.func115, Tryz.ntmps115
 go_wp2
 go_end0
 exact ⟨⟨_, rfl⟩, ⟨hD, A, c, by simpa using H.out.1.set_ 2 (.bool true), H.out.2.gr (blk_set_grown _ _ _ _) hD (by omega), H3.out⟩, blk_set_grown _ _ _ _⟩
set_option maxHeartbeats 2000000 in
theorem take_any (D g : Nat) (f : Bool) (r : List Int) (tag : Int) (w : World) (hs : RS w D g f r) :
   Calls Tryz.prog 116 #[.pointer (some ⟨g, 0, none⟩), .int .u8 tag] w fun e w' =>
     ((∃ v A1, (tk f r tag).1 = some v ∧ e = .returned (.tuple #[.slice A1 v.length v.length, .bool true]) ∧ Rd w' D A1 v) ∨ ((tk f r tag).1 = none ∧ e = .returned (.tuple #[.slice none 0 0, .bool false]))) ∧
     RS w' D g (tk f r tag).2.1 (tk f r tag).2.2 ∧ w.grownBy w' (some g) := by
 have hst := Lib.hid (stopped_any D g f r w hs)
 have HS := Lib.hid hs
 cases f with
 | true =>
   have ht : tk true r tag = (none, (true, r)) := by simp [tk]
   rw [ht]
   clear hs
   go_enter Tryz.func116, Tryz.ntmps116
   go_wp2_with fail
   refine hst.out.mono ?_
   rintro e w1 ⟨rfl, rfl⟩
   go_wp2_with fail
   go_ret2
   exact ⟨.inr ⟨by trivial, rfl⟩, HS.out, World.grownBy.refl _ _⟩
 | false =>
   have hlt := hs.lt
   obtain ⟨hD, A, c, hblk, hr, hby, h1, h2, h3⟩ := hs
   have c0 := hblk.cell 0
   have hv := Lib.hid (value_any A c D r w hr hby (by omega) h1 h2)
   have HB := Lib.hid hblk
   have HR := Lib.hid hr
   have HY := Lib.hid hby
   clear hblk hr hby
   cases hsd : stands r with
   | false =>
     have ht : tk false r tag = (none, (true, r)) := by simp [tk, hsd]
     rw [ht]
     go_enter Tryz.func116, Tryz.ntmps116
     go_wp2_with fail
     refine hst.out.mono ?_
     rintro e w1 ⟨rfl, rfl⟩
     clear hst
     go_wp2_with fail
     refine hv.out.mono ?_
     clear hv ht
     rintro e w2 ⟨⟨m, rfl⟩, (⟨hn, rfl⟩ | ⟨hy, _⟩)⟩
     rotate_left
     · rw [hsd] at hy; cases hy
     have hf := Lib.hid (fail_any D g false r (w1.drewN m) (HS.out.on (below_drewN (Below.refl _ _) m)))
     clear hn hsd
     go_wp2_with fail
     refine hf.out.mono ?_
     rintro e w3 ⟨⟨v, rfl⟩, h4, h5⟩
     go_wp2_with fail
     go_ret2
     exact ⟨.inr ⟨by trivial, rfl⟩, h4, grownBy_trans (grownBy_of (below_drewN (Below.refl _ _) m)) h5⟩
   | true =>
     obtain ⟨p1, p2, p3, p4⟩ : 5 ≤ r.length ∧ r.getD 0 0 ≠ 0 ∧ nv r ≤ 4194304 ∧ 5 + nv r ≤ r.length := of_decide_eq_true hsd
     have hz : (r.getD 0 0 == 0) = false := by simpa using p2
     by_cases hq : r.getD 0 0 = tag
     · have ht : tk false r tag = (some ((r.drop 5).take (nv r)), (false, r.drop (5 + nv r))) := by unfold tk; rw [if_neg (by decide), if_pos ⟨hsd, hq⟩]
       have hlen : ((r.drop 5).take (nv r)).length = nv r := by rw [List.length_take, List.length_drop]; omega
       have hq' : (r.getD 0 0 == tag) = true := by simpa using hq
       have f0 := HB.out.frozen 0
       have HL := Lib.hid hlen
       have HYd : Hid (Byt (r.drop (5 + nv r))) := Lib.hid (fun x hx => HY.out x (List.mem_of_mem_drop hx))
       have HDL : Hid ((r.drop (5 + nv r)).length = r.length - (5 + nv r)) := Lib.hid (List.length_drop ..)
       clear hlen hq HS
       generalize (r.drop 5).take (nv r) = bs at *
       generalize hr' : r.drop (5 + nv r) = r' at *
       rw [ht]
       clear ht
       generalize nv r = nn at *
       generalize r.getD 0 0 = t0 at *
       clear hr'
       go_enter Tryz.func116, Tryz.ntmps116
       go_wp2_with fail
       refine hst.out.mono ?_
       rintro e w1 ⟨rfl, rfl⟩
       clear hst
       go_wp2_with fail
       refine hv.out.mono ?_
       clear hv
       rintro e w2 ⟨⟨m, rfl⟩, (⟨hn, _⟩ | ⟨hy, A1, A2, rfl, hr1, hr2⟩)⟩
       · rw [hsd] at hn; cases hn
       have HT : Hid (Rd w1 D A1 bs ∧ Rd w1 D A2 r') := Lib.hid ⟨hr1, hr2⟩
       clear hr1 hr2 hy hsd
       go_wp2_with fail
       go_ret2
       have hg := blk_set_grown (w1.drewN m) g 0 (.slice A2 (r.length - (5 + nn)) (r.length - (5 + nn)))
       have hR1 : Rd (w1.drewN m) D A1 bs := HT.out.1
       have hR2 : Rd (w1.drewN m) D A2 r' := HT.out.2
       refine ⟨.inl ⟨bs, A1, rfl, by rw [HL.out]; rfl, hR1.gr hg hD (by show g ≤ w1.heap.size; omega)⟩, ⟨hD, A2, r.length - (5 + nn), ?_, hR2.gr hg hD (by show g ≤ w1.heap.size; omega), HYd.out, by rw [HDL.out]; exact Nat.le_refl _, by omega, by rw [HDL.out]; omega⟩, grownBy_trans (grownBy_of (below_drewN (Below.refl _ _) m)) hg⟩
       rw [HDL.out]
       simpa using (HB.out.drewN m).set_ 0 (.slice A2 (r.length - (5 + nn)) (r.length - (5 + nn)))
     · have ht : tk false r tag = (none, (true, r)) := by unfold tk; rw [if_neg (by decide), if_neg (fun h => hq h.2)]
       rw [ht]
       have hq' : (r.getD 0 0 == tag) = false := by simpa using hq
       clear hq ht
       go_enter Tryz.func116, Tryz.ntmps116
       go_wp2_with fail
       refine hst.out.mono ?_
       rintro e w1 ⟨rfl, rfl⟩
       clear hst
       go_wp2_with fail
       refine hv.out.mono ?_
       clear hv
       rintro e w2 ⟨⟨m, rfl⟩, (⟨hn, _⟩ | ⟨hy, A1, A2, rfl, hr1, hr2⟩)⟩
       · rw [hsd] at hn; cases hn
       have hf := Lib.hid (fail_any D g false r (w1.drewN m) (HS.out.on (below_drewN (Below.refl _ _) m)))
       clear hr1 hr2 hy hsd
       generalize r.getD 0 0 = t0 at *
       generalize nv r = nn at *
       go_wp2_with fail
       refine hf.out.mono ?_
       rintro e w3 ⟨⟨v, rfl⟩, h4, h5⟩
       go_wp2_with fail
       go_ret2
       exact ⟨.inr ⟨by trivial, rfl⟩, h4, grownBy_trans (grownBy_of (below_drewN (Below.refl _ _) m)) h5⟩
theorem stands_put {tag : Int} {xs r : List Int} (ht : tag ≠ 0) (hx : xs.length ≤ 4194304) : nv (valB tag xs ++ r) = xs.length ∧ stands (valB tag xs ++ r) = true ∧ (valB tag xs ++ r).getD 0 0 = tag ∧ (valB tag xs ++ r).drop 5 = xs ++ r := by
 have h1 : nv (valB tag xs ++ r) = xs.length := by
   unfold nv valB be4
   simp only [List.cons_append, List.getD_cons_succ, List.getD_cons_zero, List.nil_append]
   omega
 refine ⟨h1, ?_, rfl, rfl⟩
 unfold stands
 rw [h1, decide_eq_true_eq]
 refine ⟨by rw [List.length_append, valB_length]; omega, ht, hx, by rw [List.length_append, valB_length]; omega⟩
theorem tk_put {tag : Int} {xs r : List Int} (ht : tag ≠ 0) (hx : xs.length ≤ 4194304) : tk false (valB tag xs ++ r) tag = (some xs, (false, r)) := by
 obtain ⟨h1, h2, h3, h4⟩ := stands_put (r := r) ht hx
 unfold tk
 rw [if_neg (by decide), if_pos ⟨h2, h3⟩, h1, h4, ← List.drop_drop, h4]
 simp
theorem stands_inv {r : List Int} (hb : Byt r) (h : stands r = true) : r = valB (r.getD 0 0) ((r.drop 5).take (nv r)) ++ r.drop (5 + nv r) ∧ ((r.drop 5).take (nv r)).length = nv r ∧ nv r ≤ 4194304 := by
 obtain ⟨p1, p2, p3, p4⟩ : 5 ≤ r.length ∧ r.getD 0 0 ≠ 0 ∧ nv r ≤ 4194304 ∧ 5 + nv r ≤ r.length := of_decide_eq_true h
 have hl : ((r.drop 5).take (nv r)).length = nv r := by rw [List.length_take, List.length_drop]; omega
 refine ⟨?_, hl, p3⟩
 match r, p1 with
 | a :: b :: c :: d :: e :: t, _ =>
   have y1 := hb b (by simp)
   have y2 := hb c (by simp)
   have y3 := hb d (by simp)
   have y4 := hb e (by simp)
   have hn : (nv (a :: b :: c :: d :: e :: t) : Int) = b * 16777216 + c * 65536 + d * 256 + e := by
     unfold nv
     simp only [List.getD_cons_succ, List.getD_cons_zero]
     omega
   unfold valB
   rw [hl]
   generalize nv (a :: b :: c :: d :: e :: t) = n at *
   have e1 : be4 n = [b, c, d, e] := by unfold be4; rw [hn]; simp only [List.cons.injEq, and_true]; omega
   rw [e1]
   simp [List.getD_cons_zero, Nat.add_comm 5 n, ← List.drop_drop]
theorem tk_some {f f' : Bool} {r r' v : List Int} {tag : Int} (hb : Byt r) (h : tk f r tag = (some v, (f', r'))) : f = false ∧ f' = false ∧ tag ≠ 0 ∧ r = valB tag v ++ r' ∧ v.length ≤ 4194304 := by
 unfold tk at h
 split at h
 · simp at h
 · rename_i hf
   split at h
   · rename_i hs
     obtain ⟨h1, h2, h3⟩ := stands_inv hb hs.1
     simp only [Prod.mk.injEq, Option.some.injEq] at h
     obtain ⟨rfl, rfl, rfl⟩ := h
     have hz : r.getD 0 0 ≠ 0 := (of_decide_eq_true hs.1).2.1
     rw [hs.2] at h1 hz
     exact ⟨by simpa using hf, rfl, hz, h1, by omega⟩
   · simp at h
theorem tk_none {f f' : Bool} {r r' : List Int} {tag : Int} (h : tk f r tag = (none, (f', r'))) : f' = true ∧ r' = r := by
 unfold tk at h
 split at h
 · simp at h; exact ⟨h.1, h.2.symm⟩
 · split at h
   · simp at h
   · simp at h; exact ⟨h.1, h.2.symm⟩
set_option maxHeartbeats 1000000 in
theorem tag_any (D g : Nat) (f : Bool) (r : List Int) (w : World) (hs : RS w D g f r) :
   Calls Tryz.prog 144 #[.pointer (some ⟨g, 0, none⟩)] w fun e w' => (∃ t, e = .returned (.int .u8 t) ∧ ((t = 0 ∧ (f = true ∨ stands r = false)) ∨ (t ≠ 0 ∧ f = false ∧ stands r = true ∧ t = r.getD 0 0))) ∧ ∃ m, w' = w.drewN m := by
 have hst := Lib.hid (stopped_any D g f r w hs)
 cases f with
 | true =>
   clear hs
   go_enter Tryz.func144, Tryz.ntmps144
   go_wp2_with fail
   refine hst.out.mono ?_
   rintro e w1 ⟨rfl, rfl⟩
   go_wp2_with fail
   go_ret
   exact ⟨⟨0, rfl, .inl ⟨rfl, .inl (by trivial)⟩⟩, 0, rfl⟩
 | false =>
   obtain ⟨hD, A, c, hblk, hr, hby, h1, h2, h3⟩ := hs
   have c0 := hblk.cell 0
   have hv := Lib.hid (value_any A c D r w hr hby (by omega) h1 h2)
   clear hblk hr hby
   go_enter Tryz.func144, Tryz.ntmps144
   go_wp2_with fail
   refine hst.out.mono ?_
   rintro e w1 ⟨rfl, rfl⟩
   clear hst
   go_wp2_with fail
   refine hv.out.mono ?_
   clear hv
   rintro e w2 ⟨⟨m, rfl⟩, (⟨hn, rfl⟩ | ⟨hy, A1, A2, rfl, _, _⟩)⟩
   · have HN := Lib.hid hn
     clear hn
     go_wp2_with fail
     go_ret
     exact ⟨⟨0, rfl, .inl ⟨rfl, .inr HN.out⟩⟩, m, rfl⟩
   · have HN := Lib.hid hy
     have hz : r.getD 0 0 ≠ 0 := (of_decide_eq_true hy).2.1
     have HZ := Lib.hid hz
     clear hy hz
     go_wp2_with fail
     go_ret
     exact ⟨⟨_, rfl, .inr ⟨HZ.out, by trivial, HN.out, rfl⟩⟩, m, rfl⟩
set_option maxHeartbeats 1000000 in
theorem bytes_r (D g : Nat) (f : Bool) (r : List Int) (tag : Int) (w : World) (hs : RS w D g f r) :
   Calls Tryz.prog 58 #[.pointer (some ⟨g, 0, none⟩), .int .u8 tag] w fun e w' => ∃ v, e = .returned v ∧ Row w' w.heap.size v (((tk f r tag).1).getD []) ∧ RS w' D g (tk f r tag).2.1 (tk f r tag).2.2 ∧ w.grownBy w' (some g) := by
 have ht := Lib.hid (take_any D g f r tag w hs)
 have hlen : ∀ v, (tk f r tag).1 = some v → v.length ≤ 100000000 := fun v h => by
   obtain ⟨h1, h2, h3, h4, h5⟩ := tk_some (f' := (tk f r tag).2.1) (r' := (tk f r tag).2.2) hs.byt (by rw [← h])
   omega
 have hlt := hs.lt
 have hD := hs.1
 have HL := Lib.hid hlen
 generalize tk f r tag = t at *
 obtain ⟨v0, f0, r0⟩ := t
 clear hs hlen
 go_enter Tryz.func58, Tryz.ntmps58
 go_wp2_with fail
 refine ht.out.mono ?_
 clear ht
 rintro e w1 ⟨h, hrs, hg⟩
 have hsz := hg.size
 have HRS := Lib.hid (And.intro hrs hg)
 have key : ∀ A1 (v : List Int), Rd w1 D A1 v → v.length ≤ 100000000 → Hid (Calls Tryz.prog 100 #[.slice A1 v.length v.length] w1 fun e w' => ∃ v', e = .returned v' ∧ Row w' w.heap.size v' v ∧ Below w1.heap.size w1 w') := fun A1 v h1 h2 => Lib.hid ((clone_any A1 v.length v w1 (h1.more (by omega)) (by omega)).mono fun e w' ⟨v', e1, e2, e3⟩ => ⟨v', e1, ⟨e2.1, e2.2.imp id fun ⟨g', c', cur, a1, a2, a3⟩ => ⟨g', c', cur, a1, by omega, a3⟩⟩, e3⟩)
 rcases h with ⟨v, A1, rfl, rfl, hr⟩ | ⟨rfl, rfl⟩
 · have hc := key A1 v hr (HL.out v rfl)
   clear hr key hrs hg
   go_wp2_with fail
   refine hc.out.mono ?_
   rintro e w2 ⟨v', rfl, h1, h2⟩
   go_wp2_with fail
   go_ret
   exact ⟨v', rfl, h1, HRS.out.1.on h2, grownBy_trans HRS.out.2 (grownBy_of h2)⟩
 · have hc := key none [] Rd.nil (by simp)
   clear key hrs hg
   go_wp2_with fail
   refine hc.out.mono ?_
   rintro e w2 ⟨v', rfl, h1, h2⟩
   go_wp2_with fail
   go_ret
   exact ⟨v', rfl, h1, HRS.out.1.on h2, grownBy_trans HRS.out.2 (grownBy_of h2)⟩
set_option maxHeartbeats 1000000 in
theorem text_r (D g : Nat) (f : Bool) (r : List Int) (tag : Int) (w : World) (hs : RS w D g f r) :
   Calls Tryz.prog 54 #[.pointer (some ⟨g, 0, none⟩), .int .u8 tag] w fun e w' => e = .returned (.string (mkS (((tk f r tag).1).getD []))) ∧ RS w' D g (tk f r tag).2.1 (tk f r tag).2.2 ∧ w.grownBy w' (some g) := by
 have ht := Lib.hid (take_any D g f r tag w hs)
 generalize tk f r tag = t at *
 obtain ⟨v0, f0, r0⟩ := t
 clear hs
 go_enter Tryz.func54, Tryz.ntmps54
 go_wp2_with fail
 refine ht.out.mono ?_
 clear ht
 rintro e w1 ⟨h, hrs, hg⟩
 have HRS := Lib.hid (And.intro hrs hg)
 clear hrs hg
 rcases h with ⟨v, A1, rfl, rfl, hr⟩ | ⟨rfl, rfl⟩
 · have hcv := conv_of w1 A1 v.length D v hr (by cases A1 <;> simp)
   clear hr
   go_wp2_with fail
   go_ret
   exact ⟨rfl, HRS.out⟩
 · have hcv : (convert 25 9 (.slice none 0 0)).run Tryz.prog w1 = .ok (.string (mkS [])) w1 := conv_of w1 none 0 0 [] Rd.nil (.inr rfl)
   go_wp2_with fail
   go_ret
   exact ⟨rfl, HRS.out⟩
set_option maxHeartbeats 1000000 in
theorem rend_any (D g : Nat) (f : Bool) (r : List Int) (w : World) (hs : RS w D g f r) :
   Calls Tryz.prog 59 #[.pointer (some ⟨g, 0, none⟩)] w fun e w' => (∃ n, e = .returned (.int .i64 n) ∧ (n = 0 ↔ (f = false ∧ r = []))) ∧ w' = w := by
 obtain ⟨_, A, c, hblk, _⟩ := hs
 have c0 := hblk.cell 0
 have c1 := hblk.cell 1
 have c2 := hblk.cell 2
 clear hblk
 cases f with
 | true =>
   go_enter Tryz.func59, Tryz.ntmps59
   go_wp2
   go_ret
   exact ⟨⟨4, rfl, by simp⟩, rfl⟩
 | false =>
   cases r with
   | nil =>
     go_enter Tryz.func59, Tryz.ntmps59
     go_wp2
     go_ret
     exact ⟨⟨0, rfl, by simp⟩, rfl⟩
   | cons x t =>
     have hd : decide ((0 : Int) < ((x :: t).length : Int)) = true := by simp
     generalize hl : (x :: t).length = n at *
     have hn : 0 < n := by rw [← hl]; simp
     go_enter Tryz.func59, Tryz.ntmps59
     go_wp2
     go_ret
     exact ⟨⟨4, rfl, by simp⟩, rfl⟩
end Go.Proofs.YtcjiofhjognklaaGreat.Tlv
