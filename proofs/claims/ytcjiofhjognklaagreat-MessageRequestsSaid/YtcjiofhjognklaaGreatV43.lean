/- Where the document's OpOf stands. -/
import Derived.Test.YtcjiofhjognklaaGreatV31
import Derived.Test.YtcjiofhjognklaaGreatV34
import Derived.Test.YtcjiofhjognklaaGreatV25
namespace Go.Proofs.YtcjiofhjognklaaGreat.Tlv
open Go.RowKit
set_option maxRecDepth 100000
set_option linter.unusedVariables false
set_option linter.unusedSimpArgs false
theorem u8s_cx (l : List Int) : u8s l = cx l := by
 unfold u8s cx
 have key : ∀ (l : List Int) (b : ByteArray), (l.foldl (fun r n => r.push (UInt8.ofNat n.toNat)) b).data.toList = b.data.toList ++ l.map (fun n => UInt8.ofNat n.toNat) := by
   intro l
   induction l with
   | nil => intro b; simp
   | cons x t ih => intro b; rw [List.foldl_cons, ih]; simp [ByteArray.push]
 have := key l ByteArray.empty
 simpa [mkS] using this
theorem RR.new2 {w : World} {B : Nat} {A : Option Addr} {c : Nat} {bs : List Int} (h : Rd w B A bs) (h1 : bs.length ≤ c) (h2 : c ≤ 9223372036854775807) (hb : Byt bs) (hl : bs.length ≤ 100000000) (hB : B ≤ w.heap.size) :
   RR (w.alloc (.cells #[.slice A bs.length c, .bool false] 107)) B w.heap.size false bs :=
 ⟨hB, _, c, Blk.new _ _ _, h.below ((Below.refl B w).alloc hB _), hb, h1, h2, hl⟩
theorem RR.blk {W : World} {D g : Nat} {f : Bool} {r : List Int} (h : RR W D g f r) : ∃ cs, Blk W g 107 cs := by
 obtain ⟨_, A, c, h1, _⟩ := h
 exact ⟨_, h1⟩
def RdD (D : Nat) (w : World) (v : Value) (l : List Int) : Prop := ∃ A c, v = .slice A l.length c ∧ ((A = none → c = 0) ∧ l.length ≤ c ∧ c ≤ maxLen) ∧ Rd w D A l
theorem RdD.nil (D : Nat) (w : World) : RdD D w (.slice none 0 0) [] := ⟨none, 0, rfl, ⟨fun _ => rfl, Nat.le_refl _, Nat.zero_le _⟩, fun h => by simp at h⟩
theorem RdD.below {D : Nat} {w w' : World} {v : Value} {l : List Int} (h : RdD D w v l) (hb : Below D w w') : RdD D w' v l := by
 obtain ⟨A, c, e, h0, h1⟩ := h
 exact ⟨A, c, e, h0, h1.below hb⟩
theorem RdD.rdc {D : Nat} {w : World} {v : Value} {l : List Int} (h : RdD D w v l) (hD : D ≤ w.heap.size) : RdC w v l := by
 obtain ⟨A, c, e, h0, h1⟩ := h
 exact ⟨A, c, e, h0, h1.more hD⟩
theorem take_rdD {D g : Nat} {t : Option (List Int) × Bool × List Int} {w w' : World} {e : Ending} (h : TakeR D g t w e w') : ∃ v, e = .returned v ∧ RdD D w' v (t.1.getD []) ∧ RR w' D g t.2.1 t.2.2 ∧ w.grownBy w' (some g) := by
 obtain ⟨A1, c1, e1, h1, h2, h3, h4, h5, h6, h7⟩ := take_form h
 exact ⟨_, e1, ⟨A1, c1, rfl, ⟨h2, h4, by unfold maxLen; omega⟩, h1⟩, h6, h7⟩
structure OR (w : World) (g Bo : Nat) (o : Opn) (va vp vc : Value) (f : Bool) (r : List Int) (W : World) : Prop where
 bel : Below w.heap.size w W
 rr : Blk W w.heap.size 27 zCs
 oo : Blk W Bo 27 (opCs o va vp vc)
 rs : RR W w.heap.size g f r
 n1 : w.heap.size < g
 n2 : g < Bo
 ra : YtcjiofhjognklaaGreat.RowK kA W w.heap.size va o.attrs
 rp : RowK kStr W w.heap.size vp o.parts
 rc : RdD w.heap.size W vc o.cur
section
variable {w W W' : World} {g Bo : Nat} {o : Opn} {va vp vc : Value} {f f' : Bool} {r r' : List Int}
theorem OR.gr (h : OR w g Bo o va vp vc f r W) (hg : W.grownBy W' (some g)) (hs : RR W' w.heap.size g f' r') : OR w g Bo o va vp vc f' r' W' := by
 obtain ⟨cs, hk⟩ := h.rs.blk
 have h1 := h.n1
 have h2 := h.n2
 have hb : Below w.heap.size W W' := below_grownR hg (by omega) (by have := h.bel.size; omega)
 exact ⟨h.bel.trans hb, h.rr.grown hg (fun e => by injection e with e; omega), h.oo.grown hg (fun e => by injection e with e; omega), hs, h1, h2,
   rowA_by h.ra hg hk (by decide), RowK.byT h.rp hg hk (by decide), h.rc.below hb⟩
theorem OR.st (h : OR w g Bo o va vp vc f r W) {o' : Opn} {va' vp' vc' : Value} (i : Nat) (u : Value) (he : (opCs o va vp vc).setIfInBounds i u = opCs o' va' vp' vc')
   (hra : YtcjiofhjognklaaGreat.RowK kA W w.heap.size va' o'.attrs) (hrp : RowK kStr W w.heap.size vp' o'.parts) (hrc : RdD w.heap.size W vc' o'.cur) : OR w g Bo o' va' vp' vc' f r (W.setCell ⟨Bo, i, none⟩ u) := by
 have h1 := h.n1
 have h2 := h.n2
 have hlt := h.oo.lt
 exact ⟨h.bel.setCell (p := ⟨Bo, i, none⟩) (show w.heap.size ≤ Bo by omega) u, h.rr.far (p := ⟨Bo, i, none⟩) (show w.heap.size ≠ Bo by omega) u, by rw [← he]; exact h.oo.set_ i u, h.rs.far (by omega) (by omega) hlt u, h1, h2,
   rowA_set hra h.oo (by decide), RowK.setT hrp h.oo (by decide), hrc.below ((Below.refl w.heap.size W).setCell (p := ⟨Bo, i, none⟩) (show w.heap.size ≤ Bo by omega) u)⟩
theorem OR.kind (h : OR w g Bo o va vp vc f r W) (k : Int) : OR w g Bo { o with k := k } va vp vc f r (W.setCell ⟨Bo, 0, none⟩ (.int .i64 k)) := h.st 0 _ rfl h.ra h.rp h.rc
theorem OR.name (h : OR w g Bo o va vp vc f r W) (s : List UInt8) : OR w g Bo { o with name := s } va vp vc f r (W.setCell ⟨Bo, 1, none⟩ (.string (sx s))) := h.st 1 _ rfl h.ra h.rp h.rc
theorem OR.dst (h : OR w g Bo o va vp vc f r W) (s : List UInt8) : OR w g Bo { o with dst := s } va vp vc f r (W.setCell ⟨Bo, 2, none⟩ (.string (sx s))) := h.st 2 _ rfl h.ra h.rp h.rc
theorem OR.attrs (h : OR w g Bo o va vp vc f r W) (v : Value) (l : List At) (hr : YtcjiofhjognklaaGreat.RowK kA W w.heap.size v l) : OR w g Bo { o with attrs := l } v vp vc f r (W.setCell ⟨Bo, 3, none⟩ v) := h.st 3 _ rfl hr h.rp h.rc
theorem OR.cur (h : OR w g Bo o va vp vc f r W) (v : Value) (l : List Int) (hr : RdD w.heap.size W v l) : OR w g Bo { o with cur := l } va vp v f r (W.setCell ⟨Bo, 5, none⟩ v) := h.st 5 _ rfl h.ra h.rp hr
theorem OR.num (h : OR w g Bo o va vp vc f r W) (n : Int) : OR w g Bo { o with n := n } va vp vc f r (W.setCell ⟨Bo, 6, none⟩ (.int .i64 n)) := h.st 6 _ rfl h.ra h.rp h.rc
theorem OR.at_ (h : OR w g Bo o va vp vc f r W) : OpAt W o va vp vc := ⟨YtcjiofhjognklaaGreat.RowK.rdv h.ra, h.rp.rdp, h.rc.rdc h.bel.size⟩
theorem OR.on (h : OR w g Bo o va vp vc f r W) (hb : Below W.heap.size W W') : OR w g Bo o va vp vc f r W' := by
 obtain ⟨cs, hk⟩ := h.rs.blk
 exact ⟨h.bel.trans (hb.mono h.bel.size), h.rr.on hb, h.oo.on hb, h.rs.on hb, h.n1, h.n2, rowA_by h.ra (grownBy_of (row := some g) hb) hk (by decide), RowK.onT h.rp hb, h.rc.below (hb.mono h.bel.size)⟩
theorem OR.out (h : OR w g Bo o va vp vc f r W) (cs : Array Value) : OpNew (W.setRow w.heap.size cs) w.heap.size o va vp vc ∧ Below w.heap.size w (W.setRow w.heap.size cs) ∧ Blk (W.setRow w.heap.size cs) w.heap.size 27 cs := by
 have hne : ∀ k, k ≠ w.heap.size → (W.setRow w.heap.size cs).heap[k]? = W.heap[k]? := fun k hk => setRow_other W w.heap.size k cs hk
 have hb := below_setRow h.bel (Nat.le_refl _) cs
 refine ⟨⟨?_, ?_, ?_⟩, hb, h.rr.row cs⟩
 · exact RowK.fit h.ra fun k e => hne k (fun e2 => by
     obtain ⟨_, _, cs', hc⟩ := own_at h.ra e
     exact blk_ne hc h.rr (by decide) e2)
 · exact RowK.fitT h.rp fun k e => hne k (fun e2 => by
     obtain ⟨_, _, cs', hc⟩ := own_atT h.rp e
     exact blk_ne hc h.rr (by decide) e2)
 · exact (h.rc.below (below_setRow (Below.refl w.heap.size W) (Nat.le_refl _) cs)).rdc hb.size
theorem OR.one (h : OR w g Bo o va vp vc f r W) : (opCs o va vp vc).all (·.oneCell') = true := by
 obtain ⟨A1, c1, e1, _⟩ := YtcjiofhjognklaaGreat.RowK.rdv h.ra
 obtain ⟨A2, c2, e2, _⟩ := h.rp.rdp
 obtain ⟨A3, c3, e3, _⟩ := h.rc
 subst e1 e2 e3
 kernel_rfl
end
def RefOpOut (w : World) (l : List Int) (e : Ending) (w' : World) : Prop :=
 (∃ (o : Opn) (va vp vc : Value), mayO o = true ∧ l = opB o ∧ e = .returned (.tuple #[opVal o va vp vc, .bool true]) ∧ OpNew w' w.heap.size o va vp vc ∧ Lim o ∧ Below w.heap.size w w') ∨
 ((∀ o, mayO o = true → l ≠ opB o) ∧ e = .returned (.tuple #[.agg zCs, .bool false]) ∧ Below w.heap.size w w')
theorem rd_not_op {W : World} {B Bo : Nat} {A : Option Addr} {bs : List Int} {o : Opn} {A1 A2 A3 : Option Addr} {n1 n2 n3 c1 c2 c3 : Nat} (h : Rd W B A bs) (hk : Blk W Bo 27 (opCs o (.slice A1 n1 c1) (.slice A2 n2 c2) (.slice A3 n3 c3))) (hp : 0 < bs.length) : ∃ b off, A = some ⟨b, off, none⟩ ∧ b < B ∧ b ≠ Bo := by
 obtain ⟨b, off, e, hl, hc⟩ := h hp
 refine ⟨b, off, e, hl, fun e2 => ?_⟩
 subst e2
 have h0 := hc 0 hp
 rw [hk.cell] at h0
 rcases off with _ | _ | _ | _ | _ | _ | _ | off <;> simp [opCs] at h0
end Go.Proofs.YtcjiofhjognklaaGreat.Tlv
namespace Go.Proofs.YtcjiofhjognklaaGreat.Tlv
open Go.RowKit
set_option maxRecDepth 100000
set_option linter.unusedVariables false
set_option linter.unusedSimpArgs false
theorem items_five : ∀ (n : Nat) (l : List Int), l.length ≤ n → 5 * (items l).length ≤ l.length := by
 intro n
 induction n with
 | zero =>
   intro l h
   obtain rfl : l = [] := List.eq_nil_of_length_eq_zero (by omega)
   rw [items_no (l := []) rfl]
   exact Nat.le_refl _
 | succ n ih =>
   intro l h
   cases hst : stands l with
   | false => rw [items_no hst]; simp
   | true =>
     have hp := (of_decide_eq_true hst : 5 ≤ l.length ∧ _)
     have := ih (l.drop (5 + nv l)) (by rw [List.length_drop]; omega)
     rw [List.length_drop] at this
     unfold items
     rw [dif_pos hst]
     simp only [List.length_cons]
     omega
theorem numV_rest (t : Option (List Int) × Bool × List Int) : (numV t).2.2 = t.2.2 := by
 unfold numV
 split <;> rfl
theorem takeQ_out {D g : Nat} {t : Option (List Int) × Bool × List Int} {w w' : World} {e : Ending} {l : List At} {f' : Bool} (h1 : (if t.2.1 = false ∧ okL (t.1.getD []) = true then mkL (t.1.getD []) else []) = l) (h2 : (if t.2.1 = false ∧ okL (t.1.getD []) = true then false else true) = f')
   (h : TakeQ D g t.2.1 t.2.2 (t.1.getD []) w e w') : ∃ A c n, e = .returned (.slice A n c) ∧ YtcjiofhjognklaaGreat.RowK kA w' w.heap.size (.slice A n c) l ∧ RR w' D g f' t.2.2 ∧ w.grownBy w' (some g) := by
 obtain ⟨h, hg⟩ := h
 split at h
 · rename_i hc
   rw [if_pos hc] at h1 h2
   obtain ⟨u, e1, hr, hs⟩ := h
   obtain ⟨A, c, n, rfl, _, _⟩ := rdv_len (YtcjiofhjognklaaGreat.RowK.rdv hr)
   subst h1 h2
   exact ⟨A, c, n, e1, hr, hs, hg⟩
 · rename_i hc
   rw [if_neg hc] at h1 h2
   subst h1 h2
   exact ⟨none, 0, 0, h.1, YtcjiofhjognklaaGreat.nil_row kA _ _, h.2, hg⟩
theorem rdD_len {D : Nat} {w : World} {v : Value} {l : List Int} (h : RdD D w v l) : ∃ A c n, v = .slice A n c ∧ Hid (n = l.length) := by
 obtain ⟨A, c, e, _⟩ := h
 exact ⟨A, c, _, e, Lib.hid rfl⟩
theorem goodH_nil (w : World) (B : Nat) : GoodH w B [] := fun x hx => by simp at hx
theorem listQ_out {D g : Nat} {t : Option (List Int) × Bool × List Int} {w w' : World} {e : Ending} {l : List (List UInt8)} {f' : Bool} (h1 : (if t.2.1 = false ∧ allT 1 (t.1.getD []) = true then (snds (t.1.getD [])).map u8s else []) = l) (h2 : (if t.2.1 = false ∧ allT 1 (t.1.getD []) = true then false else true) = f')
   (hv : (t.1.getD []).length ≤ 4194304) (h : ListR D g 1 t w e w') : ∃ (hs : List Hand) (A : Option Addr) (n c : Nat), e = .returned (.slice A n c) ∧ Hid (n = hs.length) ∧ hs.length ≤ 1000000 ∧ RowK kS w' w.heap.size (.slice A n c) hs ∧ GoodH w' w'.heap.size hs ∧ l = hs.map (fun x => u8s x.bs) ∧ RR w' D g f' t.2.2 ∧ w.grownBy w' (some g) := by
 obtain ⟨h, hg⟩ := h
 split at h
 · rename_i hc
   rw [if_pos hc] at h1 h2
   obtain ⟨u, hs, e1, hm, hr, hgd, hs'⟩ := h
   obtain ⟨A, c, n, hn, rfl, _, _⟩ := hr.rdn
   subst h1 h2
   refine ⟨hs, A, n, c, e1, hn, ?_, hr, hgd, ?_, hs', hg⟩
   · have e2 := congrArg List.length hm
     rw [List.length_map] at e2
     have h3 := items_five _ (t.1.getD []) (Nat.le_refl _)
     omega
   · unfold snds
     rw [← hm, List.map_map, List.map_map]
     rfl
 · rename_i hc
   rw [if_neg hc] at h1 h2
   subst h1 h2
   exact ⟨[], none, 0, 0, h.1, Lib.hid rfl, by simp, nil_row kS _ _, goodH_nil _ _, rfl, h.2, hg⟩
theorem take_map_snoc (hs : List Hand) (k : Nat) (h : k < hs.length) : (hs.map (fun x => u8s x.bs)).take (k + 1) = (hs.map (fun x => u8s x.bs)).take k ++ [u8s (hs.getD k default).bs] := by
 rw [← List.map_take, ← List.map_take, take_snocH hs k h, List.map_append]
 rfl
theorem row_hand {Bo n c k base : Nat} {A : Option Addr} {hs : List Hand} {w wr : World} {cs : Array Value} (h : RowK kS w base (.slice A n c) hs) (hc : CQ 9 w.heap.size Bo Bo w wr) (hb : Blk w Bo 27 cs) (hk : k < hs.length) : ∃ b off, A = some ⟨b, off, none⟩ ∧ b < wr.heap.size ∧ wr.cell? ⟨b, off + k, none⟩ = some (.slice (hs.getD k default).A (hs.getD k default).bs.length (hs.getD k default).c) := by
 obtain ⟨A', c', e, _, hrd⟩ := h.rd0
 injection e with e1 e2 e3
 subst e1 e3
 obtain ⟨b, off, e4, hl, hcell⟩ := hrd (by omega)
 have hcc := hcell k hk 0 _ rfl
 have hne : b ≠ Bo := by
   rcases h.2 with ⟨e5, e6⟩ | ⟨g, cap, cur, e5, _, hh, _⟩
   · injection e5 with e5 _ _
     rw [e5] at e4
     cases e4
   · injection e5 with e5 _ _
     rw [e5] at e4
     injection e4 with e4
     injection e4 with e6 _ _
     subst e6
     intro e7
     subst e7
     unfold Blk at hb
     rw [hh] at hb
     injection hb with hb
     injection hb with _ ht
     exact absurd ht (by decide)
 refine ⟨b, off, e4, Nat.lt_of_lt_of_le hl hc.size, ?_⟩
 have h9 := hc.cell (p := ⟨b, off + k, none⟩) hl hne hne
 rw [h9]
 simpa [kS] using hcc
theorem rd_cq {Bo : Nat} {A : Option Addr} {bs : List Int} {k : Int} {w wr : World} (h : Rd w w.heap.size A bs) (hb : Blk w Bo 27 (opCs (o0 k) (.slice none 0 0) (.slice none 0 0) (.slice none 0 0))) (hc : CQ 9 w.heap.size Bo Bo w wr) : Rd wr wr.heap.size A bs := fun hp => by
 obtain ⟨b, off, e, hl, hne⟩ := rd_not_op h hb hp
 obtain ⟨b', off', e', hl', hcell⟩ := h hp
 rw [e] at e'
 injection e' with e'
 injection e' with e1 e2 _
 subst e1 e2
 exact ⟨b, off, e, Nat.lt_of_lt_of_le hl hc.size, fun j hj => (hc.cell (p := ⟨b, off + j, none⟩) hl hne hne).trans (hcell j hj)⟩
theorem or_parts {w W W' : World} {g Bo : Nat} {k : Int} {f : Bool} {r : List Int} {vp : Value} {p : List (List UInt8)} (h : OR w g Bo (o0 k) (.slice none 0 0) (.slice none 0 0) (.slice none 0 0) f r W) (hc : CQ 9 W.heap.size Bo Bo W W') (hb : Blk W' Bo 27 (opCs (o0 k) (.slice none 0 0) vp (.slice none 0 0))) (hr : RowK kStr W' W.heap.size vp p) :
   OR w g Bo { o0 k with parts := p } (.slice none 0 0) vp (.slice none 0 0) f r W' := by
 have h1 := h.n1
 have h2 := h.n2
 have hz := h.bel.size
 have hgl := h.rs.lt
 have hlow : Below w.heap.size W W' := ⟨hc.os, hc.tape, hc.output, hc.size, fun i hi => hc.low i (by omega) (by omega) (by omega)⟩
 obtain ⟨hd, A, c, x1, x2, x3⟩ := h.rs
 exact ⟨h.bel.trans hlow, hc.kp _ _ _ (by decide) (by omega) (by omega) h.rr, hb, ⟨hd, A, c, hc.kp _ _ _ (by decide) (by omega) (by omega) x1, x2.below hlow, x3⟩, h1, h2, YtcjiofhjognklaaGreat.nil_row kA _ _, RowK.lowR hr hz, RdD.nil _ _⟩
end Go.Proofs.YtcjiofhjognklaaGreat.Tlv
