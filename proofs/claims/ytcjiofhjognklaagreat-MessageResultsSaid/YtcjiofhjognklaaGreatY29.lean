/- The reference's reader: attributes. -/
import Derived.Test.YtcjiofhjognklaaGreatY28
import Derived.Test.YtcjiofhjognklaaGreatY21
namespace Go.Proofs.YtcjiofhjognklaaGreat.Tlv
open Go.RowKit
set_option maxRecDepth 100000
set_option linter.deprecated false
set_option linter.unusedVariables false
set_option linter.unusedSimpArgs false
def okL (v : List Int) : Bool := allT 3 v && (items v).all (fun x => okAt x.2)
def mkL (v : List Int) : List At := (items v).map (fun x => mkAt x.2)
def TakeQ (D g : Nat) (f1 : Bool) (r1 v : List Int) (w : World) (e : Ending) (w' : World) : Prop :=
 (if f1 = false ∧ okL v = true then ∃ u, e = .returned u ∧ YtcjiofhjognklaaGreat.RowK kA w' w.heap.size u (mkL v) ∧ RR w' D g false r1 else e = .returned (.slice none 0 0) ∧ RR w' D g true r1) ∧ w.grownBy w' (some g)
theorem TakeQ.bad {D g : Nat} {f1 : Bool} {r1 v : List Int} {w w' : World} (h : ¬ (f1 = false ∧ okL v = true)) (h2 : RR w' D g true r1 ∧ w.grownBy w' (some g)) : TakeQ D g f1 r1 v w (.returned (.slice none 0 0)) w' := by
 unfold TakeQ
 rw [if_neg h]
 exact ⟨⟨rfl, h2.1⟩, h2.2⟩
theorem TakeQ.good {D g : Nat} {r1 v : List Int} {w w' : World} {u : Value} (h : okL v = true) (h2 : YtcjiofhjognklaaGreat.RowK kA w' w.heap.size u (mkL v)) (h4 : RR w' D g false r1) (h5 : w.grownBy w' (some g)) : TakeQ D g false r1 v w (.returned u) w' := by
 unfold TakeQ
 rw [if_pos ⟨rfl, h⟩]
 exact ⟨⟨u, rfl, h2, h4⟩, h5⟩
theorem slice_cells {w : World} {B : Nat} {A : Option Addr} {hs : List Hand} (h : RdK kS w B A hs) {k : Nat} (hk : k < hs.length) : ∃ b off, A = some ⟨b, off, none⟩ ∧ b < B ∧ w.cell? ⟨b, off + k, none⟩ = some (.slice (hs.getD k default).A (hs.getD k default).bs.length (hs.getD k default).c) := by
 obtain ⟨b, off, rfl, hb, hc⟩ := h (by omega)
 have := hc k hk 0 _ rfl
 exact ⟨b, off, rfl, hb, by simpa [kS] using this⟩
theorem items_each : ∀ (n : Nat) (l : List Int), l.length ≤ n → ∀ x ∈ items l, x.2.length ≤ l.length := by
 intro n
 induction n with
 | zero =>
   intro l h
   obtain rfl : l = [] := List.eq_nil_of_length_eq_zero (by omega)
   rw [items_no (l := []) rfl]
   intro x hx
   simp at hx
 | succ n ih =>
   intro l h x hx
   cases hst : stands l with
   | false => rw [items_no hst] at hx; simp at hx
   | true =>
     have hp := stands_parts hst
     have := ih (l.drop (5 + nv l)) (by rw [List.length_drop]; omega)
     rw [items_yes hst] at hx
     rcases List.mem_cons.1 hx with rfl | hx
     · show ((l.drop 5).take (nv l)).length ≤ _
       rw [List.length_take, List.length_drop]
       omega
     · have h2 := this x hx
       rw [List.length_drop] at h2
       omega
theorem RR.new {w : World} {B : Nat} {A : Option Addr} {c : Nat} {bs : List Int} (h : Rd w B A bs) (h1 : bs.length ≤ c) (h2 : c ≤ 9223372036854775807) (hb : Byt bs) (hl : bs.length ≤ 100000000) (hB : B ≤ w.heap.size) :
   RR (w.alloc (.cells #[.slice A bs.length c, .bool false] 107)) w.heap.size w.heap.size false bs := by
 exact ⟨Nat.le_refl _, _, c, Blk.new _ _ _, (h.below ((Below.refl B w).alloc hB _)).more hB, hb, h1, h2, hl⟩
theorem RR.far {W : World} {D g ga i : Nat} {f : Bool} {r : List Int} (h : RR W D g f r) (hg : g ≠ ga) (hD : D ≤ ga) (hl : ga < W.heap.size) (v : Value) : RR (W.setCell ⟨ga, i, none⟩ v) D g f r := by
 obtain ⟨h0, A, c, h1, h2, h3⟩ := h
 exact ⟨h0, A, c, h1.far (p := ⟨ga, i, none⟩) hg v, h2.gr (blk_set_grown W ga i _) hD (by omega), h3⟩
theorem below_grownR {n0 g : Nat} {w w' : World} (h : w.grownBy w' (some g)) (hg : n0 ≤ g) (hn : n0 ≤ w.heap.size) : Below n0 w w' := ⟨h.os, h.tape, h.output, h.size, fun k hk => h.block k (by omega) (fun e => by injection e with e; omega)⟩
theorem okAt_done (bs : List Int) : (!(inB bs).2.1 && decide ((inB bs).2.2 = [])) = okAt bs := by
 unfold okAt
 cases (inB bs).2 with
 | mk f r => cases f <;> cases r <;> simp
set_option maxHeartbeats 8000000 in
theorem refTakeAttrs_any (D g : Nat) (f : Bool) (r : List Int) (tag : Int) (w : World) (hs : RR w D g f r) (hrl : r.length ≤ 1000000) :
   Calls Tryz.prog 62 #[.pointer (some ⟨g, 0, none⟩), .int .u8 tag] w (fun e w' => TakeQ D g (tk f r tag).2.1 (tk f r tag).2.2 ((tk f r tag).1.getD []) w e w') := by
 have HL := Lib.hid (refList_any D g f r tag 3 w hs hrl)
 have hgl := hs.lt
 have hby := hs.byt
 have HV : Hid (((tk f r tag).1.getD []).length ≤ 1000000) := Lib.hid (by
   cases htk : tk f r tag with
   | mk o q =>
     obtain ⟨f1, r1⟩ := q
     cases o with
     | none => simp
     | some bs =>
       obtain ⟨_, _, _, h4, h5⟩ := tk_some hby htk
       have h6 := congrArg List.length h4
       rw [List.length_append, valB_length] at h6
       simp
       omega)
 generalize tk f r tag = t at HL HV ⊢
 obtain ⟨o, f1, r1⟩ := t
 unfold ListR at HL
 dsimp only at HL HV ⊢
 generalize o.getD [] = v at HL HV ⊢
 clear hs hby
 go_enter Tryz.func62, Tryz.ntmps62
 go_wp2_with fail
 refine HL.out.mono ?_
 clear HL
 intro e w1 h
 unfold ListQ at h
 obtain ⟨h, hg⟩ := h
 by_cases hq : f1 = false ∧ allT 3 v = true
 · rw [if_pos hq] at h
   obtain ⟨u, hs, rfl, hit, hrow, hgood, hrr⟩ := h
   obtain ⟨rfl, hall⟩ := hq
   obtain ⟨A2, c2, rfl, _, hrd⟩ := RowK.rd0 hrow
   have hln : hs.length ≤ 1000000 := by
     have h1 := congrArg List.length hit
     rw [List.length_map] at h1
     have h2 := items_le _ v (Nat.le_refl _)
     have h3 := HV.out
     omega
   obtain ⟨n, hn⟩ : ∃ n, n = hs.length := ⟨_, rfl⟩
   have hn2 : n ≤ 1000000 := by omega
   rw [← hn]
   have HN := Lib.hid hn
   have HI := Lib.hid (And.intro hit (And.intro hgood (And.intro hall hg)))
   have HRD := Lib.hid hrd
   have HRR := Lib.hid hrr
   have hgl1 := hrr.lt
   have hz1 := hg.size
   have HOK : Hid (∀ W, Below w1.heap.size w1 W → RR W D g false r1 ∧ w.grownBy W (some g) ∧ W.cell? ⟨g, 1, none⟩ = some (.bool false) ∧ W.frozen? ⟨g, 1, none⟩ = false) := Lib.hid fun W hb => by
     refine ⟨hrr.on hb, grownBy_trans hg (grownBy_of hb), ?_⟩
     obtain ⟨_, A9, c9, hk9, _⟩ := hrr.on hb
     exact ⟨hk9.cell 1, hk9.frozen 1⟩
   have HBAD : Hid (∀ W, Below w1.heap.size w1 W → RR (W.setCell ⟨g, 1, none⟩ (.bool true)) D g true r1 ∧ w.grownBy (W.setCell ⟨g, 1, none⟩ (.bool true)) (some g)) := Lib.hid fun W hb =>
     ⟨(HOK.out W hb).1.bad, grownBy_trans (HOK.out W hb).2.1 (blk_set_grown W g 1 _)⟩
   clear hit hgood hall hg hrd hrr hrow hn hln
   go_wp2_with fail
   go_loopw [6, 7] (fun s6 s7 wr => ∃ k : Nat, s7 = .int .i64 k ∧ k ≤ n ∧ Hid (YtcjiofhjognklaaGreat.RowK kA wr w1.heap.size s6 ((hs.take k).map fun h => mkAt h.bs) ∧ Below w1.heap.size w1 wr ∧ ∀ j, j < k → okAt (hs.getD j default).bs = true)) (fun _ s7 _ => n - (intOf s7).toNat)
   case atStart => exact ⟨0, rfl, Nat.zero_le _, Lib.hid ⟨YtcjiofhjognklaaGreat.nil_row _ _ _, Below.refl _ _, fun j hj => by omega⟩⟩
   case round =>
     obtain ⟨k, rfl, hk, H⟩ := hrel
     by_cases hlt : k < n
     · have hkl : k < hs.length := by have := HN.out; omega
       obtain ⟨b, off, rfl, hbl, c0'⟩ := slice_cells HRD.out hkl
       have hb := H.out.2.1
       have c0 := (hb.cell (p := ⟨b, off + k, none⟩) hbl).trans c0'
       have hmem : hs.getD k default ∈ hs := by rw [List.getD_eq_getElem?_getD, List.getElem?_eq_getElem hkl]; exact List.getElem_mem _
       have HTK := Lib.hid (take_snocH hs k hkl)
       obtain ⟨q1, q2, q3, q4, q5⟩ := HI.out.2.1 _ hmem
       have q6 : (hs.getD k default).bs.length ≤ 1000000 := by
         have h1 := items_each _ v (Nat.le_refl _) (hs.getD k default).it (by rw [← HI.out.1]; exact List.mem_map_of_mem hmem)
         have h2 := HV.out
         unfold Hand.it at h1
         dsimp only at h1
         omega
       generalize hx : hs.getD k default = x at *
       have HXX := Lib.hid hx
       have HMEM := Lib.hid hmem
       have hkk : ((hs.take k).map fun h => mkAt h.bs).length + 1 ≤ 1000000000 := by rw [List.length_map, List.length_take]; omega
       have hR0 := RR.new (w := wr) (q1.below hb) q3 q4 q5 (by omega) hb.size
       have HK := Lib.hid (Blk.new (wr.alloc (.cells #[.slice x.A x.bs.length x.c, .bool false] 107)) 67 #[.string ⟨#[]⟩, .string ⟨#[]⟩])
       have HB2 : Hid (Below wr.heap.size wr ((wr.alloc (.cells #[.slice x.A x.bs.length x.c, .bool false] 107)).alloc (.cells #[.string ⟨#[]⟩, .string ⟨#[]⟩] 67))) := Lib.hid (((Below.refl _ _).alloc (Nat.le_refl _) _).alloc (le_alloc (Nat.le_refl _)) _)
       have HT1 := Lib.hid (refText_any wr.heap.size wr.heap.size false x.bs 1 _ (hR0.on ((Below.refl _ _).alloc (Nat.le_refl _) (.cells #[.string ⟨#[]⟩, .string ⟨#[]⟩] 67))))
       have HWB := Lib.hid hb
       have hwz : w.heap.size ≤ wr.heap.size := by have := hb.size; omega
       have hwz1 : w1.heap.size ≤ wr.heap.size := hb.size
       clear c0' hmem hb hx q1 q2 q3 q4 q5 q6 hR0
       go_wp2_with fail
       refine HT1.out.mono ?_
       clear HT1
       rintro e w3 ⟨rfl, hr3, hg3⟩
       have hz3 := hg3.size
       rw [World.size_alloc, World.size_alloc] at hz3
       have k3 : Blk w3 (wr.heap.size + 1) 67 #[.string ⟨#[]⟩, .string ⟨#[]⟩] := by
         have := HK.out.grown hg3 (by rw [World.size_alloc]; intro e; injection e with e; omega)
         rwa [World.size_alloc] at this
       have d0 := k3.cell 0
       have g0 := k3.frozen 0
       have hr3' := hr3.far (ga := wr.heap.size + 1) (i := 0) (by omega) (by omega) (by omega) (.string (mkS ((tk false x.bs 1).1.getD [])))
       have HT2 := Lib.hid (refText_any wr.heap.size wr.heap.size _ _ 2 _ hr3')
       have k3' := k3.set_ 0 (.string (mkS ((tk false x.bs 1).1.getD [])))
       have HB3 : Hid (Below wr.heap.size wr (w3.setCell ⟨wr.heap.size + 1, 0, none⟩ (.string (mkS ((tk false x.bs 1).1.getD []))))) := Lib.hid ((HB2.out.trans (below_grownR hg3 (Nat.le_refl _) (by rw [World.size_alloc, World.size_alloc]; omega))).setCell (by show wr.heap.size ≤ wr.heap.size + 1; omega) _)
       have HK3 := Lib.hid k3'
       clear hr3 hg3 k3 hr3' k3' HB2 HK
       go_wp2_with fail
       refine HT2.out.mono ?_
       clear HT2 d0 g0
       rintro e w4 ⟨rfl, hr4, hg4⟩
       have hz4 := hg4.size
       rw [World.size_setCell] at hz4
       have k4 : Blk w4 (wr.heap.size + 1) 67 #[.string (mkS ((tk false x.bs 1).1.getD [])), .string ⟨#[]⟩] := HK3.out.grown hg4 (by intro e; injection e with e; omega)
       have d1 := k4.cell 1
       have g1' := k4.frozen 1
       have hr4' := hr4.far (ga := wr.heap.size + 1) (i := 1) (by omega) (by omega) (by omega) (.string (mkS ((tk (tk false x.bs 1).2.1 (tk false x.bs 1).2.2 2).1.getD [])))
       have HDN := refDone_any wr.heap.size wr.heap.size _ _ _ hr4'
       have hok : (!(tk (tk false x.bs 1).2.1 (tk false x.bs 1).2.2 2).2.1 && decide ((tk (tk false x.bs 1).2.1 (tk false x.bs 1).2.2 2).2.2 = [])) = okAt x.bs := okAt_done x.bs
       rw [hok] at HDN
       have HDN := Lib.hid HDN
       have k5 : Blk (w4.setCell ⟨wr.heap.size + 1, 1, none⟩ (.string (mkS ((tk (tk false x.bs 1).2.1 (tk false x.bs 1).2.2 2).1.getD [])))) (wr.heap.size + 1) 67 #[.string (mkS ((tk false x.bs 1).1.getD [])), .string (mkS ((tk (tk false x.bs 1).2.1 (tk false x.bs 1).2.2 2).1.getD []))] := k4.set_ 1 _
       have HMK : Hid ((mkAt x.bs).cells = [.string (mkS ((tk false x.bs 1).1.getD [])), .string (mkS ((tk (tk false x.bs 1).2.1 (tk false x.bs 1).2.2 2).1.getD []))]) := Lib.hid (by
         unfold At.cells mkAt
         dsimp only
         rw [sx_u8s, sx_u8s]
         rfl)
       have hb5w : Below wr.heap.size wr (w4.setCell ⟨wr.heap.size + 1, 1, none⟩ (.string (mkS ((tk (tk false x.bs 1).2.1 (tk false x.bs 1).2.2 2).1.getD [])))) := (HB3.out.trans (below_grownR hg4 (Nat.le_refl _) (by rw [World.size_setCell]; omega))).setCell (by show wr.heap.size ≤ wr.heap.size + 1; omega) _
       have hb5 := HWB.out.trans (hb5w.mono hwz1)
       have hrow5 := YtcjiofhjognklaaGreat.RowK.on H.out.1 hb5w
       have hz5 := hb5.size
       clear hb5w
       clear hr4 hg4 hr4' hok
       generalize mkS ((tk false x.bs 1).1.getD []) = s1 at *
       generalize mkS ((tk (tk false x.bs 1).2.1 (tk false x.bs 1).2.2 2).1.getD []) = s2 at *
       go_wp2_with fail
       refine HDN.out.mono ?_
       clear HDN d1 g1'
       rintro e w5 ⟨rfl, rfl⟩
       have HK5 := Lib.hid (And.intro k5 (And.intro hb5 hrow5))
       have d0 := k5.cell 0
       have d1 := k5.cell 1
       clear k4 k5 hb5 hrow5 HB3 HK3
       generalize w4.setCell ⟨wr.heap.size + 1, 1, none⟩ (.string s2) = w5 at *
       cases hov : okAt x.bs with
       | true =>
         have HOV := Lib.hid hov
         clear hov
         go_wp2_with (at_builtin; refine YtcjiofhjognklaaGreat.wpList_app kA rfl _ _ rfl [mkAt x.bs] rfl (HK5.out.2.2.alloc _) rfl (YtcjiofhjognklaaGreat.rd_block (K := kA) (l := [mkAt x.bs]) (YtcjiofhjognklaaGreat.Blk.new _ _ #[.string s1, .string s2]) (by show [Value.string s1, Value.string s2] = (mkAt x.bs).cells ++ []; rw [HMK.out, List.append_nil])) (fun e => by cases e) hkk (le_alloc hz5) ?_; intro v8 w8 hrow8 hgr8; have Hrow8 := Lib.hid (And.intro hrow8 hgr8); clear hrow8 hgr8)
         go_roundw
         case rel => exact ⟨k + 1, by go_num, by omega, Lib.hid ⟨by rw [HTK.out, List.map_append]; exact Hrow8.out.1, (HK5.out.2.1.alloc hz5 _).trans (YtcjiofhjognklaaGreat.row_below (HK5.out.2.2.alloc _) Hrow8.out.2 (le_alloc hz5)), fun j hj => by
           by_cases hjk : j = k
           · subst hjk
             rw [HXX.out]
             exact HOV.out
           · exact H.out.2.2 j (by omega)⟩⟩
         case measure => simp [intOf]; omega
       | false =>
         have HOV := Lib.hid hov
         clear hov
         obtain ⟨_, _, g1, gf⟩ := HOK.out _ HK5.out.2.1
         have HF := Lib.hid (HBAD.out _ HK5.out.2.1)
         go_wp2_with fail
         go_ret
         refine TakeQ.bad (fun h => ?_) HF.out
         have h2 := h.2
         unfold okL at h2
         have h3 := (Bool.and_eq_true_iff.1 h2).2
         rw [List.all_eq_true] at h3
         have h4 := h3 x.it (by rw [← HI.out.1]; exact List.mem_map_of_mem HMEM.out)
         have h5 : okAt x.bs = true := h4
         rw [HOV.out] at h5
         cases h5
     · obtain rfl : k = n := by omega
       have hb := H.out.2.1
       have HRW := Lib.hid H.out.1
       have HG : Hid (okL v = true) := Lib.hid (by
         unfold okL
         rw [Bool.and_eq_true_iff]
         refine ⟨HI.out.2.2.1, ?_⟩
         rw [List.all_eq_true, ← HI.out.1]
         intro x hx
         obtain ⟨y, hy, rfl⟩ := List.mem_map.1 hx
         obtain ⟨j, hj, rfl⟩ := List.getElem_of_mem hy
         have h1 := H.out.2.2 j (by have := HN.out; omega)
         rw [List.getD_eq_getElem?_getD, List.getElem?_eq_getElem hj] at h1
         exact h1)
       have HF := Lib.hid (HOK.out wr hb)
       clear hb hlt
       go_wp2_with fail
       go_ret
       refine TakeQ.good HG.out ?_ HF.out.1 HF.out.2.1
       have h1 := HRW.out
       rw [List.take_of_length_le (by have := HN.out; omega)] at h1
       unfold mkL
       rw [← HI.out.1, List.map_map]
       exact YtcjiofhjognklaaGreat.RowK.low h1 hz1
 · rw [if_neg hq] at h
   obtain ⟨rfl, hrr⟩ := h
   have HX : Hid (¬ (f1 = false ∧ okL v = true) ∧ RR w1 D g true r1 ∧ w.grownBy w1 (some g)) := Lib.hid ⟨fun h => hq ⟨h.1, by have := h.2; unfold okL at this; exact (Bool.and_eq_true_iff.1 this).1⟩, hrr, hg⟩
   clear hq hrr hg
   go_wp2_with fail
   refine wp_loop_rounds 1 ?_
   rw [rounds_succ]
   go_wp2_with fail
   go_ret
   exact TakeQ.bad HX.out.1 HX.out.2
end Go.Proofs.YtcjiofhjognklaaGreat.Tlv
