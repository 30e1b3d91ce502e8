/- begin: a table behind acts, by both. -/
import Derived.Test.YtidkpdoiblomjaaZ45
import Derived.Test.YtidkpdoiblomjaaZ47
namespace Go.Proofs.Ytidkpdoiblomjaa.Tlv
open Go.RowKit Go.Maps
set_option maxRecDepth 100000
set_option linter.unusedVariables false
set_option linter.unusedSimpArgs false
abbrev St := Tb × Nat
def stepP (s : St) (p : Int × Int × Res) : St := (putT s.1 s.2 p.1 p.2.1 p.2.2, putN s.1 s.2 p.1 p.2.1 p.2.2)
def actsP (L : List Td) (rs : List Res) : List (Int × Int × Res) := List.zipWith (fun x r => (x.c, x.n, r)) L rs
def foldP (s : St) (ps : List (Int × Int × Res)) : St := ps.foldl stepP s
def s0P : St := (fun _ => none, 0)
theorem actsP_len {L : List Td} {rs : List Res} (h : L.length = rs.length) : (actsP L rs).length = L.length := by unfold actsP; rw [List.length_zipWith, ← h, Nat.min_self]
theorem actsP_at {L : List Td} {rs : List Res} (h : L.length = rs.length) {k : Nat} (hk : k < L.length) : (actsP L rs)[k]? = some ((L.getD k default).c, (L.getD k default).n, rs.getD k default) := by
 unfold actsP
 rw [List.getElem?_zipWith, List.getElem?_eq_getElem hk, List.getElem?_eq_getElem (h ▸ hk)]
 rw [List.getD_eq_getElem?_getD, List.getD_eq_getElem?_getD, List.getElem?_eq_getElem hk, List.getElem?_eq_getElem (h ▸ hk)]
 rfl
theorem foldP_step (s : St) {L : List Td} {rs : List Res} (h : L.length = rs.length) {k : Nat} (hk : k < L.length) : foldP s ((actsP L rs).take (k + 1)) = stepP (foldP s ((actsP L rs).take k)) ((L.getD k default).c, (L.getD k default).n, rs.getD k default) := by
 unfold foldP
 rw [List.take_add_one, actsP_at h hk, List.foldl_append]
 rfl
theorem foldP_all (s : St) {L : List Td} {rs : List Res} (h : L.length = rs.length) {k : Nat} (hk : k = L.length) : foldP s ((actsP L rs).take k) = foldP s (actsP L rs) := by
 rw [hk, ← actsP_len h, List.take_length]
theorem FewR.good {r : Res} (h : FewR r) (hl : LimR0 r) : ResGood r := by
 have h1 := h.es
 have h2 := h.cur
 refine ⟨⟨⟨by omega, hl.nm, fun e he => ?_, hl.sa⟩, hl.lc, hl.byt⟩, fit_few (by omega), by omega⟩
 obtain ⟨j, hj, e1⟩ := List.mem_iff_getElem.1 he
 have h3 := h.ats j hj
 rw [List.getD_eq_getElem?_getD, List.getElem?_eq_getElem hj] at h3
 have h4 : (r.es[j]).ats.length ≤ 60 := h3
 rw [e1] at h4
 omega
theorem Tab.ref {w w' : World} {rb g m N : Nat} {T : Tb} (h : Tab w (rb + 1) g m T N) (hg : w.grownBy w' (some rb)) (hm : m ≠ rb) (hgb : g ≠ rb) : Tab w' (rb + 1) g m T N :=
 ⟨(hg.block g h.blk.lt (fun e => hgb (Option.some.inj e))).trans h.blk, h.rep.fits (fun k t cs hk hB => hg.block k hB.lt (fun e => by have := Option.some.inj e; omega)) (hg.block m h.rep.lt (fun e => hm (Option.some.inj e)))⟩
theorem RowK.mapT {K : Kind Td} {w w' : World} {base m : Nat} {v : Value} {l : List Td} (h : RowK K w base v l) (hg : w.grownBy w' (some m)) (hm : ∃ es clock, w.heap[m]? = some (.map es clock)) : RowK K w' base v l :=
 RowK.fitT h fun k e => by
   obtain ⟨_, hlt, cs, hc⟩ := own_atT h e
   exact hg.block k hlt (fun e2 => map_ne_blk hm hc (Option.some.inj e2))
theorem Blk.mapT {w w' : World} {m b : Nat} {t : TypeId} {cs : Array Value} (h : Blk w b t cs) (hg : w.grownBy w' (some m)) (hm : ∃ es clock, w.heap[m]? = some (.map es clock)) : Blk w' b t cs :=
 (hg.block b h.lt (fun e2 => map_ne_blk hm h (Option.some.inj e2))).trans h
def RefAt (w : World) (rb : Nat) (T : Tb) (N : Nat) : Prop := ∃ A n a L, Blk w rb 53 #[.slice A n a] ∧ RowK kT w (rb + 1) (.slice A n a) L ∧ RefRep L T N
theorem RefAt.on {w w' : World} {rb N : Nat} {T : Tb} (h : RefAt w rb T N) (hb : Below w.heap.size w w') : RefAt w' rb T N := by
 obtain ⟨A, n, a, L, h1, h2, h3⟩ := h
 exact ⟨A, n, a, L, h1.on hb, RowK.onT h2 hb, h3⟩
theorem RefAt.map {w w' : World} {rb N m : Nat} {T : Tb} (h : RefAt w rb T N) (hg : w.grownBy w' (some m)) (hm : ∃ es clock, w.heap[m]? = some (.map es clock)) : RefAt w' rb T N := by
 obtain ⟨A, n, a, L, h1, h2, h3⟩ := h
 exact ⟨A, n, a, L, h1.mapT hg hm, h2.mapT hg hm, h3⟩
structure Both (w wr : World) (g m rb : Nat) (s : St) : Prop where
 tab : Tab wr (rb + 1) g m s.1 s.2
 ref : RefAt wr rb s.1 s.2
 bel : Below w.heap.size w wr
theorem Both.on {w wr w' : World} {g m rb : Nat} {s : St} (h : Both w wr g m rb s) (hb : Below wr.heap.size wr w') : Both w w' g m rb s := ⟨h.tab.on hb, h.ref.on hb, h.bel.trans (hb.mono h.bel.size)⟩
def BegOut (w : World) (s : St) (e : Ending) (w' : World) : Prop :=
 ∃ g m rb, e = .returned (.tuple #[.pointer (some ⟨g, 0, none⟩), .pointer (some ⟨rb, 0, none⟩), .bool true]) ∧ Tab w' 0 g m s.1 s.2 ∧ w.heap.size ≤ m ∧ w.heap.size ≤ g ∧ Below w.heap.size w w'
theorem refPut_at (rb N : Nat) (T : Tb) (c m k0 : Int) (y0 : Bool) (Aa : Option Addr) (na ca : Nat) (Ac : Option Addr) (nc cc : Nat) (r : Res) (w : World) (h : RefAt w rb T N) (hN : N ≤ 16) (hm : mayR r = true) :
   Calls Try.prog 16 #[.pointer (some ⟨rb, 0, none⟩), .int .u64 c, .int .u64 m, rsVal k0 y0 (.slice Aa na ca) (.slice Ac nc cc)] w fun e w' => e = .returned (.int .i64 (putC T N c m r)) ∧ RefAt w' rb (putT T N c m r) (putN T N c m r) ∧ w.grownBy w' (some rb) := by
 obtain ⟨A, n, a, L, h1, h2, h3⟩ := h
 exact (refPut_any rb n a N A L T c m k0 y0 Aa na ca Ac nc cc r w h1 h2 h3 hN hm).mono fun e w' ⟨e1, A', n', a', L', h4, h5, h6, h7⟩ => ⟨e1, ⟨A', n', a', L', h4, h5, h6⟩, h7⟩
theorem putT_none {T : Tb} {N : Nat} {c n : Int} {r : Res} (h : mayR r = false) : putC T N c n r = 2 ∧ putT T N c n r = T ∧ putN T N c n r = N := by
 have h1 : putC T N c n r = 2 := by unfold putC; rw [if_pos h]
 refine ⟨h1, ?_, ?_⟩
 · unfold putT; rw [if_neg (by rw [h1]; decide)]
 · unfold putN; rw [if_neg (by rw [h1]; decide)]
set_option maxHeartbeats 32000000 in
theorem begin_any (v : Value) (L : List Td) (rs : List Res) (w : World) (h : ActsAt w v L rs) (hl : L.length ≤ 1000) (hgood : ∀ i, i < L.length → ResGood (rs.getD i default)) : Calls Try.prog 7 #[v] w (BegOut w (foldP s0P (actsP L rs))) := by
 obtain ⟨A, cp, rfl, ⟨_, h01, h02⟩, hr, hlen, hact⟩ := h
 obtain ⟨n, hn⟩ : ∃ n, n = L.length := ⟨_, rfl⟩
 have HR := Lib.hid (And.intro hr (And.intro hact (And.intro hn (And.intro hlen hgood))))
 have hmax : n ≤ 1000 := by omega
 rw [← hn]
 clear hr hact h01 h02 hlen hgood hl hn
 go_enter Try.func7, Try.ntmps7
 go_upto_region 1 with fail
 go_upto_region 2 with (go_at_call 13; (with_reducible refine (new_any (w.heap.size + 3) w).mono ?_); rintro e w1 ⟨rfl, ht, hsz, hb1⟩; dsimp only; have H1 := Lib.hid (And.intro ht (And.intro hsz hb1)); clear ht hsz hb1)
 have hbB : Both w (w1.alloc (.cells #[.slice none 0 0] 53)) (w.heap.size + 1) w.heap.size w1.heap.size s0P := by
   have hq : Below w1.heap.size w1 (w1.alloc (.cells #[.slice none 0 0] 53)) := (Below.refl _ _).alloc (Nat.le_refl _) _
   refine ⟨?_, ⟨none, 0, 0, [], Blk.new w1 53 #[.slice none 0 0], nil_row kT _ _, RefRep.nil⟩, H1.out.2.2.trans (hq.mono H1.out.2.2.size)⟩
   rw [H1.out.2.1]
   exact H1.out.1.on hq
 obtain ⟨rb, hrb⟩ : ∃ b, b = w1.heap.size := ⟨_, rfl⟩
 have hge : w.heap.size + 2 = rb := by rw [hrb]; exact H1.out.2.1.symm
 rw [← hrb] at hbB ⊢
 generalize w1.alloc (.cells #[.slice none 0 0] 53) = W0 at hbB ⊢
 have HB := Lib.hid (And.intro hbB hge)
 clear hbB hrb H1 hge
 go_upto_region 3 with fail
 go_loopw [7] (fun s7 wr => ∃ k : Nat, s7 = .int .i64 k ∧ k ≤ n ∧ Hid (Both w wr (w.heap.size + 1) w.heap.size rb (foldP s0P ((actsP L rs).take k)))) (fun s7 _ => n - (intOf s7).toNat)
 case atStart => exact ⟨0, rfl, Nat.zero_le _, Lib.hid HB.out.1⟩
 case round =>
   obtain ⟨k, rfl, hk, HF⟩ := hrel
   by_cases hlt : k < n
   · have hkL : k < L.length := by have := HR.out.2.2.1; omega
     have hki : (k : Int) < (n : Int) := by omega
     have HTS := Lib.hid (foldP_step s0P HR.out.2.2.2.1 hkL)
     have HCELL : Hid (∀ W, Below w.heap.size w W → ∃ b off, A = some ⟨b, off, none⟩ ∧ b < w.heap.size ∧
   W.cell? ⟨b, off + k * 6, none⟩ = some (.int .u64 (L.getD k default).c) ∧ W.cell? ⟨b, off + k * 6 + 1, none⟩ = some (.int .u64 (L.getD k default).n) ∧ W.cell? ⟨b, off + k * 6 + 2, none⟩ = some (.int .i64 (L.getD k default).k) ∧
   W.cell? ⟨b, off + k * 6 + 3, none⟩ = some (.bool (L.getD k default).y) ∧ W.cell? ⟨b, off + k * 6 + 4, none⟩ = some (.slice (L.getD k default).A (L.getD k default).l (L.getD k default).a) ∧ W.cell? ⟨b, off + k * 6 + 5, none⟩ = some (.slice (L.getD k default).B (L.getD k default).l2 (L.getD k default).a2)) :=
       Lib.hid fun W hb => td_cellsG kX rfl (fun _ => rfl) HR.out.1 hb hkL
     obtain ⟨b, off, rfl, _, d0, d1, d2, d3, d4, d5⟩ := HCELL.out _ HF.out.bel
     have hact := HR.out.2.1 k hkL
     have HG := Lib.hid (HR.out.2.2.2.2 k hkL)
     generalize L.getD k default = x at d0 d1 d2 d3 d4 d5 hact HTS HCELL
     obtain ⟨xc, xn, xk, xy, xA, xl, xa, xB, xl2, xa2⟩ := x
     generalize rs.getD k default = r at hact HTS HG
     generalize foldP s0P ((actsP L rs).take k) = s at HF HTS
     obtain ⟨T, N⟩ := s
     obtain ⟨hk1, hy1, hc1, hn1, hat1, _⟩ := hact
     dsimp only at d0 d1 d2 d3 d4 d5 HTS HF hk1 hy1 hc1 hn1 hat1 HCELL
     subst hk1 hy1
     have HAT := Lib.hid (And.intro hc1 (And.intro hn1 (fun (W : World) (hb : Below w.heap.size w W) => hat1.on hb)))
     clear hc1 hn1 hat1 hkL
     cases hmb : mayR r with
     | false =>
       have HRB := Lib.hid (refResBytes_one r _ _ _ (HAT.out.2.2 _ HF.out.bel) HG.out.lim HG.out.fit false hmb)
       go_upto_region 9 with (go_at_call 15; (with_reducible refine HRB.out.mono ?_); rintro e w2 ⟨A2, m2, k2, rfl, _, hb2⟩; dsimp only; have H2 := Lib.hid (HF.out.on hb2); clear hb2 d0 d1 d2 d3 d4 d5)
       obtain ⟨_, _, e0, _, d0, d1, d2, d3, d4, d5⟩ := HCELL.out _ H2.out.bel
       cases e0
       have HP := Lib.hid (putTab_any (w.heap.size + 1) w.heap.size (rb + 1) N T xc xn r _ _ w2.drew (H2.out.tab.on (below_drewK (Below.refl _ _))) HAT.out.1 HAT.out.2.1 (HAT.out.2.2 _ (below_drewK H2.out.bel)) HG.out (by have := H2.out.ref; obtain ⟨_, _, _, _, hB, _⟩ := this; exact hB.lt))
       go_region_law (first
         | (go_simp; (with_reducible refine HP.out.mono ?_); rintro e w3 ⟨rfl, ht3, hg3⟩; rw [(putT_none hmb).1]; rw [(putT_none hmb).2.1, (putT_none hmb).2.2] at ht3; dsimp only; have H3 := Lib.hid (And.intro ht3 (below_grown (below_drewK (Below.refl _ _)) hg3)); clear ht3 hg3 HP d0 d1 d2 d3 d4 d5))
       all_goals
         go_wp2
         go_roundw
         case rel => exact ⟨k + 1, by go_num, by omega, Lib.hid (by
           rw [HTS.out]
           unfold stepP
           dsimp only
           rw [(putT_none hmb).2.1, (putT_none hmb).2.2]
           have hm2 := H2.out.tab.rep.map
           exact ⟨H3.out.1, H2.out.ref.map H3.out.2 hm2, H2.out.bel.grown H3.out.2 H2.out.bel.size (fun k e => by cases e; exact Nat.le_refl _)⟩)⟩
         case measure => simp [intOf]; omega
     | true =>
       obtain ⟨pc, hpc⟩ : ∃ pc, putC T N xc xn r = pc := ⟨_, rfl⟩
       have HPC := Lib.hid hpc
       clear hpc
       have HRB := Lib.hid (refResBytes_one r _ _ _ (HAT.out.2.2 _ HF.out.bel) HG.out.lim HG.out.fit true hmb)
       go_upto_region 8 with (go_at_call 15; (with_reducible refine HRB.out.mono ?_); rintro e w2 ⟨A2, m2, k2, rfl, _, hb2⟩; dsimp only; have H2 := Lib.hid (HF.out.on hb2); clear hb2 d0 d1 d2 d3 d4 d5)
       obtain ⟨_, _, e0, _, d0, d1, d2, d3, d4, d5⟩ := HCELL.out _ H2.out.bel
       cases e0
       have HQ := Lib.hid (refPut_at rb N T xc xn r.k r.y xA xl xa xB xl2 xa2 r w2.drew (H2.out.ref.on (below_drewK (Below.refl _ _))) H2.out.tab.rep.le hmb)
       clear HRB
       go_region_law (first
         | (go_simp; (with_reducible refine HQ.out.mono ?_); rintro e w3 ⟨rfl, hr3, hg3⟩; rw [HPC.out]; dsimp only; have H3 := Lib.hid (And.intro hr3 (below_grown (below_drewK (Below.refl _ _)) hg3)); clear hr3 hg3 HQ d0 d1 d2 d3 d4 d5))
       all_goals
         have hgr : Tab w3 (rb + 1) (w.heap.size + 1) w.heap.size T N := H2.out.tab.ref H3.out.2 (by have := HB.out.2; omega) (by have := HB.out.2; omega)
         have hbe : Below w.heap.size w w3 := H2.out.bel.grown H3.out.2 H2.out.bel.size (fun k e => by cases e; have := HB.out.2; omega)
         have H4 := Lib.hid (And.intro hgr (And.intro hbe H3.out.1))
         obtain ⟨_, _, e0, _, d0, d1, d2, d3, d4, d5⟩ := HCELL.out _ hbe
         cases e0
         have HP := Lib.hid (putTab_any (w.heap.size + 1) w.heap.size (rb + 1) N T xc xn r _ _ w3.drew (hgr.on (below_drewK (Below.refl _ _))) HAT.out.1 HAT.out.2.1 (HAT.out.2.2 _ (below_drewK hbe)) HG.out (by obtain ⟨_, _, _, _, hB, _⟩ := H4.out.2.2; exact hB.lt))
         clear hgr hbe
         go_upto_region 9 with fail
         go_region_law (first
           | (go_simp; (with_reducible refine HP.out.mono ?_); rintro e w4 ⟨rfl, ht4, hg4⟩; rw [HPC.out]; dsimp only; have H5 := Lib.hid (And.intro ht4 (below_grown (below_drewK (Below.refl _ _)) hg4)); clear ht4 hg4 HP d0 d1 d2 d3 d4 d5))
         all_goals
           go_wp2
           go_roundw
           case rel => exact ⟨k + 1, by go_num, by omega, Lib.hid (by
             rw [HTS.out]
             have hm2 := H4.out.1.rep.map
             exact ⟨H5.out.1, H4.out.2.2.map H5.out.2 hm2, H4.out.2.1.grown H5.out.2 H4.out.2.1.size (fun k e => by cases e; exact Nat.le_refl _)⟩)⟩
           case measure => simp [intOf]; omega
   · have hkn : n = k := by omega
     subst hkn
     have HE := Lib.hid (foldP_all s0P HR.out.2.2.2.1 HR.out.2.2.1)
     go_wp2
     refine bodyPost_ret (v := .tuple #[.pointer (some ⟨w.heap.size + 1, 0, none⟩), .pointer (some ⟨rb, 0, none⟩), .bool true]) ?_ rfl ⟨w.heap.size + 1, w.heap.size, rb, rfl, ?_, Nat.le_refl _, Nat.le_succ _, HF.out.bel⟩
     · simp [results, Try.f7, go_sem]
     · rw [← HE.out]
       exact ⟨HF.out.tab.blk, HF.out.tab.rep.low (Nat.zero_le _)⟩
end Go.Proofs.Ytidkpdoiblomjaa.Tlv
