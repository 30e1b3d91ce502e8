/- How many bytes items have; what goes off a log. -/
import Derived.Test.YtniaijgejljjbaaY40
import Derived.Test.YtniaijgejljjbaaY30
import Derived.StillTailTactics
import Derived.Lib.QuietBelow
namespace Go.Proofs.Ytniaijgejljjbaa.Tlv
open Go.RowKit
set_option maxRecDepth 100000
set_option linter.unusedVariables false
set_option linter.unusedSimpArgs false
theorem it_range {W : World} {B : Nat} {A : Option Addr} {l : List Rq} {k : Nat} (h : RdK kIt W B A l) (hk : k < l.length) : ∃ b off, A = some ⟨b, off, none⟩ ∧ b < B ∧ W.rangeAt b (off + k * 10) (itL (l.getD k default)) := by
 obtain ⟨b, off, e, h1, h2⟩ := h (by omega)
 exact ⟨b, off, e, h1, fun j v hv => h2 k hk j v hv⟩
theorem sum_step {l : List Rq} {k : Nat} (hk : k < l.length) : sumM (means (l.take (k + 1))) = sumM (means (l.take k)) + (l.getD k default).m.sz := by
 rw [List.take_add_one, List.getElem?_eq_getElem hk, means_app, List.getD_eq_getElem?_getD, List.getElem?_eq_getElem hk]
 exact sumM_snoc _ _
theorem means_mem {l : List Rq} {k : Nat} (hk : k < l.length) : (l.getD k default).m ∈ means l := by
 rw [List.getD_eq_getElem?_getD, List.getElem?_eq_getElem hk]
 exact List.mem_map_of_mem (List.getElem_mem hk)
theorem mem_getD {l : List Rq} {k : Nat} (hk : k < l.length) : l.getD k default ∈ l := by
 rw [List.getD_eq_getElem?_getD, List.getElem?_eq_getElem hk]
 exact List.getElem_mem hk
theorem good_take {l : List Rq} (h : ∀ m ∈ means l, m.Good) (k : Nat) : ∀ m ∈ means (l.take k), m.Good := fun m hm => h m (by rw [means_take] at hm; exact List.mem_of_mem_take hm)
theorem good_drop {l : List Rq} (h : ∀ m ∈ means l, m.Good) (k : Nat) : ∀ m ∈ means (l.drop k), m.Good := fun m hm => h m (by rw [means_drop] at hm; exact List.mem_of_mem_drop hm)
set_option maxHeartbeats 16000000 in
theorem sizeOf_any (A : Option Addr) (n c : Nat) (l : List Rq) (w : World) (hr : RdK kIt w w.heap.size A l) (hn : n = l.length) (hl : n ≤ 1000) (hg : ∀ m ∈ means l, m.Good) :
   Calls Try.prog 38 #[.slice A n c] w fun e w' => e = .returned (.int .i64 (sumM (means l) : Nat)) ∧ Below w.heap.size w w' := by
 have HR := Lib.hid (And.intro hr (And.intro hn hg))
 clear hr hg hn
 go_enter Try.func38, Try.ntmps38
 go_wp2_with fail
 go_loopw [3, 8] (fun s3 s8 wr => ∃ k q : Nat, s8 = .int .i64 k ∧ s3 = .int .i64 q ∧ k ≤ n ∧ q ≤ 300000 * k ∧ Hid (q = sumM (means (l.take k)) ∧ Below w.heap.size w wr)) (fun _ s8 _ => n - (intOf s8).toNat)
 case atStart => exact ⟨0, 0, rfl, rfl, Nat.zero_le _, Nat.zero_le _, Lib.hid ⟨rfl, Below.refl _ _⟩⟩
 case round =>
   obtain ⟨k, q, rfl, rfl, hk, hq, HF⟩ := hrel
   by_cases hlt : k < n
   · have hkl : k < l.length := by have := HR.out.2.1; omega
     have HS := Lib.hid (sum_step hkl)
     have hsz := (HR.out.2.2 _ (means_mem hkl)).few
     obtain ⟨b, off, rfl, hbl, hra⟩ := it_range (HR.out.1.below HF.out.2) hkl
     generalize l.getD k default = x at HS hsz hra
     obtain ⟨xc, xn, xo, Aa, la, ca, Ap, lp, cp, Ac, lc, cc⟩ := x
     obtain ⟨s, hs⟩ : ∃ s, s = szQ xc xn xo := ⟨_, rfl⟩
     have hs3 : s ≤ 300000 := by rw [hs]; exact hsz
     have hra2 : wr.rangeAt b (off + k * 10) [.int .u64 xc, .int .u64 xn, .int .i64 xo.k, .string (sx xo.name), .string (sx xo.dst), .slice Aa la ca, .slice Ap lp cp, .slice Ac lc cc, .int .i64 xo.n, .int .i64 s] := by rw [hs]; exact hra
     have HX := Lib.hid (And.intro hra2 hs)
     have k0 := Blk.new wr 66 itZ
     have HK := Lib.hid k0
     clear hra hra2 hs hsz k0
     go_upto_region 5 with (first
       | (refine wpList_load_mid rfl 66 _ rfl b (off + k * 10) rfl [.int .u64 xc, .int .u64 xn, .int .i64 xo.k, .string (sx xo.name), .string (sx xo.dst), .slice Aa la ca, .slice Ap lp cp, .slice Ac lc cc, .int .i64 xo.n, .int .i64 s] _ HX.out.1 rfl rfl (by kernel_rfl) ?_)
       | (refine wpList_store_rowTo rfl 66 _ _ rfl rfl wr.heap.size (itCs xc xn xo (.slice Aa la ca) (.slice Ap lp cp) (.slice Ac lc cc) s) rfl rfl 66 itZ HK.out (by kernel_rfl) rfl (by kernel_rfl) ?_))
     have h9 := HK.out.row (itCs xc xn xo (.slice Aa la ca) (.slice Ap lp cp) (.slice Ac lc cc) s)
     have h8 := below_setRow ((Below.refl wr.heap.size wr).alloc (Nat.le_refl _) (.cells itZ 66)) (Nat.le_refl _) (itCs xc xn xo (.slice Aa la ca) (.slice Ap lp cp) (.slice Ac lc cc) s)
     have HB := Lib.hid (HF.out.2.trans (h8.mono HF.out.2.size))
     have c9 := h9.cell 9
     simp only [List.getElem?_toArray, List.getElem?_cons_zero, List.getElem?_cons_succ] at c9
     clear h8 h9
     generalize (wr.alloc (.cells itZ 66)).setRow wr.heap.size (itCs xc xn xo (.slice Aa la ca) (.slice Ap lp cp) (.slice Ac lc cc) s) = w5 at c9 HB ⊢
     go_wp2
     go_roundw
     case rel => exact ⟨k + 1, q + s, by go_num, by go_num, by omega, by omega, Lib.hid ⟨by rw [HS.out, HF.out.1, HX.out.2]; rfl, HB.out⟩⟩
     case measure => simp [intOf]; omega
   · go_wp2
     go_ret
     exact ⟨by rw [HF.out.1, List.take_of_length_le (by have := HR.out.2.1; omega)]; rfl, HF.out.2⟩
theorem rend_is (r b k c E : Nat) (A : Option Addr) (w : World) (h : Blk w r 71 #[.int .u64 b, .slice A k c]) (hb : b ≤ 9000000000000000000) (hk : k ≤ 1000000) (hE : E = b + k) : Calls Try.prog 34 #[.pointer (some ⟨r, 0, none⟩)] w fun e w' => e = .returned (.int .u64 E) ∧ ∃ m, w' = w.drewN m := by
 have c0 : w.cell? ⟨r, 0, none⟩ = some (.int .u64 b) := h.cell 0
 have c1 : w.cell? ⟨r, 1, none⟩ = some (.slice A k c) := h.cell 1
 have h4 : IntKind.u64.wrap ((b : Int) + (k : Int)) = (E : Int) := by rw [IntKind.wrap_u64]; omega
 have h5 : IntKind.u64.wrap ((k : Int)) = (k : Int) := by rw [IntKind.wrap_u64]; omega
 clear h hE
 go_enter Try.func34, Try.ntmps34
 go_wp2_with fail
 go_quiet (fail)
 go_wp2
 go_ret
 exact ⟨rfl, _, rfl⟩
theorem rin_yes (r b k c i m : Nat) (A : Option Addr) (w : World) (h : Blk w r 71 #[.int .u64 b, .slice A k c]) (hb : b ≤ 9000000000000000000) (hk : k ≤ 1000000) (hm : m = b + i) (hi : i ≤ k) : Calls Try.prog 31 #[.pointer (some ⟨r, 0, none⟩), .int .u64 m] w fun e w' => e = .returned (.bool true) ∧ ∃ m, w' = w.drewN m := by
 have c0 : w.cell? ⟨r, 0, none⟩ = some (.int .u64 b) := h.cell 0
 obtain ⟨E, hE⟩ : ∃ E, E = b + k := ⟨_, rfl⟩
 have HE := Lib.hid (rend_is r b k c E A w h hb hk hE)
 have d1 : decide (b ≤ m) = true := by simp; omega
 have d2 : decide (m ≤ E) = true := by simp; omega
 have d3 : decide ((b : Int) ≤ m) = true := by simp; omega
 have d4 : decide ((m : Int) ≤ E) = true := by simp; omega
 clear h hE hm hi
 go_enter Try.func31, Try.ntmps31
 go_wp2_with (go_at_call 34; (with_reducible refine HE.out.mono ?_); rintro e w1 ⟨rfl, n1, rfl⟩)
 go_ret
 exact ⟨by simp_all, _, rfl⟩
theorem rin_no (r b k c m : Nat) (A : Option Addr) (w : World) (h : Blk w r 71 #[.int .u64 b, .slice A k c]) (hb : b ≤ 9000000000000000000) (hk : k ≤ 1000000) (hm : m < b ∨ b + k < m) : Calls Try.prog 31 #[.pointer (some ⟨r, 0, none⟩), .int .u64 m] w fun e w' => e = .returned (.bool false) ∧ ∃ m, w' = w.drewN m := by
 have c0 : w.cell? ⟨r, 0, none⟩ = some (.int .u64 b) := h.cell 0
 obtain ⟨E, hE⟩ : ∃ E, E = b + k := ⟨_, rfl⟩
 have HE := Lib.hid (rend_is r b k c E A w h hb hk hE)
 by_cases hlt : m < b
 · have d1 : decide (b ≤ m) = false := by simp; omega
   clear h hE hm
   go_enter Try.func31, Try.ntmps31
   go_wp2_with (go_at_call 34; (with_reducible refine HE.out.mono ?_); rintro e w1 ⟨rfl, n1, rfl⟩)
   go_ret
   exact ⟨by simp_all, 0, rfl⟩
 · have d1 : decide (b ≤ m) = true := by simp; omega
   have d2 : decide (m ≤ E) = false := by simp; omega
   clear h hE hm hlt
   go_enter Try.func31, Try.ntmps31
   go_wp2_with (go_at_call 34; (with_reducible refine HE.out.mono ?_); rintro e w1 ⟨rfl, n1, rfl⟩)
   go_ret
   exact ⟨by simp_all, _, rfl⟩
set_option maxHeartbeats 4000000 in
theorem rmay_any (c n : Int) (o : Opn) (va vp vc : Value) (w : World) (hl : Lim o) (ho : OpAt w o va vp vc) : Calls Try.prog 28 #[rqVal c n o va vp vc] w fun e w' => e = .returned (.bool (mayO o)) ∧ Below w.heap.size w w' := by
 obtain ⟨Aa, ca, na, rfl, _, _⟩ := rdv_len ho.a
 obtain ⟨Ap, cp, np, rfl⟩ := ho.p.len
 obtain ⟨Ac, cc, nc, rfl, _⟩ := ho.c.len
 have hb : Below w.heap.size w (w.alloc (.cells (rqCs c n o (.slice Aa na ca) (.slice Ap np cp) (.slice Ac nc cc)) 42)) := (Below.refl _ _).alloc (Nat.le_refl _) _
 obtain ⟨a0, a1, a2, a3, a4, a5, a6, a7, a8⟩ := rq_cells (Blk.new w 42 (rqCs c n o (.slice Aa na ca) (.slice Ap np cp) (.slice Ac nc cc)))
 have HM := Lib.hid (refMayOp_any o _ _ _ _ (ho.on hb) hl)
 have HB := Lib.hid hb
 clear hb ho hl
 go_enter Try.func28, Try.ntmps28
 go_wp2_with (go_at_call 41; (with_reducible refine HM.out.mono ?_); rintro e wx ⟨rfl, hbx⟩)
 go_ret
 exact ⟨rfl, HB.out.trans (hbx.mono HB.out.size)⟩
theorem below_of_drew {w w' : World} (h : Below w.drew.heap.size w.drew w') : Below w.heap.size w w' := (below_drew (Below.refl w.heap.size w)).trans h
theorem OffK.dropMap {w : World} {base : Nat} {A : Option Addr} {n c i : Nat} {l : List Rq} (h : OffK kIt w base A n c l) (hi : i ≤ n) (hc : ¬ c = i) : OffK kIt w base (Option.map (fun x => x.add (i * 10)) A) (n - i) (c - i) (l.drop i) := by
 cases A with
 | none =>
   have h1 := h.nil0 rfl
   have h2 := h.le
   omega
 | some a =>
   obtain ⟨b, off, cur, rfl, _, _, _⟩ := h.blk a rfl
   have h3 := h.drop hi
   simp only [Option.map_some, Addr.add_mid]
   exact h3
theorem log_fin {n0 g m n c d B n' c' : Nat} {A A' : Option Addr} {P Q : List Rq} {w W2 : World} (hS : Blk W2 g 54 #[.bool true, .int .u64 B, .slice A n c, .int .i64 d]) (hO : OffK kIt W2 n0 A' n' c' Q) (hf : FrT n0 TP w W2)
   (hown : ∀ x ∈ P, OpOwn w n0 x.o x.va x.vp x.vc) (hgood : ∀ m ∈ means P, m.Good) (hd : d = sumM (means Q)) (hlow : n0 ≤ g) (hQ : ∀ x ∈ Q, x ∈ P) :
   LogP n0 ((W2.setCell ⟨g, 1, none⟩ (.int .u64 m)).setCell ⟨g, 2, none⟩ (.slice A' n' c')).drew g m Q ∧ FrT n0 TP w ((W2.setCell ⟨g, 1, none⟩ (.int .u64 m)).setCell ⟨g, 2, none⟩ (.slice A' n' c')).drew := by
 have h1 : Blk (W2.setCell ⟨g, 1, none⟩ (.int .u64 m)) g 54 #[.bool true, .int .u64 m, .slice A n c, .int .i64 d] := hS.set_ 1 _
 have h2 : Blk ((W2.setCell ⟨g, 1, none⟩ (.int .u64 m)).setCell ⟨g, 2, none⟩ (.slice A' n' c')) g 54 #[.bool true, .int .u64 m, .slice A' n' c', .int .i64 d] := h1.set_ 2 _
 have f1 := ((hf.set hS (.inl rfl) hlow (.int .u64 m) (i := 1)).set h1 (.inl rfl) hlow (.slice A' n' c') (i := 2)).drew
 have o1 := ((hO.setFar (i := 1) hS (by decide) (.int .u64 m)).setFar (i := 2) h1 (by decide) (.slice A' n' c')).drew
 refine ⟨⟨⟨A', n', c', ?_, o1⟩, fun x hx => (hown x (hQ x hx)).frT f1 (by unfold TP; decide) (by unfold TP; decide) (by unfold TP; decide), hlow, fun mm hm => ?_⟩, f1⟩
 · rw [← hd]; exact h2
 · obtain ⟨x, hx, rfl⟩ := List.mem_map.1 hm
   exact hgood _ (List.mem_map_of_mem (hQ x hx))
set_option maxHeartbeats 16000000 in
theorem drop_ok (n0 g B i m : Nat) (P : List Rq) (w : World) (h : LogP n0 w g B P) (hn0 : n0 ≤ w.heap.size) (hl : P.length ≤ 1000) (hB : B ≤ 9000000000000000000) (hm : m = B + i) (hi : i ≤ P.length) :
   Calls Try.prog 18 #[.pointer (some ⟨g, 0, none⟩), .int .u64 m] w fun e w' => e = .returned (.int .i64 0) ∧ LogP n0 w' g m (P.drop i) ∧ FrT n0 TP w w' := by
 obtain ⟨⟨A, n, c, hk, hO⟩, hown, hlow, hgood⟩ := h
 have hnl := hO.len
 have hin : i ≤ n := by omega
 have hnc := hO.le
 have hic : i ≤ c := by omega
 have hn1 : n ≤ 1000 := by omega
 obtain ⟨q, hq⟩ : ∃ q, q = sumM (means P) := ⟨_, rfl⟩
 obtain ⟨s, hs⟩ : ∃ s, s = sumM (means (P.take i)) := ⟨_, rfl⟩
 obtain ⟨d, hd⟩ : ∃ d, d = sumM (means (P.drop i)) := ⟨_, rfl⟩
 have hqs : q = s + d := by rw [hq, hs, hd, means_take, means_drop, sumM_take]
 rw [← hq] at hk
 have hqf : q ≤ 300000000 := by rw [hq]; have := sumM_few hgood; rw [means_len] at this; omega
 have HI := Lib.hid (index_in g B n c i m A _ w hk hB (by omega) hm hin)
 have HSZ : Hid (∀ W, Below w.heap.size w W → Calls Try.prog 38 #[.slice A i c] W fun e w' => e = .returned (.int .i64 s) ∧ Below W.heap.size W w') := Lib.hid fun W hb => by
   rw [hs]
   have h3 := ((hO.on hb).cut hin).rd
   exact sizeOf_any A i c (P.take i) W h3 (by rw [List.length_take]; omega) (by omega) (good_take hgood i)
 have e1 : IntKind.i64.wrap ((q : Int) - (s : Int)) = (d : Int) := by rw [IntWalk.i64_in _ (by omega)]; omega
 have c2 : w.cell? ⟨g, 2, none⟩ = some (.slice A n c) := hk.cell 2
 have c3 : w.cell? ⟨g, 3, none⟩ = some (.int .i64 q) := hk.cell 3
 have f3 := hk.frozen 3
 have HX := Lib.hid (And.intro hk (And.intro hO (And.intro hown (And.intro hgood (And.intro hnl hd)))))
 have H1 := Lib.hid (HSZ.out w.drew (below_drew (Below.refl _ _)))
 clear hk hO hown hgood hnl hq hs hd hqs hm hi hl
 go_enter Try.func18, Try.ntmps18
 go_upto_region 4 with (go_at_call 36; (with_reducible refine HI.out.mono ?_); rintro e w1 ⟨rfl, rfl⟩)
 go_region_law ((go_simp; (with_reducible refine H1.out.mono ?_); rintro e w3 ⟨rfl, hb3⟩; dsimp only; have H3 := Lib.hid (And.intro (HX.out.1.on (below_of_drew hb3)) (below_of_drew hb3)); have d3 := H3.out.1.cell 3; have g3 := H3.out.1.frozen 3; clear H1 hb3))
 all_goals
   have hkS : Blk (w3.setCell ⟨g, 3, none⟩ (.int .i64 d)) g 54 #[.bool true, .int .u64 B, .slice A n c, .int .i64 d] := H3.out.1.set_ 3 _
   have hOS := (HX.out.2.1.on H3.out.2).setFar (i := 3) H3.out.1 (by decide) (.int .i64 d)
   have hfS : FrT n0 TP w (w3.setCell ⟨g, 3, none⟩ (.int .i64 d)) := ((FrT.refl hn0).then_ hn0 H3.out.2).set H3.out.1 (.inl rfl) hlow _
   generalize w3.setCell ⟨g, 3, none⟩ (.int .i64 d) = W2 at hkS hOS hfS ⊢
   have s1 := hkS.cell 1
   have s2 := hkS.cell 2
   have j1 := hkS.frozen 1
   have j2 := hkS.frozen 2
   simp only [List.getElem?_toArray, List.getElem?_cons_zero, List.getElem?_cons_succ] at s1 s2
   have HS := Lib.hid (And.intro hkS (And.intro hOS hfS))
   clear hkS hOS hfS c2 c3 f3 d3 g3 HI HSZ
   go_upto_region 5 with fail
   go_region
   all_goals
     go_wp2_with fail
     all_goals
       go_ret
       refine ⟨rfl, ?_⟩
       first
         | exact log_fin (P := P) HS.out.1 (HS.out.2.1.dropMap hin ‹_›) HS.out.2.2 HX.out.2.2.1 HX.out.2.2.2.1 HX.out.2.2.2.2.2 hlow (fun x hx => List.mem_of_mem_drop hx)
         | exact log_fin (P := P) HS.out.1 (by have h0 := HS.out.2.1.dropAll (i := i) (by omega) (by omega); rwa [show c - i = 0 by omega] at h0) HS.out.2.2 HX.out.2.2.1 HX.out.2.2.2.1 HX.out.2.2.2.2.2 hlow (fun x hx => List.mem_of_mem_drop hx)
theorem log_fin2 {n0 g n c d B n' c' : Nat} {A A' : Option Addr} {P Q : List Rq} {w W2 : World} (hS : Blk W2 g 54 #[.bool true, .int .u64 B, .slice A n c, .int .i64 d]) (hO : OffK kIt W2 n0 A' n' c' Q) (hf : FrT n0 TP w W2)
   (hown : ∀ x ∈ P, OpOwn w n0 x.o x.va x.vp x.vc) (hgood : ∀ m ∈ means P, m.Good) (hd : d = sumM (means Q)) (hlow : n0 ≤ g) (hQ : ∀ x ∈ Q, x ∈ P) :
   LogP n0 (W2.setCell ⟨g, 2, none⟩ (.slice A' n' c')) g B Q ∧ FrT n0 TP w (W2.setCell ⟨g, 2, none⟩ (.slice A' n' c')) := by
 have h2 : Blk (W2.setCell ⟨g, 2, none⟩ (.slice A' n' c')) g 54 #[.bool true, .int .u64 B, .slice A' n' c', .int .i64 d] := hS.set_ 2 _
 have f1 := hf.set hS (.inl rfl) hlow (.slice A' n' c') (i := 2)
 have o1 := hO.setFar (i := 2) hS (by decide) (.slice A' n' c')
 refine ⟨⟨⟨A', n', c', ?_, o1⟩, fun x hx => (hown x (hQ x hx)).frT f1 (by unfold TP; decide) (by unfold TP; decide) (by unfold TP; decide), hlow, fun mm hm => ?_⟩, f1⟩
 · rw [← hd]; exact h2
 · obtain ⟨x, hx, rfl⟩ := List.mem_map.1 hm
   exact hgood _ (List.mem_map_of_mem (hQ x hx))
set_option maxHeartbeats 16000000 in
theorem cut_ok (n0 g B i m : Nat) (P : List Rq) (w : World) (h : LogP n0 w g B P) (hn0 : n0 ≤ w.heap.size) (hl : P.length ≤ 1000) (hB : B ≤ 9000000000000000000) (hm : m = B + i) (hi : i ≤ P.length) :
   Calls Try.prog 17 #[.pointer (some ⟨g, 0, none⟩), .int .u64 m] w fun e w' => e = .returned (.int .i64 0) ∧ LogP n0 w' g B (P.take i) ∧ FrT n0 TP w w' := by
 obtain ⟨⟨A, n, c, hk, hO⟩, hown, hlow, hgood⟩ := h
 have hnl := hO.len
 have hin : i ≤ n := by omega
 have hnc := hO.le
 have hic : i ≤ c := by omega
 have hn1 : n ≤ 1000 := by omega
 obtain ⟨q, hq⟩ : ∃ q, q = sumM (means P) := ⟨_, rfl⟩
 obtain ⟨s, hs⟩ : ∃ s, s = sumM (means (P.drop i)) := ⟨_, rfl⟩
 obtain ⟨d, hd⟩ : ∃ d, d = sumM (means (P.take i)) := ⟨_, rfl⟩
 have hqs : q = d + s := by rw [hq, hs, hd, means_take, means_drop, sumM_take]
 rw [← hq] at hk
 have hqf : q ≤ 300000000 := by rw [hq]; have := sumM_few hgood; rw [means_len] at this; omega
 have HI := Lib.hid (index_in g B n c i m A _ w hk hB (by omega) hm hin)
 have e1 : IntKind.i64.wrap ((q : Int) - (s : Int)) = (d : Int) := by rw [IntWalk.i64_in _ (by omega)]; omega
 have c2 : w.cell? ⟨g, 2, none⟩ = some (.slice A n c) := hk.cell 2
 have c3 : w.cell? ⟨g, 3, none⟩ = some (.int .i64 q) := hk.cell 3
 have f3 := hk.frozen 3
 have hll : (P.drop i).length = n - i := by rw [List.length_drop]; omega
 by_cases hci : c = i
 · have H1 : Hid (Calls Try.prog 38 #[.slice A (n - i) 0] w.drew fun e w' => e = .returned (.int .i64 s) ∧ Below w.drew.heap.size w.drew w') := Lib.hid (by
     rw [hs]
     exact sizeOf_any _ _ _ (P.drop i) _ (((hO.drew).dropAll (i := i) (by omega) (by omega)).rd) hll.symm (by omega) (good_drop hgood i))
   have HX := Lib.hid (And.intro hk (And.intro hO (And.intro hown (And.intro hgood (And.intro hnl hd)))))
   clear hk hO hown hgood hnl hq hs hd hqs hm hi hl hll
   go_enter Try.func17, Try.ntmps17
   go_upto_region 4 with (go_at_call 36; (with_reducible refine HI.out.mono ?_); rintro e w1 ⟨rfl, rfl⟩)
   go_region_law ((go_simp; (with_reducible refine H1.out.mono ?_); rintro e w3 ⟨rfl, hb3⟩; dsimp only; have H3 := Lib.hid (And.intro (HX.out.1.on (below_of_drew hb3)) (below_of_drew hb3)); have d3 := H3.out.1.cell 3; have g3 := H3.out.1.frozen 3; clear H1 hb3))
   all_goals
     have hkS : Blk (w3.setCell ⟨g, 3, none⟩ (.int .i64 d)) g 54 #[.bool true, .int .u64 B, .slice A n c, .int .i64 d] := H3.out.1.set_ 3 _
     have hOS := (HX.out.2.1.on H3.out.2).setFar (i := 3) H3.out.1 (by decide) (.int .i64 d)
     have hfS : FrT n0 TP w (w3.setCell ⟨g, 3, none⟩ (.int .i64 d)) := ((FrT.refl hn0).then_ hn0 H3.out.2).set H3.out.1 (.inl rfl) hlow _
     generalize w3.setCell ⟨g, 3, none⟩ (.int .i64 d) = W2 at hkS hOS hfS ⊢
     have s2 := hkS.cell 2
     have j2 := hkS.frozen 2
     simp only [List.getElem?_toArray, List.getElem?_cons_zero, List.getElem?_cons_succ] at s2
     have HS := Lib.hid (And.intro hkS (And.intro hOS hfS))
     clear hkS hOS hfS c2 c3 f3 d3 g3 HI
     go_wp2_with fail
     go_ret
     exact ⟨rfl, log_fin2 (P := P) HS.out.1 (HS.out.2.1.cut hin) HS.out.2.2 HX.out.2.2.1 HX.out.2.2.2.1 HX.out.2.2.2.2.2 hlow (fun x hx => List.mem_of_mem_take hx)⟩
 · have H1 : Hid (Calls Try.prog 38 #[.slice (Option.map (fun x => x.add (i * 10)) A) (n - i) (c - i)] w.drew fun e w' => e = .returned (.int .i64 s) ∧ Below w.drew.heap.size w.drew w') := Lib.hid (by
     rw [hs]
     exact sizeOf_any _ _ _ (P.drop i) _ (((hO.drew).dropMap hin hci).rd) hll.symm (by omega) (good_drop hgood i))
   have HX := Lib.hid (And.intro hk (And.intro hO (And.intro hown (And.intro hgood (And.intro hnl hd)))))
   clear hk hO hown hgood hnl hq hs hd hqs hm hi hl hll
   go_enter Try.func17, Try.ntmps17
   go_upto_region 4 with (go_at_call 36; (with_reducible refine HI.out.mono ?_); rintro e w1 ⟨rfl, rfl⟩)
   go_region_law ((go_simp; (with_reducible refine H1.out.mono ?_); rintro e w3 ⟨rfl, hb3⟩; dsimp only; have H3 := Lib.hid (And.intro (HX.out.1.on (below_of_drew hb3)) (below_of_drew hb3)); have d3 := H3.out.1.cell 3; have g3 := H3.out.1.frozen 3; clear H1 hb3))
   all_goals
     have hkS : Blk (w3.setCell ⟨g, 3, none⟩ (.int .i64 d)) g 54 #[.bool true, .int .u64 B, .slice A n c, .int .i64 d] := H3.out.1.set_ 3 _
     have hOS := (HX.out.2.1.on H3.out.2).setFar (i := 3) H3.out.1 (by decide) (.int .i64 d)
     have hfS : FrT n0 TP w (w3.setCell ⟨g, 3, none⟩ (.int .i64 d)) := ((FrT.refl hn0).then_ hn0 H3.out.2).set H3.out.1 (.inl rfl) hlow _
     generalize w3.setCell ⟨g, 3, none⟩ (.int .i64 d) = W2 at hkS hOS hfS ⊢
     have s2 := hkS.cell 2
     have j2 := hkS.frozen 2
     simp only [List.getElem?_toArray, List.getElem?_cons_zero, List.getElem?_cons_succ] at s2
     have HS := Lib.hid (And.intro hkS (And.intro hOS hfS))
     clear hkS hOS hfS c2 c3 f3 d3 g3 HI
     go_wp2_with fail
     go_ret
     exact ⟨rfl, log_fin2 (P := P) HS.out.1 (HS.out.2.1.cut hin) HS.out.2.2 HX.out.2.2.1 HX.out.2.2.2.1 HX.out.2.2.2.2.2 hlow (fun x hx => List.mem_of_mem_take hx)⟩
theorem drop_no (g k c b m : Nat) (A : Option Addr) (z : Value) (w : World) (h : Blk w g 54 #[.bool true, .int .u64 b, .slice A k c, z]) (hb : b ≤ 9000000000000000000) (hk : k ≤ 1000000) (hm : m < b ∨ b + k < m) : Calls Try.prog 18 #[.pointer (some ⟨g, 0, none⟩), .int .u64 m] w fun e w' => e = .returned (.int .i64 8) ∧ w = w' := by
 have HI := Lib.hid (index_out g b k c m A z w h hb hk hm)
 clear h hm
 go_enter Try.func18, Try.ntmps18
 go_wp2_with (go_at_call 36; (with_reducible refine HI.out.mono ?_); rintro e w1 ⟨rfl, rfl⟩)
 go_ret
 exact ⟨rfl, rfl⟩
theorem cut_no (g k c b m : Nat) (A : Option Addr) (z : Value) (w : World) (h : Blk w g 54 #[.bool true, .int .u64 b, .slice A k c, z]) (hb : b ≤ 9000000000000000000) (hk : k ≤ 1000000) (hm : m < b ∨ b + k < m) : Calls Try.prog 17 #[.pointer (some ⟨g, 0, none⟩), .int .u64 m] w fun e w' => e = .returned (.int .i64 8) ∧ w = w' := by
 have HI := Lib.hid (index_out g b k c m A z w h hb hk hm)
 clear h hm
 go_enter Try.func17, Try.ntmps17
 go_wp2_with (go_at_call 36; (with_reducible refine HI.out.mono ?_); rintro e w1 ⟨rfl, rfl⟩)
 go_ret
 exact ⟨rfl, rfl⟩
end Go.Proofs.Ytniaijgejljjbaa.Tlv
