/- What goes off a log. -/
import Derived.Test.YtniaijgejljjbaaGreatY37
namespace Go.Proofs.YtniaijgejljjbaaGreat.Tlv
open Go.RowKit
set_option maxRecDepth 100000
set_option linter.unusedVariables false
set_option linter.unusedSimpArgs false
theorem below_of_drew {w w' : World} (h : Below w.drew.heap.size w.drew w') : Below w.heap.size w w' := (below_drew (Below.refl w.heap.size w)).trans h
theorem OffK.dropMap {w : World} {base : Nat} {A : Option Addr} {n c i : Nat} {l : List Rq} (h : OffK kIt w base A n c l) (hi : i ≤ n) (hc : ¬ c = i) : OffK kIt w base (Option.map (fun x => x.add (i * 10)) A) (n - i) (c - i) (l.drop i) := by
 cases A with
 | none =>
   have h1 := h.nil0 rfl
   have h2 := h.le
   omega
 | some a =>
   obtain ⟨b, off, cur, rfl, _, _, _⟩ := h.blk a rfl
   have h3 := h.drop hi
   simp only [Option.map_some, Addr.add_mid]
   exact h3
theorem SpOk.none_ {sp : Spc} {A : Option Addr} {n c : Nat} (h : c ≤ n) : SpOk sp A n c := fun b off e j h1 h2 => by
 have : c * 10 ≤ n * 10 := Nat.mul_le_mul_right _ h
 omega
theorem SpOk.drop {sp : Spc} {w : World} {n0 : Nat} {A : Option Addr} {n c i : Nat} {l : List Rq} (h : SpOk sp A n c) (hO : OffK kIt w n0 A n c l) (hi : i ≤ n) (hic : i ≤ c) : SpOk sp (Option.map (fun x => x.add (i * 10)) A) (n - i) (c - i) := fun b off e j h1 h2 => by
 cases A with
 | none => cases e
 | some a =>
   obtain ⟨b2, off2, cur, rfl, _, _, _⟩ := hO.blk a rfl
   simp only [Option.map_some, Addr.add_mid] at e
   cases e
   refine h b off2 rfl j ?_ ?_
   · have : (n - i) * 10 + i * 10 = n * 10 := by rw [← Nat.add_mul]; congr 1; omega
     omega
   · have : (c - i) * 10 + i * 10 = c * 10 := by rw [← Nat.add_mul]; congr 1; omega
     omega
theorem log_fin {sp : Spc} {n0 g m n c d B n' c' : Nat} {A A' : Option Addr} {P Q : List Rq} {w W2 : World} (hS : Blk W2 g 65 #[.bool true, .int .u64 B, .slice A n c, .int .i64 d]) (hO : OffK kIt W2 n0 A' n' c' Q) (hf : FrT sp n0 (TP g) w W2)
   (hown : ∀ x ∈ P, OpOwn w n0 x.o x.va x.vp x.vc) (hgood : ∀ m ∈ means P, m.Good) (hd : d = sumM (means Q)) (hlow : n0 ≤ g) (hQ : ∀ x ∈ Q, x ∈ P) (hso : SpOk sp A' n' c') (hspn : sp.N ≤ w.heap.size) :
   LogP sp n0 ((W2.setCell ⟨g, 1, none⟩ (.int .u64 m)).setCell ⟨g, 2, none⟩ (.slice A' n' c')).drew g m Q ∧ FrT sp n0 (TP g) w ((W2.setCell ⟨g, 1, none⟩ (.int .u64 m)).setCell ⟨g, 2, none⟩ (.slice A' n' c')).drew := by
 have h1 : Blk (W2.setCell ⟨g, 1, none⟩ (.int .u64 m)) g 65 #[.bool true, .int .u64 m, .slice A n c, .int .i64 d] := hS.set_ 1 _
 have h2 : Blk ((W2.setCell ⟨g, 1, none⟩ (.int .u64 m)).setCell ⟨g, 2, none⟩ (.slice A' n' c')) g 65 #[.bool true, .int .u64 m, .slice A' n' c', .int .i64 d] := h1.set_ 2 _
 have f1 := ((hf.set hS (.inl ⟨rfl, rfl⟩) (by decide) hlow (.int .u64 m) (i := 1)).set h1 (.inl ⟨rfl, rfl⟩) (by decide) hlow (.slice A' n' c') (i := 2)).drew
 have o1 := ((hO.setFar (i := 1) hS (by decide) (.int .u64 m)).setFar (i := 2) h1 (by decide) (.slice A' n' c')).drew
 refine ⟨⟨⟨A', n', c', ?_, o1, hso⟩, fun x hx => (hown x (hQ x hx)).frT f1 (by intro b; simp [TP]) (by intro b; simp [TP]) (by intro b; simp [TP]), hlow, fun mm hm => ?_, Nat.le_trans hspn f1.bel.size⟩, f1⟩
 · rw [← hd]; exact h2
 · obtain ⟨x, hx, rfl⟩ := List.mem_map.1 hm
   exact hgood _ (List.mem_map_of_mem (hQ x hx))
set_option maxHeartbeats 16000000 in
theorem drop_ok {sp : Spc} (n0 g B i m : Nat) (P : List Rq) (w : World) (h : LogP sp n0 w g B P) (hn0 : n0 ≤ w.heap.size) (hl : P.length ≤ 1000) (hB : B ≤ 9000000000000000000) (hm : m = B + i) (hi : i ≤ P.length) :
   Calls Tryz.prog 16 #[.pointer (some ⟨g, 0, none⟩), .int .u64 m] w fun e w' => e = .returned (.int .i64 0) ∧ LogP sp n0 w' g m (P.drop i) ∧ FrT sp n0 (TP g) w w' := by
 obtain ⟨⟨A, n, c, hk, hO, hsp⟩, hown, hlow, hgood, hspn⟩ := h
 have hnl := hO.len
 have hin : i ≤ n := by omega
 have hnc := hO.le
 have hic : i ≤ c := by omega
 have hn1 : n ≤ 1000 := by omega
 obtain ⟨q, hq⟩ : ∃ q, q = sumM (means P) := ⟨_, rfl⟩
 obtain ⟨s, hs⟩ : ∃ s, s = sumM (means (P.take i)) := ⟨_, rfl⟩
 obtain ⟨d, hd⟩ : ∃ d, d = sumM (means (P.drop i)) := ⟨_, rfl⟩
 have hqs : q = s + d := by rw [hq, hs, hd, means_take, means_drop, sumM_take]
 rw [← hq] at hk
 have hqf : q ≤ 300000000 := by rw [hq]; have := sumM_few hgood; rw [means_len] at this; omega
 have HI := Lib.hid (index_in g B n c i m A _ w hk hB (by omega) hm hin)
 have HSZ : Hid (∀ W, Below w.heap.size w W → Calls Tryz.prog 36 #[.slice A i c] W fun e w' => e = .returned (.int .i64 s) ∧ Below W.heap.size W w') := Lib.hid fun W hb => by
   rw [hs]
   have h3 := ((hO.on hb).cut hin).rd
   exact sizeOf_any A i c (P.take i) W h3 (by rw [List.length_take]; omega) (by omega) (good_take hgood i)
 have e1 : IntKind.i64.wrap ((q : Int) - (s : Int)) = (d : Int) := by rw [IntWalk.i64_in _ (by omega)]; omega
 have c2 : w.cell? ⟨g, 2, none⟩ = some (.slice A n c) := hk.cell 2
 have c3 : w.cell? ⟨g, 3, none⟩ = some (.int .i64 q) := hk.cell 3
 have f3 := hk.frozen 3
 have HSP := Lib.hid (And.intro hsp hspn)
 clear hsp hspn
 have HX := Lib.hid (And.intro hk (And.intro hO (And.intro hown (And.intro hgood (And.intro hnl hd)))))
 have H1 := Lib.hid (HSZ.out w.drew (below_drew (Below.refl _ _)))
 clear hk hO hown hgood hnl hq hs hd hqs hm hi hl
 go_enter Tryz.func16, Tryz.ntmps16
 go_upto_region 4 with (go_at_call 35; (with_reducible refine HI.out.mono ?_); rintro e w1 ⟨rfl, rfl⟩)
 go_region_law ((go_simp; (with_reducible refine H1.out.mono ?_); rintro e w3 ⟨rfl, hb3⟩; dsimp only; have H3 := Lib.hid (And.intro (HX.out.1.on (below_of_drew hb3)) (below_of_drew hb3)); have d3 := H3.out.1.cell 3; have g3 := H3.out.1.frozen 3; clear H1 hb3))
 all_goals
   have hkS : Blk (w3.setCell ⟨g, 3, none⟩ (.int .i64 d)) g 65 #[.bool true, .int .u64 B, .slice A n c, .int .i64 d] := H3.out.1.set_ 3 _
   have hOS := (HX.out.2.1.on H3.out.2).setFar (i := 3) H3.out.1 (by decide) (.int .i64 d)
   have hfS : FrT sp n0 (TP g) w (w3.setCell ⟨g, 3, none⟩ (.int .i64 d)) := ((FrT.refl hn0).then_ hn0 H3.out.2).set H3.out.1 (.inl ⟨rfl, rfl⟩) (by decide) hlow _
   generalize w3.setCell ⟨g, 3, none⟩ (.int .i64 d) = W2 at hkS hOS hfS ⊢
   have s1 := hkS.cell 1
   have s2 := hkS.cell 2
   have j1 := hkS.frozen 1
   have j2 := hkS.frozen 2
   simp only [List.getElem?_toArray, List.getElem?_cons_zero, List.getElem?_cons_succ] at s1 s2
   have HS := Lib.hid (And.intro hkS (And.intro hOS hfS))
   clear hkS hOS hfS c2 c3 f3 d3 g3 HI HSZ
   go_upto_region 5 with fail
   go_region
   all_goals
     go_wp2_with fail
     all_goals
       go_ret
       refine ⟨rfl, ?_⟩
       first
         | exact log_fin (P := P) HS.out.1 (HS.out.2.1.dropMap hin ‹_›) HS.out.2.2 HX.out.2.2.1 HX.out.2.2.2.1 HX.out.2.2.2.2.2 hlow (fun x hx => List.mem_of_mem_drop hx) (HSP.out.1.drop HX.out.2.1 hin hic) HSP.out.2
         | exact log_fin (P := P) HS.out.1 (by have h0 := HS.out.2.1.dropAll (i := i) (by omega) (by omega); rwa [show c - i = 0 by omega] at h0) HS.out.2.2 HX.out.2.2.1 HX.out.2.2.2.1 HX.out.2.2.2.2.2 hlow (fun x hx => List.mem_of_mem_drop hx) (SpOk.none_ (Nat.zero_le _)) HSP.out.2
theorem log_fin2 {sp : Spc} {n0 g n c d B n' c' : Nat} {A A' : Option Addr} {P Q : List Rq} {w W2 : World} (hS : Blk W2 g 65 #[.bool true, .int .u64 B, .slice A n c, .int .i64 d]) (hO : OffK kIt W2 n0 A' n' c' Q) (hf : FrT sp n0 (TP g) w W2)
   (hown : ∀ x ∈ P, OpOwn w n0 x.o x.va x.vp x.vc) (hgood : ∀ m ∈ means P, m.Good) (hd : d = sumM (means Q)) (hlow : n0 ≤ g) (hQ : ∀ x ∈ Q, x ∈ P) (hso : SpOk sp A' n' c') (hspn : sp.N ≤ w.heap.size) :
   LogP sp n0 (W2.setCell ⟨g, 2, none⟩ (.slice A' n' c')) g B Q ∧ FrT sp n0 (TP g) w (W2.setCell ⟨g, 2, none⟩ (.slice A' n' c')) := by
 have h2 : Blk (W2.setCell ⟨g, 2, none⟩ (.slice A' n' c')) g 65 #[.bool true, .int .u64 B, .slice A' n' c', .int .i64 d] := hS.set_ 2 _
 have f1 := hf.set hS (.inl ⟨rfl, rfl⟩) (by decide) hlow (.slice A' n' c') (i := 2)
 have o1 := hO.setFar (i := 2) hS (by decide) (.slice A' n' c')
 refine ⟨⟨⟨A', n', c', ?_, o1, hso⟩, fun x hx => (hown x (hQ x hx)).frT f1 (by intro b; simp [TP]) (by intro b; simp [TP]) (by intro b; simp [TP]), hlow, fun mm hm => ?_, Nat.le_trans hspn f1.bel.size⟩, f1⟩
 · rw [← hd]; exact h2
 · obtain ⟨x, hx, rfl⟩ := List.mem_map.1 hm
   exact hgood _ (List.mem_map_of_mem (hQ x hx))
set_option maxHeartbeats 16000000 in
theorem cut_ok {sp : Spc} (n0 g B i m : Nat) (P : List Rq) (w : World) (h : LogP sp n0 w g B P) (hn0 : n0 ≤ w.heap.size) (hl : P.length ≤ 1000) (hB : B ≤ 9000000000000000000) (hm : m = B + i) (hi : i ≤ P.length) :
   Calls Tryz.prog 26 #[.pointer (some ⟨g, 0, none⟩), .int .u64 m] w fun e w' => e = .returned (.int .i64 0) ∧ LogP sp n0 w' g B (P.take i) ∧ FrT sp n0 (TP g) w w' := by
 obtain ⟨⟨A, n, c, hk, hO, hsp⟩, hown, hlow, hgood, hspn⟩ := h
 have hnl := hO.len
 have hin : i ≤ n := by omega
 have hnc := hO.le
 have hic : i ≤ c := by omega
 have hn1 : n ≤ 1000 := by omega
 obtain ⟨q, hq⟩ : ∃ q, q = sumM (means P) := ⟨_, rfl⟩
 obtain ⟨s, hs⟩ : ∃ s, s = sumM (means (P.drop i)) := ⟨_, rfl⟩
 obtain ⟨d, hd⟩ : ∃ d, d = sumM (means (P.take i)) := ⟨_, rfl⟩
 have hqs : q = d + s := by rw [hq, hs, hd, means_take, means_drop, sumM_take]
 rw [← hq] at hk
 have hqf : q ≤ 300000000 := by rw [hq]; have := sumM_few hgood; rw [means_len] at this; omega
 have HI := Lib.hid (index_in g B n c i m A _ w hk hB (by omega) hm hin)
 have e1 : IntKind.i64.wrap ((q : Int) - (s : Int)) = (d : Int) := by rw [IntWalk.i64_in _ (by omega)]; omega
 have c2 : w.cell? ⟨g, 2, none⟩ = some (.slice A n c) := hk.cell 2
 have c3 : w.cell? ⟨g, 3, none⟩ = some (.int .i64 q) := hk.cell 3
 have f3 := hk.frozen 3
 have hll : (P.drop i).length = n - i := by rw [List.length_drop]; omega
 by_cases hci : c = i
 · have H1 : Hid (Calls Tryz.prog 36 #[.slice A (n - i) 0] w.drew fun e w' => e = .returned (.int .i64 s) ∧ Below w.drew.heap.size w.drew w') := Lib.hid (by
     rw [hs]
     exact sizeOf_any _ _ _ (P.drop i) _ (((hO.drew).dropAll (i := i) (by omega) (by omega)).rd) hll.symm (by omega) (good_drop hgood i))
   have HSP := Lib.hid (And.intro hsp hspn)
   clear hsp hspn
   have HX := Lib.hid (And.intro hk (And.intro hO (And.intro hown (And.intro hgood (And.intro hnl hd)))))
   clear hk hO hown hgood hnl hq hs hd hqs hm hi hl hll
   go_enter Tryz.func26, Tryz.ntmps26
   go_upto_region 4 with (go_at_call 35; (with_reducible refine HI.out.mono ?_); rintro e w1 ⟨rfl, rfl⟩)
   go_region_law ((go_simp; (with_reducible refine H1.out.mono ?_); rintro e w3 ⟨rfl, hb3⟩; dsimp only; have H3 := Lib.hid (And.intro (HX.out.1.on (below_of_drew hb3)) (below_of_drew hb3)); have d3 := H3.out.1.cell 3; have g3 := H3.out.1.frozen 3; clear H1 hb3))
   all_goals
     have hkS : Blk (w3.setCell ⟨g, 3, none⟩ (.int .i64 d)) g 65 #[.bool true, .int .u64 B, .slice A n c, .int .i64 d] := H3.out.1.set_ 3 _
     have hOS := (HX.out.2.1.on H3.out.2).setFar (i := 3) H3.out.1 (by decide) (.int .i64 d)
     have hfS : FrT sp n0 (TP g) w (w3.setCell ⟨g, 3, none⟩ (.int .i64 d)) := ((FrT.refl hn0).then_ hn0 H3.out.2).set H3.out.1 (.inl ⟨rfl, rfl⟩) (by decide) hlow _
     generalize w3.setCell ⟨g, 3, none⟩ (.int .i64 d) = W2 at hkS hOS hfS ⊢
     have s2 := hkS.cell 2
     have j2 := hkS.frozen 2
     simp only [List.getElem?_toArray, List.getElem?_cons_zero, List.getElem?_cons_succ] at s2
     have HS := Lib.hid (And.intro hkS (And.intro hOS hfS))
     clear hkS hOS hfS c2 c3 f3 d3 g3 HI
     go_wp2_with fail
     go_ret
     exact ⟨rfl, log_fin2 (P := P) HS.out.1 (HS.out.2.1.cut hin) HS.out.2.2 HX.out.2.2.1 HX.out.2.2.2.1 HX.out.2.2.2.2.2 hlow (fun x hx => List.mem_of_mem_take hx) (SpOk.none_ (Nat.le_refl _)) HSP.out.2⟩
 · have H1 : Hid (Calls Tryz.prog 36 #[.slice (Option.map (fun x => x.add (i * 10)) A) (n - i) (c - i)] w.drew fun e w' => e = .returned (.int .i64 s) ∧ Below w.drew.heap.size w.drew w') := Lib.hid (by
     rw [hs]
     exact sizeOf_any _ _ _ (P.drop i) _ (((hO.drew).dropMap hin hci).rd) hll.symm (by omega) (good_drop hgood i))
   have HSP := Lib.hid (And.intro hsp hspn)
   clear hsp hspn
   have HX := Lib.hid (And.intro hk (And.intro hO (And.intro hown (And.intro hgood (And.intro hnl hd)))))
   clear hk hO hown hgood hnl hq hs hd hqs hm hi hl hll
   go_enter Tryz.func26, Tryz.ntmps26
   go_upto_region 4 with (go_at_call 35; (with_reducible refine HI.out.mono ?_); rintro e w1 ⟨rfl, rfl⟩)
   go_region_law ((go_simp; (with_reducible refine H1.out.mono ?_); rintro e w3 ⟨rfl, hb3⟩; dsimp only; have H3 := Lib.hid (And.intro (HX.out.1.on (below_of_drew hb3)) (below_of_drew hb3)); have d3 := H3.out.1.cell 3; have g3 := H3.out.1.frozen 3; clear H1 hb3))
   all_goals
     have hkS : Blk (w3.setCell ⟨g, 3, none⟩ (.int .i64 d)) g 65 #[.bool true, .int .u64 B, .slice A n c, .int .i64 d] := H3.out.1.set_ 3 _
     have hOS := (HX.out.2.1.on H3.out.2).setFar (i := 3) H3.out.1 (by decide) (.int .i64 d)
     have hfS : FrT sp n0 (TP g) w (w3.setCell ⟨g, 3, none⟩ (.int .i64 d)) := ((FrT.refl hn0).then_ hn0 H3.out.2).set H3.out.1 (.inl ⟨rfl, rfl⟩) (by decide) hlow _
     generalize w3.setCell ⟨g, 3, none⟩ (.int .i64 d) = W2 at hkS hOS hfS ⊢
     have s2 := hkS.cell 2
     have j2 := hkS.frozen 2
     simp only [List.getElem?_toArray, List.getElem?_cons_zero, List.getElem?_cons_succ] at s2
     have HS := Lib.hid (And.intro hkS (And.intro hOS hfS))
     clear hkS hOS hfS c2 c3 f3 d3 g3 HI
     go_wp2_with fail
     go_ret
     exact ⟨rfl, log_fin2 (P := P) HS.out.1 (HS.out.2.1.cut hin) HS.out.2.2 HX.out.2.2.1 HX.out.2.2.2.1 HX.out.2.2.2.2.2 hlow (fun x hx => List.mem_of_mem_take hx) (SpOk.none_ (Nat.le_refl _)) HSP.out.2⟩
theorem drop_no (g k c b m : Nat) (A : Option Addr) (z : Value) (w : World) (h : Blk w g 65 #[.bool true, .int .u64 b, .slice A k c, z]) (hb : b ≤ 9000000000000000000) (hk : k ≤ 1000000) (hm : m < b ∨ b + k < m) : Calls Tryz.prog 16 #[.pointer (some ⟨g, 0, none⟩), .int .u64 m] w fun e w' => e = .returned (.int .i64 8) ∧ w = w' := by
 have HI := Lib.hid (index_out g b k c m A z w h hb hk hm)
 clear h hm
 go_enter Tryz.func16, Tryz.ntmps16
 go_wp2_with (go_at_call 35; (with_reducible refine HI.out.mono ?_); rintro e w1 ⟨rfl, rfl⟩)
 go_ret
 exact ⟨rfl, rfl⟩
theorem cut_no (g k c b m : Nat) (A : Option Addr) (z : Value) (w : World) (h : Blk w g 65 #[.bool true, .int .u64 b, .slice A k c, z]) (hb : b ≤ 9000000000000000000) (hk : k ≤ 1000000) (hm : m < b ∨ b + k < m) : Calls Tryz.prog 26 #[.pointer (some ⟨g, 0, none⟩), .int .u64 m] w fun e w' => e = .returned (.int .i64 8) ∧ w = w' := by
 have HI := Lib.hid (index_out g b k c m A z w h hb hk hm)
 clear h hm
 go_enter Tryz.func26, Tryz.ntmps26
 go_wp2_with (go_at_call 35; (with_reducible refine HI.out.mono ?_); rintro e w1 ⟨rfl, rfl⟩)
 go_ret
 exact ⟨rfl, rfl⟩
end Go.Proofs.YtniaijgejljjbaaGreat.Tlv
