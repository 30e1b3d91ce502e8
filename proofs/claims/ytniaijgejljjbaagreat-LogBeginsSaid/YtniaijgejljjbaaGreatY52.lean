/- The chapter's row. -/
import Derived.Test.YtniaijgejljjbaaGreatY49
import Derived.Test.YtniaijgejljjbaaGreatY51
import Derived.Deep.RegionLaw
namespace Go.Proofs.YtniaijgejljjbaaGreat.Tlv
open Go.RowKit
set_option maxRecDepth 100000
set_option linter.unusedVariables false
set_option linter.unusedSimpArgs false
def oA : Opn := ⟨6, [97], [], [], [], [], 0⟩
theorem oA_at (w : World) : OpAt w oA (.slice none 0 0) (.slice none 0 0) (.slice none 0 0) := ⟨YtniaijgejljjbaaGreat.RdV.nil w, RdP.nil w, RdC.nil w⟩
theorem oA_lim : Lim oA := ⟨by decide, by decide, (fun x h => by cases h), by decide, by decide, (fun x h => by cases h), by decide, (fun x h => by cases h)⟩
theorem oA_may : mayO oA = true := by decide +kernel
theorem oA_good (k : Int) (h0 : 0 ≤ k) (hk : k ≤ 10) : (⟨1, k, oA⟩ : Mq).Good := ⟨⟨⟨by show (0 : Int) ≤ 1; decide, by show (1 : Int) < _; decide⟩, ⟨h0, by show k < _; omega⟩, oA_lim, by show oA.cur.length ≤ _; decide⟩, oA_may⟩
abbrev kq (k : Int) : Rq := ⟨1, k, oA, none, 0, 0, none, 0, 0, none, 0, 0⟩
abbrev kqCs (k : Int) : Array Value := #[.int .u64 1, .int .u64 k, .int .i64 6, .string ⟨#[97]⟩, .string ⟨#[]⟩, .slice none 0 0, .slice none 0 0, .slice none 0 0, .int .i64 0]
abbrev kq12 : Array Value := #[.int .u64 1, .int .u64 1, .int .i64 6, .string ⟨#[97]⟩, .string ⟨#[]⟩, .slice none 0 0, .slice none 0 0, .slice none 0 0, .int .i64 0, .int .u64 1, .int .u64 2, .int .i64 6, .string ⟨#[97]⟩, .string ⟨#[]⟩, .slice none 0 0, .slice none 0 0, .slice none 0 0, .int .i64 0]
theorem known1 (k : Int) (w : World) : Calls Tryz.prog 14 #[.int .u64 k] w fun e w' => e = .returned (.agg (kqCs k)) ∧ Below w.heap.size w w' := by
 have HZ := Lib.hid (And.intro ((Below.refl w.heap.size w).alloc (Nat.le_refl _) (.cells zQ 46)) (Blk.new w 46 zQ))
 go_enter Tryz.func14, Tryz.ntmps14
 go_wp2_with (first
   | (refine wpList_buildTo rfl 46 _ rfl (some 5) rfl (kqCs k) (by kernel_rfl) ?_)
   | (refine wpList_store_rowTo rfl 46 _ _ rfl rfl w.heap.size (kqCs k) rfl rfl 46 zQ HZ.out.2 (by kernel_rfl) rfl (by kernel_rfl) ?_))
 have h9 := HZ.out.2.row (kqCs k)
 have h8 := below_setRow HZ.out.1 (Nat.le_refl _) (kqCs k)
 have t0 := h9.cell 0
 have t1 := h9.cell 1
 have t2 := h9.cell 2
 have t3 := h9.cell 3
 have t4 := h9.cell 4
 have t5 := h9.cell 5
 have t6 := h9.cell 6
 have t7 := h9.cell 7
 have t8 := h9.cell 8
 have HF := Lib.hid h8
 clear h8 h9
 generalize (w.alloc (.cells zQ 46)).setRow w.heap.size (kqCs k) = w5 at t0 t1 t2 t3 t4 t5 t6 t7 t8 HF ⊢
 refine bodyPost_ret (v := .agg (kqCs k)) ?_ rfl ⟨rfl, HF.out⟩
 simp at t0 t1 t2 t3 t4 t5 t6 t7 t8
 simp [results, Tryz.f14, go_sem, t0, t1, t2, t3, t4, t5, t6, t7, t8]
theorem kq_cs (k : Int) : rqL (kq k) = (kqCs k).toList := rfl
theorem kq_val (k : Int) : rqVal 1 k oA (.slice none 0 0) (.slice none 0 0) (.slice none 0 0) = .agg (kqCs k) := rfl
theorem two_rd (n0 : Nat) {W : World} {b : Nat} (h : Blk W b 46 kq12) : RdS n0 W (some ⟨b, 0, none⟩) [kq 1, kq 2] := fun _ => ⟨b, 0, rfl, h.lt, .inr ⟨_, h⟩, fun j hj i u hu => by
 have hi : i < 9 := (List.getElem?_eq_some_iff.1 hu).1
 rw [h.cell]
 match j, hj with
 | 0, _ =>
   rw [← hu]
   rcases i with _ | _ | _ | _ | _ | _ | _ | _ | _ | i <;> first | rfl | omega
 | 1, _ =>
   rw [← hu]
   rcases i with _ | _ | _ | _ | _ | _ | _ | _ | _ | i <;> first | rfl | omega⟩
theorem two_sum : sumM (means [kq 1, kq 2]) ≤ 2097152 := by
 have h : ∀ m ∈ means [kq 1, kq 2], m.Good := fun m hm => by
   simp only [means, List.map_cons, List.map_nil, List.mem_cons, List.not_mem_nil, or_false] at hm
   rcases hm with rfl | rfl
   · exact oA_good 1 (by decide) (by decide)
   · exact oA_good 2 (by decide) (by decide)
 have := sumM_few h
 simp [means] at this
 simp [means]
 omega
theorem kMap {x : Rq} {m : Mq} (h : x.m = m) : x.n = m.n := by rw [← h]; rfl
def KnOut (w : World) (e : Ending) (w' : World) : Prop := ∃ g P, e = .returned (.tuple #[.pointer (some ⟨g, 0, none⟩), .int .i64 0]) ∧ means P = means [kq 1, kq 2] ∧ LogP spA w.heap.size w' g 5 P ∧ Below w.heap.size w w'
theorem kn_of (W : World) (w : World) (b c : Nat) (h : Blk W b 46 kq12) (hb : Below w.heap.size w W) : Calls Tryz.prog 6 #[.int .u64 5, .slice (some ⟨b, 0, none⟩) 2 c] W fun e w' => ∃ g P, e = .returned (.tuple #[.pointer (some ⟨g, 0, none⟩), .int .i64 0]) ∧ means P = means [kq 1, kq 2] ∧ LogP spA w.heap.size w' g 5 P ∧ Below W.heap.size W w' := by
 have hg : ∀ m ∈ means [kq 1, kq 2], m.Good := fun m hm => by
   simp only [means, List.map_cons, List.map_nil, List.mem_cons, List.not_mem_nil, or_false] at hm
   rcases hm with rfl | rfl
   · exact oA_good 1 (by decide) (by decide)
   · exact oA_good 2 (by decide) (by decide)
 refine (of_any (sp := spA) w.heap.size 5 2 c [kq 1, kq 2] _ w W rfl hb rfl (two_rd _ h) (fun x hx => ?_) (fun m hm => (hg m hm).ok) (by decide) (by decide) (Nat.zero_le _)).mono fun e w' ho => ?_
 · simp only [List.mem_cons, List.not_mem_nil, or_false] at hx
   rcases hx with rfl | rfl <;> exact oA_at w
 · obtain ⟨hbb, ho⟩ := ho
   rcases ho with ⟨⟨m, hm, hm2⟩, _⟩ | ⟨_, h5, _⟩ | ⟨_, _, h2, _⟩ | ⟨_, _, _, g, P, he, hmP, hl⟩
   · rw [(hg m hm).may] at hm2; cases hm2
   · omega
   · exact absurd h2 (by have := two_sum; omega)
   · exact ⟨g, P, he, hmP, hl, hbb⟩
set_option maxHeartbeats 16000000 in
theorem known_any (w : World) : Calls Tryz.prog 5 #[] w fun e w' => e = .returned (.bool true) ∧ Below w.heap.size w w' := by
 have H1 := Lib.hid (known1 1 w)
 go_enter Tryz.func5, Tryz.ntmps5
 go_upto_region 3 with (first
   | (go_at_call 14; (with_reducible refine (known1 1 _).mono ?_); rintro e w1 ⟨rfl, hb1⟩; dsimp only; have HA1 := Lib.hid hb1; clear hb1 H1)
   | (go_at_call 14; (with_reducible refine (known1 2 _).mono ?_); rintro e w2 ⟨rfl, hb2⟩; dsimp only; have HA2 := Lib.hid (HA1.out.trans (hb2.mono HA1.out.size)); clear hb2; have HOF := Lib.hid (kn_of (w2.alloc (.cells kq12 46)) w w2.heap.size 2 (Blk.new w2 46 _) (HA2.out.alloc HA2.out.size _)))
   | (go_at_call 6; (with_reducible refine HOF.out.mono ?_); clear HOF; rintro e w3 ⟨g, P, rfl, hmP, hlP, hb3⟩; dsimp only; have HA3 := Lib.hid (And.intro hmP (And.intro hlP ((HA2.out.alloc HA2.out.size _).trans (hb3.mono (HA2.out.alloc HA2.out.size _).size)))); clear hmP hlP hb3))
 have hPl : P.length = 2 := by rw [← means_len, HA3.out.1]; rfl
 have HPL := Lib.hid hPl
 clear hPl
 have hsum : sumM (means P) + Mq.sz ⟨1, 3, oA⟩ ≤ 2097152 := by
   have h1 := (oA_good 3 (by decide) (by decide)).few
   have h2 : sumM (means P) ≤ 300000 * 2 := by have := sumM_few HA3.out.2.1.good; rw [means_len, HPL.out] at this; exact this
   omega
 have HS := Lib.hid hsum
 clear hsum
 go_upto_region 4 with (first
   | (go_at_call 14; (with_reducible refine (known1 3 _).mono ?_); rintro e w4 ⟨rfl, hb4⟩; dsimp only; have HA4 := Lib.hid hb4; have HAP : Hid (Calls Tryz.prog 15 #[.pointer (some ⟨g, 0, none⟩), .agg (kqCs 3)] w4 fun e w' => ∃ x : Rq, x.m = ⟨1, 3, oA⟩ ∧ e = .returned (.tuple #[.int .u64 8, .int .i64 0]) ∧ LogP spA w.heap.size w' g 5 (P ++ [x]) ∧ FrT spA w.heap.size (TP g) w4 w') := Lib.hid (append_ok w.heap.size g 5 8 P 1 3 oA _ _ _ w4 (HA3.out.2.1.on hb4 HA3.out.2.2.size) (Nat.le_trans HA3.out.2.2.size hb4.size) (oA_good 3 (by decide) (by decide)) (oA_at w4) (by rw [HPL.out]; decide) (by decide) (by rw [HPL.out]) HS.out); clear hb4)
   | (go_at_call 15; (with_reducible refine HAP.out.mono ?_); clear HAP; rintro e w5 ⟨x, hxm, rfl, hlp, hfr⟩; dsimp only; have HA5 := Lib.hid (And.intro hxm (And.intro hlp hfr)); clear hxm hlp hfr))
 have hl3 : (P ++ [x]).length = 3 := by rw [List.length_append, HPL.out]; rfl
 have hn5 : w.heap.size ≤ w5.heap.size := Nat.le_trans HA3.out.2.2.size (Nat.le_trans HA4.out.size HA5.out.2.2.bel.size)
 have HD : Hid (Calls Tryz.prog 16 #[.pointer (some ⟨g, 0, none⟩), .int .u64 6] w5 fun e w' => e = .returned (.int .i64 0) ∧ LogP spA w.heap.size w' g 6 ((P ++ [x]).drop 1) ∧ FrT spA w.heap.size (TP g) w5 w') := Lib.hid (drop_ok w.heap.size g 5 1 6 (P ++ [x]) w5 HA5.out.2.1 hn5 (by rw [hl3]; decide) (by decide) rfl (by rw [hl3]; decide))
 have HN5 := Lib.hid (And.intro hl3 hn5)
 clear hl3 hn5
 go_upto_region 5 with (go_at_call 16; (with_reducible refine HD.out.mono ?_); clear HD; rintro e w6 ⟨rfl, hlp, hfr⟩; dsimp only; have HA6 := Lib.hid (And.intro hlp hfr); clear hlp hfr)
 have hl2 : 0 < ((P ++ [x]).drop 1).length := by rw [List.length_drop, HN5.out.1]; decide
 have hmn : ((((P ++ [x]).drop 1)).getD 0 default).m = (⟨1, 2, oA⟩ : Mq) := by
   have h1 : (means ((P ++ [x]).drop 1))[0]? = some (⟨1, 2, oA⟩ : Mq) := by
     rw [means_drop, means_app, HA3.out.1]
     rfl
   unfold means at h1
   rw [List.getElem?_map, List.getElem?_eq_getElem hl2] at h1
   rw [List.getD_eq_getElem?_getD, List.getElem?_eq_getElem hl2]
   exact Option.some.inj h1
 have HT : Hid (Calls Tryz.prog 17 #[.pointer (some ⟨g, 0, none⟩), .int .u64 7] w6 (AtOut ⟨1, 2, oA⟩ w6)) := Lib.hid (by
   have h := at_ok w.heap.size g 6 0 7 ((P ++ [x]).drop 1) w6 HA6.out.1 (Nat.le_trans HN5.out.2 HA6.out.2.bel.size) (by rw [List.length_drop, HN5.out.1]; decide) (by decide) rfl hl2
   rw [hmn] at h
   exact h)
 clear hmn hl2
 have HBE := Lib.hid (((HA3.out.2.2.trans (HA4.out.mono HA3.out.2.2.size)).trans HA5.out.2.2.bel).trans HA6.out.2.bel)
 go_upto_region 6 with (first
   | (go_at_call 17; (with_reducible refine HT.out.mono ?_); clear HT; rintro e w7 ⟨⟨xc, xn, xo, xA, xla, xca, xP, xlp, xcp, xC, xlc, xcc⟩, hxm, rfl, _, hb7⟩; dsimp only; have HA7 := Lib.hid (And.intro hxm (HBE.out.trans (hb7.mono HBE.out.size))); clear hxm hb7)
   | (refine wpList_store_rowTo rfl 46 _ _ rfl rfl w7.heap.size (rqCs xc xn xo (.slice xA xla xca) (.slice xP xlp xcp) (.slice xC xlc xcc)) rfl rfl 46 zQ (Blk.new w7 46 zQ) (by kernel_rfl) rfl (by kernel_rfl) ?_))
 have h9 := (Blk.new w7 46 zQ).row (rqCs xc xn xo (.slice xA xla xca) (.slice xP xlp xcp) (.slice xC xlc xcc))
 have h8 := below_setRow (HA7.out.2.alloc HA7.out.2.size (.cells zQ 46)) HA7.out.2.size (rqCs xc xn xo (.slice xA xla xca) (.slice xP xlp xcp) (.slice xC xlc xcc))
 obtain rfl : xn = 2 := by have h := kMap HA7.out.1; exact h
 have a1 := h9.cell 1
 simp only [List.getElem?_toArray, List.getElem?_cons_zero, List.getElem?_cons_succ] at a1
 have H9 := Lib.hid h8
 clear h8 h9
 generalize (w7.alloc (.cells zQ 46)).setRow w7.heap.size (rqCs xc 2 xo (.slice xA xla xca) (.slice xP xlp xcp) (.slice xC xlc xcc)) = w8 at a1 H9 ⊢
 go_wp2
 go_ret
 exact ⟨rfl, H9.out⟩
theorem rqs_rds {w : World} {A : Option Addr} {L : List Rq} (h : RdK kRq w w.heap.size A L) : RdS w.heap.size w A L := fun hp => by
 obtain ⟨b, off, e, h1, h2⟩ := h hp
 exact ⟨b, off, e, h1, .inl h1, h2⟩
theorem mem_at {L : List Rq} {x : Rq} (h : x ∈ L) : ∃ i, i < L.length ∧ x = L.getD i default := by
 obtain ⟨i, hi, rfl⟩ := List.mem_iff_getElem.1 h
 exact ⟨i, hi, by rw [List.getD_eq_getElem?_getD, List.getElem?_eq_getElem hi]; rfl⟩
def Small (L : List Ac) (Q : List Rq) : Prop := (∀ i, i < L.length → SmO (L.getD i default).x.o) ∧ (∀ i, i < Q.length → SmO (Q.getD i default).o) ∧ L.length ≤ 20 ∧ Q.length ≤ 20
theorem oks {w : World} {L : List Ac} {Q : List Rq} (h : Small L Q) (hi : ∀ i, i < Q.length → RqIn w (Q.getD i default)) : ∀ m ∈ means Q, m.Ok := fun m hm => by
 obtain ⟨x, hx, rfl⟩ := List.mem_map.1 hm
 obtain ⟨i, hl, rfl⟩ := mem_at hx
 exact (hi i hl).ok (h.2.1 i hl)
theorem of_law {w w1 : World} {B cD : Nat} {D : Option Addr} {L : List Ac} {Q : List Rq} (h : Small L Q) (hr : RdK kRq w w.heap.size D Q) (hi : ∀ i, i < Q.length → RqIn w (Q.getD i default)) (hb : Below w.heap.size w w1) (hB : B < 18446744073709551616) :
   Calls Tryz.prog 6 #[.int .u64 B, .slice D Q.length cD] w1 (OfOut spA w.heap.size B (means Q) w1) :=
 of_any w.heap.size B Q.length cD Q D w w1 rfl hb rfl ((rqs_rds hr).frT (sp := spA) (T := TN) (FrT.of hb (Nat.le_refl _)) (fun _ => id)) (fun x hx => by
   obtain ⟨i, hl, rfl⟩ := mem_at hx
   exact (hi i hl).at') (oks h hi) (by have := h.2.2.2; omega) hB (Nat.zero_le _)
theorem rof_law {w w1 : World} {B c : Nat} {D : Option Addr} {L : List Ac} {Q : List Rq} (h : Small L Q) (hc : (D = none → c = 0) ∧ Q.length ≤ c ∧ c ≤ maxLen) (hsp : ∀ a, D = some a → a.spot = none) (hr : RdK kRq w w.heap.size D Q) (hi : ∀ i, i < Q.length → RqIn w (Q.getD i default)) (hb : Below w.heap.size w w1) (hB : B < 18446744073709551616) :
   Calls Tryz.prog 7 #[.int .u64 B, .slice D Q.length c] w1 (ROfOut w.heap.size B Q w w1) :=
 rof_any w.heap.size B Q.length c Q D w w1 rfl hb rfl hc hsp ((rqs_rds hr).frT (sp := spA) (T := TN) (FrT.of hb (Nat.le_refl _)) (fun _ => id)) (fun x hx => by
   obtain ⟨i, hl, rfl⟩ := mem_at hx
   exact (hi i hl).at') (oks h hi) (by have := h.2.2.2; omega) hB
theorem AcsAt.on {w w' : World} {v : Value} {L : List Ac} (h : AcsAt w v L) (hb : Below w.heap.size w w') : AcsAt w' v L := by
 obtain ⟨A, c, e, h1, h2, h3⟩ := h
 exact ⟨A, c, e, h1, h2.on hb, fun i hi => ⟨(h3 i hi).N, (h3 i hi).x.on hb⟩⟩
theorem rqs_none (w : World) : RqsAt w (.slice none 0 0) [] := ⟨none, 0, rfl, ⟨fun _ => rfl, Nat.le_refl _, Nat.zero_le _⟩, (fun h => by simp at h), fun i hi => by simp at hi⟩
theorem not_good {Q : List Rq} (h1 : ∃ m ∈ means Q, mayO m.o = false) (h2 : ∀ m ∈ means Q, m.Good) : False := by
 obtain ⟨m, hm, e⟩ := h1
 rw [(h2 m hm).may] at e
 cases e
set_option maxHeartbeats 32000000 in
theorem law_err2 (B : Nat) (v vb : Value) (D : Option Addr) (cD : Nat) (Q : List Rq) (L Lb : List Ac) (w : World) (hQ : RqsAt w (.slice D Q.length cD) Q) (hL : AcsAt w v L) (hLb : AcsAt w vb Lb) (u : Value) (hu : u = .slice D Q.length cD)
   (h8 : Small L Q → ∀ w1, Below w.heap.size w w1 → Calls Tryz.prog 6 #[.int .u64 B, .slice D Q.length cD] w1 fun e w' => e = .returned (.tuple #[.pointer none, .int .i64 2]) ∧ Below w1.heap.size w1 w')
   (h9 : Small L Q → ∀ w1, Below w.heap.size w w1 → Calls Tryz.prog 7 #[.int .u64 B, .slice D Q.length cD] w1 fun e w' => e = .returned (.tuple #[.pointer none, .int .i64 2]) ∧ Below w1.heap.size w1 w') :
   Calls Tryz.prog 3 #[.int .u64 B, u, v, vb] w fun e w' => e = .returned (.bool true) ∧ Below w.heap.size w w' := by
 subst hu
 have HF : Hid (Calls Tryz.prog 4 #[v, .slice D Q.length cD, .int .i64 20] w (FewOut L Q 20 w)) := Lib.hid (few_any L Q v _ 20 w hL hQ (by decide))
 have HFb : Hid (∀ w1, Below w.heap.size w w1 → Calls Tryz.prog 4 #[vb, .slice none 0 0, .int .i64 20] w1 (FewOut Lb [] 20 w1)) := Lib.hid (fun w1 hb => few_any Lb [] vb _ 20 w1 (hLb.on hb) (rqs_none _) (by decide))
 obtain ⟨A, cA, rfl, _⟩ := hL
 obtain ⟨Ab, cAb, rfl, _⟩ := hLb
 have H8 := Lib.hid h8
 have H9 := Lib.hid h9
 clear h8 h9 hQ
 go_enter Tryz.func3, Tryz.ntmps3
 go_wp2_with (first
   | (go_at_call 4; (with_reducible refine HF.out.mono ?_); clear HF; rintro e w1 ⟨bb, rfl, hsm, hb1⟩; dsimp only; have H1 := Lib.hid (And.intro (show bb = true → Small L Q from hsm) hb1); clear hsm hb1; cases bb)
   | (go_at_call 4; (with_reducible refine (HFb.out _ H1.out.2).mono ?_); clear HFb; rintro e w2 ⟨bc, rfl, _, hb2⟩; dsimp only; have H2 := Lib.hid (And.intro True.intro (H1.out.2.trans (hb2.mono H1.out.2.size))); clear hb2; cases bc)
   | (go_at_call 5; (with_reducible refine (known_any _).mono ?_); rintro e w9 ⟨rfl, hb9⟩; dsimp only; have HEND : Hid (Below w.heap.size w w9) := Lib.hid (by first | exact HZ.out.trans (hb9.mono HZ.out.size) | exact H2.out.2.trans (hb9.mono H2.out.2.size) | exact H1.out.2.trans (hb9.mono H1.out.2.size)); clear hb9)
   | (go_at_call 6; (with_reducible refine (H8.out (H1.out.1 (by simp)) _ H2.out.2).mono ?_); rintro e w3 ⟨rfl, hb3⟩; dsimp only; have H3 := Lib.hid (H2.out.2.trans (hb3.mono H2.out.2.size)); clear hb3)
   | (go_at_call 7; (with_reducible refine (H9.out (H1.out.1 (by simp)) _ H3.out).mono ?_); rintro e w4 ⟨rfl, hb4⟩; dsimp only; have HZ := Lib.hid (H3.out.trans (hb4.mono H3.out.size)); clear hb4))
 all_goals
   go_ret
   exact ⟨rfl, HEND.out⟩
set_option maxHeartbeats 32000000 in
theorem law_err10 (B : Nat) (v vb : Value) (D : Option Addr) (cD : Nat) (Q : List Rq) (L Lb : List Ac) (w : World) (hQ : RqsAt w (.slice D Q.length cD) Q) (hL : AcsAt w v L) (hLb : AcsAt w vb Lb) (u : Value) (hu : u = .slice D Q.length cD)
   (h8 : Small L Q → ∀ w1, Below w.heap.size w w1 → Calls Tryz.prog 6 #[.int .u64 B, .slice D Q.length cD] w1 fun e w' => e = .returned (.tuple #[.pointer none, .int .i64 10]) ∧ Below w1.heap.size w1 w')
   (h9 : Small L Q → ∀ w1, Below w.heap.size w w1 → Calls Tryz.prog 7 #[.int .u64 B, .slice D Q.length cD] w1 fun e w' => e = .returned (.tuple #[.pointer none, .int .i64 10]) ∧ Below w1.heap.size w1 w') :
   Calls Tryz.prog 3 #[.int .u64 B, u, v, vb] w fun e w' => e = .returned (.bool true) ∧ Below w.heap.size w w' := by
 subst hu
 have HF : Hid (Calls Tryz.prog 4 #[v, .slice D Q.length cD, .int .i64 20] w (FewOut L Q 20 w)) := Lib.hid (few_any L Q v _ 20 w hL hQ (by decide))
 have HFb : Hid (∀ w1, Below w.heap.size w w1 → Calls Tryz.prog 4 #[vb, .slice none 0 0, .int .i64 20] w1 (FewOut Lb [] 20 w1)) := Lib.hid (fun w1 hb => few_any Lb [] vb _ 20 w1 (hLb.on hb) (rqs_none _) (by decide))
 obtain ⟨A, cA, rfl, _⟩ := hL
 obtain ⟨Ab, cAb, rfl, _⟩ := hLb
 have H8 := Lib.hid h8
 have H9 := Lib.hid h9
 clear h8 h9 hQ
 go_enter Tryz.func3, Tryz.ntmps3
 go_wp2_with (first
   | (go_at_call 4; (with_reducible refine HF.out.mono ?_); clear HF; rintro e w1 ⟨bb, rfl, hsm, hb1⟩; dsimp only; have H1 := Lib.hid (And.intro (show bb = true → Small L Q from hsm) hb1); clear hsm hb1; cases bb)
   | (go_at_call 4; (with_reducible refine (HFb.out _ H1.out.2).mono ?_); clear HFb; rintro e w2 ⟨bc, rfl, _, hb2⟩; dsimp only; have H2 := Lib.hid (And.intro True.intro (H1.out.2.trans (hb2.mono H1.out.2.size))); clear hb2; cases bc)
   | (go_at_call 5; (with_reducible refine (known_any _).mono ?_); rintro e w9 ⟨rfl, hb9⟩; dsimp only; have HEND : Hid (Below w.heap.size w w9) := Lib.hid (by first | exact HZ.out.trans (hb9.mono HZ.out.size) | exact H2.out.2.trans (hb9.mono H2.out.2.size) | exact H1.out.2.trans (hb9.mono H1.out.2.size)); clear hb9)
   | (go_at_call 6; (with_reducible refine (H8.out (H1.out.1 (by simp)) _ H2.out.2).mono ?_); rintro e w3 ⟨rfl, hb3⟩; dsimp only; have H3 := Lib.hid (H2.out.2.trans (hb3.mono H2.out.2.size)); clear hb3)
   | (go_at_call 7; (with_reducible refine (H9.out (H1.out.1 (by simp)) _ H3.out).mono ?_); rintro e w4 ⟨rfl, hb4⟩; dsimp only; have HZ := Lib.hid (H3.out.trans (hb4.mono H3.out.size)); clear hb4))
 all_goals
   go_ret
   exact ⟨rfl, HEND.out⟩
theorem BegP.self (B : Nat) (P : List Rq) : BegP B P B P := ⟨Nat.le_refl _, fun _ _ _ _ => rfl⟩
theorem beg_self {sp sp' : Spc} (n0 g g' B : Nat) (P : List Rq) (w : World) (h : LogP sp n0 w g B P) (h' : LogP sp' n0 w g' B P) (hn0 : n0 ≤ w.heap.size) (hl : P.length ≤ 900) (hB : B ≤ 9000000000000000000) :
   Calls Tryz.prog 9 #[.pointer (some ⟨g, 0, none⟩), .pointer (some ⟨g', 0, none⟩)] w fun e w' => e = .returned (.bool true) ∧ Below w.heap.size w w' :=
 (begins_any n0 g g' B B P P w h h' hn0 hl hl hB hB).mono fun e w' ⟨b, he, hb, hbel⟩ => (⟨by rw [he, hb.2 (BegP.self B P)], hbel⟩ : e = .returned (.bool true) ∧ Below w.heap.size w w')
theorem LogP.stay {sp sp' : Spc} {n0 g B : Nat} {T : Nat → TypeId → Prop} {w w' : World} {P : List Rq} (h : LogP sp n0 w g B P) (hf : FrT sp' n0 T w w') (h1 : ∀ b, ¬ T b 99) (h2 : ∀ b, ¬ T b 9) (h3 : ∀ b, ¬ T b 5) (hg : ¬ T g 65) (ha : ∀ A n c z, Blk w g 65 #[.bool true, .int .u64 B, .slice A n c, z] → ∀ b off, A = some ⟨b, off, none⟩ → ∀ j, off ≤ j → j < off + n * 10 → ¬ sp'.ok b j) : LogP sp n0 w' g B P := by
 obtain ⟨⟨A, n, c, hk, ho, hs⟩, h6, h7, h8, h9⟩ := h
 have hA := ha A n c _ hk
 refine ⟨⟨A, n, c, hf.typ _ _ _ hg hk, ⟨ho.len, ho.le, ho.cap, ho.nil0, fun a e => ?_, fun hp => ?_⟩, hs⟩, fun x hx => (h6 x hx).frT hf h1 h2 h3, h7, h8, Nat.le_trans h9 hf.bel.size⟩
 · obtain ⟨b, off, cur, e1, h1, h2, h3⟩ := ho.blk a e
   obtain ⟨cur', k1, e2, _⟩ := hf.arr b cur h2
   exact ⟨b, off, cur', e1, h1, k1, by rw [← e2]; exact h3⟩
 · obtain ⟨b, off, e, hlt, hc⟩ := ho.rd hp
   obtain ⟨b2, off2, cur, e1, h1, h2, h3⟩ := ho.blk _ e
   cases e1
   obtain ⟨cur', k1, e2, e3⟩ := hf.arr b cur h2
   refine ⟨b, off, e, Nat.lt_of_lt_of_le hlt hf.bel.size, fun j hj i u hu => ?_⟩
   have hi : i < 10 := by
     have := (List.getElem?_eq_some_iff.1 hu).1
     rwa [kIt.len] at this
   have h10 : kIt.size = 10 := rfl
   have hln := ho.len
   rw [k1.cell, e3 _ (hA b off e _ (by omega) (by rw [h10]; omega)), ← h2.cell]
   exact hc j hj i u hu
theorem LogP.at_sp {sp sp2 : Spc} {n0 g B : Nat} {w : World} {P : List Rq} (h : LogP sp n0 w g B P) (hs : ∀ A n c z, Blk w g 65 #[.bool true, .int .u64 B, .slice A n c, z] → SpOk sp2 A n c) (hN : sp2.N ≤ w.heap.size) : LogP sp2 n0 w g B P := by
 obtain ⟨⟨A, n, c, hk, ho, _⟩, h6, h7, h8, h9⟩ := h
 exact ⟨⟨A, n, c, hk, ho, hs A n c _ hk⟩, h6, h7, h8, hN⟩
theorem LogP.arr_lt {sp : Spc} {n0 g B : Nat} {w : World} {P : List Rq} (h : LogP sp n0 w g B P) {A : Option Addr} {n c : Nat} {z : Value} (hk : Blk w g 65 #[.bool true, .int .u64 B, .slice A n c, z]) {b off : Nat} (e : A = some ⟨b, off, none⟩) : b < w.heap.size := by
 obtain ⟨⟨A', n', c', hk', ho, _⟩, _⟩ := h
 have h1 := blk_eq hk hk'
 injection h1 with h1
 injection h1 with _ h1
 injection h1 with _ h1
 injection h1 with h1 _
 injection h1 with h1 _ _
 subst h1
 obtain ⟨b2, off2, cur, e1, _, h2, _⟩ := ho.blk _ e
 cases e1
 exact h2.lt
end Go.Proofs.YtniaijgejljjbaaGreat.Tlv
