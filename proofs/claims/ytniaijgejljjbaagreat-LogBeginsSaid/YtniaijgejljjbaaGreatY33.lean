/- A copy of an operation, of a request: what it holds is its own. -/
import Derived.Test.YtniaijgejljjbaaGreatY32
import Derived.Deep.RegionLaw
namespace Go.Proofs.YtniaijgejljjbaaGreat.Tlv
open Go.RowKit
set_option maxRecDepth 100000
set_option linter.unusedVariables false
set_option linter.unusedSimpArgs false
structure OpOwn (w : World) (base : Nat) (o : Opn) (va vp vc : Value) : Prop where
 a : YtniaijgejljjbaaGreat.RowK kA w base va o.attrs
 p : RowK kStr w base vp o.parts
 c : RowK kB w base vc o.cur
theorem OpOwn.at {w : World} {base : Nat} {o : Opn} {va vp vc : Value} (h : OpOwn w base o va vp vc) : OpAt w o va vp vc := ⟨YtniaijgejljjbaaGreat.RowK.rdv h.a, h.p.rdp, h.c.rdc2⟩
theorem OpOwn.keep {w w' : World} {base : Nat} {o : Opn} {va vp vc : Value} (h : OpOwn w base o va vp vc) (hb : ∀ k, base ≤ k → k < w.heap.size → w'.heap[k]? = w.heap[k]?) : OpOwn w' base o va vp vc :=
 ⟨RowK.fit h.a fun k e => hb k (own_at h.a e).1 (own_at h.a e).2.1, RowK.fitT h.p fun k e => hb k (own_atT h.p e).1 (own_atT h.p e).2.1, RowK.fitT h.c fun k e => hb k (own_atT h.c e).1 (own_atT h.c e).2.1⟩
theorem OpOwn.low {w : World} {base base' : Nat} {o : Opn} {va vp vc : Value} (h : OpOwn w base o va vp vc) (hb : base' ≤ base) : OpOwn w base' o va vp vc := ⟨YtniaijgejljjbaaGreat.RowK.low h.a hb, RowK.lowR h.p hb, RowK.lowR h.c hb⟩
theorem rowA_on {w w' : World} {base : Nat} {v : Value} {l : List At} (h : YtniaijgejljjbaaGreat.RowK kA w base v l) (hb : Below w.heap.size w w') : YtniaijgejljjbaaGreat.RowK kA w' base v l := RowK.fit h fun k e => hb.block k (own_at h e).2.1
theorem empty_rowS (w : World) : RowK kStr (w.alloc (.cells #[] 9)) w.heap.size (.slice (some ⟨w.heap.size, 0, none⟩) 0 0) [] := by
 refine ⟨rfl, .inr ⟨w.heap.size, 0, #[], rfl, Nat.le_refl _, (show (w.heap.push (.cells #[] 9))[w.heap.size]? = _ from Array.getElem?_push_size), Nat.le_refl _, Nat.zero_le _, rfl, rfl⟩⟩
set_option maxHeartbeats 4000000 in
theorem clone_parts (v : Value) (l : List (List UInt8)) (w : World) (hv : RdP w v l) (hl : l.length ≤ 1000000) :
   Calls Tryz.prog 60 #[v] w fun e w' => ∃ v', e = .returned v' ∧ RowK kStr w' w.heap.size v' l ∧ Below w.heap.size w w' := by
 obtain ⟨A, c, rfl, ⟨h0, _, _⟩, hr⟩ := hv
 have q22 : ∀ (w : World) (a : Option Addr) (n c n' c' : Nat), (binOp .eql 41 (.slice a n c) (.slice none n' c')).run Tryz.prog w = .ok (.bool a.isNone) w := fun w a n c n' c' => Go.Lib.run_eql_slice_nil w 41 9 a n c n' c' Tryz.underlying41
 cases A with
 | none =>
   have hl0 := rd_none hr
   have hc0 := h0 rfl
   subst hl0 hc0
   clear hr h0
   go_enter Tryz.func60, Tryz.ntmps60
   go_wp2
   go_ret
   exact ⟨_, rfl, nil_row kStr _ _, Below.refl _ _⟩
 | some ad =>
   have HR := Lib.hid hr
   have HN := Lib.hid (empty_rowS w)
   have HL := Lib.hid hl
   clear hr h0 hl
   have hrd := HR.out.below ((Below.refl w.heap.size w).alloc (Nat.le_refl _) (.cells #[] 9))
   have hln : ([] : List (List UInt8)).length + l.length ≤ 1000000000 := by have := HL.out; simp; omega
   have hbs : w.heap.size ≤ (w.alloc (.cells #[] 9)).heap.size := by simp
   have HX := Lib.hid (And.intro hrd (And.intro hln hbs))
   clear hrd hln hbs
   go_enter Tryz.func60, Tryz.ntmps60
   go_wp2_with (at_builtin; refine wpList_appK kStr rfl _ _ rfl l rfl HN.out rfl HX.out.1 (fun h => by cases h) HX.out.2.1 HX.out.2.2 ?_; intro v' w' hrow hgrow)
   go_ret
   exact ⟨v', rfl, hrow, ((Below.refl _ _).alloc (Nat.le_refl _) _).trans ((row_below HN.out hgrow (by simp)).mono (Nat.le_refl _))⟩
set_option maxHeartbeats 16000000 in
theorem copyOp_any (o : Opn) (va vp vc : Value) (w : World) (ho : OpAt w o va vp vc) (hl : Lim o) (hlc : o.cur.length ≤ 1000000000) :
   Calls Tryz.prog 43 #[opVal o va vp vc] w fun e w' => ∃ Aa na ca Ap np cp Ac nc cc, e = .returned (opVal o (.slice Aa na ca) (.slice Ap np cp) (.slice Ac nc cc)) ∧ OpOwn w' w.heap.size o (.slice Aa na ca) (.slice Ap np cp) (.slice Ac nc cc) ∧ Below w.heap.size w w' := by
 have HOR := Lib.hid (And.intro ho hl)
 have HLC := Lib.hid (show o.cur.length ≤ 70368744177664 by omega)
 obtain ⟨Aa, ca, na, rfl, _, _⟩ := rdv_len ho.a
 obtain ⟨Ap, cp, np, rfl⟩ := ho.p.len
 obtain ⟨Ac, cc, nc, rfl, hnc, _⟩ := ho.c.full
 clear ho hl hlc
 have hb1 := (Below.refl w.heap.size w).alloc (Nat.le_refl _) (.cells (opCs o (.slice Aa na ca) (.slice Ap np cp) (.slice Ac nc cc)) 44)
 have hb2 := hb1.alloc hb1.size (.cells zCs 44)
 have k0 := (Blk.new w 44 (opCs o (.slice Aa na ca) (.slice Ap np cp) (.slice Ac nc cc))).alloc (.cells zCs 44)
 have k1 := Blk.new (w.alloc (.cells (opCs o (.slice Aa na ca) (.slice Ap np cp) (.slice Ac nc cc)) 44)) 44 zCs
 rw [World.size_alloc] at k1
 have hsz : ((w.alloc (.cells (opCs o (.slice Aa na ca) (.slice Ap np cp) (.slice Ac nc cc)) 44)).alloc (.cells zCs 44)).heap.size = w.heap.size + 1 + 1 := by simp
 obtain ⟨B1, hB1⟩ : ∃ b, b = w.heap.size := ⟨_, rfl⟩
 have H0 := Lib.hid (And.intro hb2 (And.intro (hB1 ▸ k0) (And.intro (hB1 ▸ k1) (hB1 ▸ hsz))))
 clear hb1 hb2 k0 k1 hsz
 go_enter Tryz.func43, Tryz.ntmps43
 go_upto_region 1 with fail
 rw [← hB1]
 generalize (w.alloc (.cells (opCs o (.slice Aa na ca) (.slice Ap np cp) (.slice Ac nc cc)) 44)).alloc (.cells #[.int .i64 0, .string ⟨#[]⟩, .string ⟨#[]⟩, .slice none 0 0, .slice none 0 0, .slice none 0 0, .int .i64 0] 44) = W0 at H0 ⊢
 have HBB := Lib.hid hB1
 clear hB1
 have HC1 : Hid (∀ W, Below W0.heap.size W0 W → Calls Tryz.prog 59 #[.slice Aa na ca] W fun e w' => ∃ A' n' c', e = .returned (.slice A' n' c') ∧ YtniaijgejljjbaaGreat.RowK kA w' W0.heap.size (.slice A' n' c') o.attrs ∧ Below W0.heap.size W0 w') := Lib.hid fun W hb =>
   (YtniaijgejljjbaaGreat.clone_any _ o.attrs W ((HOR.out.1.on H0.out.1).on hb).a HOR.out.2.la).mono fun e w' ⟨v', h1, h2, h3⟩ => by
     obtain ⟨A1, c1, n1, rfl, _, _⟩ := rdv_len (YtniaijgejljjbaaGreat.RowK.rdv h2)
     exact ⟨A1, n1, c1, h1, YtniaijgejljjbaaGreat.RowK.low h2 hb.size, hb.trans (h3.mono hb.size)⟩
 have HC2 : Hid (∀ W, Below W0.heap.size W0 W → Calls Tryz.prog 60 #[.slice Ap np cp] W fun e w' => ∃ A' n' c', e = .returned (.slice A' n' c') ∧ RowK kStr w' W0.heap.size (.slice A' n' c') o.parts ∧ Below W.heap.size W w') := Lib.hid fun W hb =>
   (clone_parts _ o.parts W ((HOR.out.1.on H0.out.1).on hb).p HOR.out.2.lp).mono fun e w' ⟨v', h1, h2, h3⟩ => by
     obtain ⟨A1, c1, n1, rfl⟩ := h2.rdp.len
     exact ⟨A1, n1, c1, h1, RowK.lowR h2 hb.size, h3⟩
 have HC3 : Hid (∀ W, Below W0.heap.size W0 W → Calls Tryz.prog 61 #[.slice Ac nc cc] W fun e w' => ∃ A' n' c', e = .returned (.slice A' n' c') ∧ RowK kB w' W0.heap.size (.slice A' n' c') o.cur ∧ Below W.heap.size W w') := Lib.hid fun W hb => by
   obtain ⟨A, c, e, _, hr⟩ := ((HOR.out.1.on H0.out.1).on hb).c
   injection e with e1 e2 e3
   subst e1 e2 e3
   exact (clone_any _ _ o.cur W hr HLC.out).mono fun e w' ⟨v', h1, h2, h3⟩ => by
     have h4 := row_k.2 h2
     obtain ⟨A1, c1, n1, _, rfl, _, _⟩ := h4.rdn
     exact ⟨A1, n1, c1, h1, RowK.lowR h4 hb.size, h3⟩
 have HS : Hid (∀ W', Below W0.heap.size W0 W' → (W'.cell? ⟨B1, 3, none⟩ = some (.slice Aa na ca) ∧ W'.cell? ⟨B1, 4, none⟩ = some (.slice Ap np cp) ∧ W'.cell? ⟨B1, 5, none⟩ = some (.slice Ac nc cc)) ∧ (W'.frozen? ⟨B1, 3, none⟩ = false ∧ W'.frozen? ⟨B1, 4, none⟩ = false ∧ W'.frozen? ⟨B1, 5, none⟩ = false)) :=
   Lib.hid fun W' h => ⟨⟨(H0.out.2.1.on h).cell 3, (H0.out.2.1.on h).cell 4, (H0.out.2.1.on h).cell 5⟩, (H0.out.2.1.on h).frozen 3, (H0.out.2.1.on h).frozen 4, (H0.out.2.1.on h).frozen 5⟩
 have hwd : Below W0.heap.size W0 W0.drew := YtniaijgejljjbaaGreat.below_drew (Below.refl _ _)
 obtain ⟨⟨x3, x4, x5⟩, f3, f4, f5⟩ := HS.out _ hwd
 have HC1' := Lib.hid (HC1.out _ hwd)
 clear hwd HC1
 go_region_law (first
   | (go_simp; (with_reducible refine HC1'.out.mono ?_); clear HC1' x3 x4 x5 f3 f4 f5; rintro e w1 ⟨A1, n1, c1, rfl, hr1, hb1⟩; dsimp only; obtain ⟨⟨x3, x4, x5⟩, f3, f4, f5⟩ := HS.out _ hb1; have HC2' := Lib.hid (HC2.out _ hb1); have H1 := Lib.hid (And.intro hr1 hb1); clear hr1 hb1 HC2)
   | (go_simp; (with_reducible refine HC2'.out.mono ?_); clear HC2' x3 x4 x5 f3 f4 f5; rintro e w2 ⟨A2, n2, c2, rfl, hr2, hb2⟩; dsimp only; have hb02 := H1.out.2.trans (hb2.mono H1.out.2.size); obtain ⟨⟨x3, x4, x5⟩, f3, f4, f5⟩ := HS.out _ hb02; have HC3' := Lib.hid (HC3.out _ hb02); have H2 := Lib.hid (And.intro (rowA_on H1.out.1 hb2) (And.intro hr2 hb02)); clear hr2 hb2 hb02 HC3)
   | (go_simp; (with_reducible refine HC3'.out.mono ?_); clear HC3' x3 x4 x5 f3 f4 f5; rintro e w3 ⟨A3, n3, c3, rfl, hr3, hb3⟩; dsimp only; have hb03 := H2.out.2.2.trans (hb3.mono H2.out.2.2.size); obtain ⟨⟨x3, x4, x5⟩, f3, f4, f5⟩ := HS.out _ hb03; have H3 := Lib.hid (And.intro (show OpOwn w3 W0.heap.size o (.slice A1 n1 c1) (.slice A2 n2 c2) (.slice A3 n3 c3) from ⟨rowA_on H2.out.1 hb3, RowK.onT H2.out.2.1 hb3, hr3⟩) hb03); clear hr3 hb3 hb03))
 all_goals
   have hlt : B1 < W0.heap.size := by have := H0.out.2.2.2; omega
   have hk := (((H0.out.2.1.on H3.out.2).set_ 3 (.slice A1 n1 c1)).set_ 4 (.slice A2 n2 c2)).set_ 5 (.slice A3 n3 c3)
   have hk2 : Blk (((w3.setCell ⟨B1, 3, none⟩ (.slice A1 n1 c1)).setCell ⟨B1, 4, none⟩ (.slice A2 n2 c2)).setCell ⟨B1, 5, none⟩ (.slice A3 n3 c3)) (B1 + 1) 44 zCs := (((H0.out.2.2.1.on H3.out.2).far (p := ⟨B1, 3, none⟩) (show B1 + 1 ≠ B1 by omega) _).far (p := ⟨B1, 4, none⟩) (show B1 + 1 ≠ B1 by omega) _).far (p := ⟨B1, 5, none⟩) (show B1 + 1 ≠ B1 by omega) _
   have hbe := (((H0.out.1.trans (H3.out.2.mono H0.out.1.size)).setCell (p := ⟨B1, 3, none⟩) (show w.heap.size ≤ B1 by have := HBB.out; omega) (.slice A1 n1 c1)).setCell (p := ⟨B1, 4, none⟩) (show w.heap.size ≤ B1 by have := HBB.out; omega) (.slice A2 n2 c2)).setCell (p := ⟨B1, 5, none⟩) (show w.heap.size ≤ B1 by have := HBB.out; omega) (.slice A3 n3 c3)
   have hown : OpOwn (((w3.setCell ⟨B1, 3, none⟩ (.slice A1 n1 c1)).setCell ⟨B1, 4, none⟩ (.slice A2 n2 c2)).setCell ⟨B1, 5, none⟩ (.slice A3 n3 c3)) W0.heap.size o (.slice A1 n1 c1) (.slice A2 n2 c2) (.slice A3 n3 c3) := H3.out.1.keep fun k h1 h2 => by
     have hne : k ≠ B1 := by omega
     exact ((Below.heap_setCell _ ⟨B1, 5, none⟩ _ k hne).trans (Below.heap_setCell _ ⟨B1, 4, none⟩ _ k hne)).trans (Below.heap_setCell _ ⟨B1, 3, none⟩ _ k hne)
   have hzz : W0.heap.size ≤ (((w3.setCell ⟨B1, 3, none⟩ (.slice A1 n1 c1)).setCell ⟨B1, 4, none⟩ (.slice A2 n2 c2)).setCell ⟨B1, 5, none⟩ (.slice A3 n3 c3)).heap.size := by rw [World.size_setCell, World.size_setCell, World.size_setCell]; exact H3.out.2.size
   have hk : Blk (((w3.setCell ⟨B1, 3, none⟩ (.slice A1 n1 c1)).setCell ⟨B1, 4, none⟩ (.slice A2 n2 c2)).setCell ⟨B1, 5, none⟩ (.slice A3 n3 c3)) B1 44 (opCs o (.slice A1 n1 c1) (.slice A2 n2 c2) (.slice A3 n3 c3)) := hk
   have HE := Lib.hid (And.intro hown (And.intro hbe (And.intro hk (And.intro hk2 (And.intro hzz hlt)))))
   clear hown hbe hk hk2 hzz hlt x3 x4 x5 f3 f4 f5
   generalize ((w3.setCell ⟨B1, 3, none⟩ (.slice A1 n1 c1)).setCell ⟨B1, 4, none⟩ (.slice A2 n2 c2)).setCell ⟨B1, 5, none⟩ (.slice A3 n3 c3) = w4 at HE ⊢
   go_wp2_with (first
     | (refine wpList_load_row rfl 44 _ rfl B1 rfl 44 (opCs o (.slice A1 n1 c1) (.slice A2 n2 c2) (.slice A3 n3 c3)) (0, 0) _ HE.out.2.2.1 rfl rfl (by kernel_rfl) ?_)
     | (refine wpList_store_rowTo rfl 44 _ _ rfl rfl (B1 + 1) (opCs o (.slice A1 n1 c1) (.slice A2 n2 c2) (.slice A3 n3 c3)) rfl rfl 44 zCs HE.out.2.2.2.1 (by kernel_rfl) rfl (by kernel_rfl) ?_))
   have h9 := HE.out.2.2.2.1.row (opCs o (.slice A1 n1 c1) (.slice A2 n2 c2) (.slice A3 n3 c3))
   have h8 := below_setRow HE.out.2.1 (show w.heap.size ≤ B1 + 1 by have := HBB.out; omega) (opCs o (.slice A1 n1 c1) (.slice A2 n2 c2) (.slice A3 n3 c3))
   have h7 : OpOwn (w4.setRow (B1 + 1) (opCs o (.slice A1 n1 c1) (.slice A2 n2 c2) (.slice A3 n3 c3))) W0.heap.size o (.slice A1 n1 c1) (.slice A2 n2 c2) (.slice A3 n3 c3) := HE.out.1.keep fun k h1 h2 => setRow_other _ _ k _ (by have := H0.out.2.2.2; omega)
   have t0 := h9.cell 0
   have t1 := h9.cell 1
   have t2 := h9.cell 2
   have t3 := h9.cell 3
   have t4 := h9.cell 4
   have t5 := h9.cell 5
   have t6 := h9.cell 6
   have HF := Lib.hid (And.intro (h7.low H0.out.1.size) h8)
   clear h7 h8 h9
   generalize w4.setRow (B1 + 1) (opCs o (.slice A1 n1 c1) (.slice A2 n2 c2) (.slice A3 n3 c3)) = w5 at t0 t1 t2 t3 t4 t5 t6 HF ⊢
   refine bodyPost_ret (v := opVal o (.slice A1 n1 c1) (.slice A2 n2 c2) (.slice A3 n3 c3)) ?_ rfl ⟨A1, n1, c1, A2, n2, c2, A3, n3, c3, rfl, HF.out.1, HF.out.2⟩
   simp at t0 t1 t2 t3 t4 t5 t6
   simp [results, Tryz.f43, go_sem, t0, t1, t2, t3, t4, t5, t6]
theorem setMany_rq2 (c n : Int) (o : Opn) (va vp vc xa xp xc : Value) : setMany (rqCs c n o va vp vc) 2 (opCs o xa xp xc).toList = rqCs c n o xa xp xc := by kernel_rfl
set_option maxHeartbeats 16000000 in
theorem copyRq (c n : Int) (o : Opn) (va vp vc : Value) (w : World) (ho : OpAt w o va vp vc) (hl : Lim o) (hlc : o.cur.length ≤ 1000000000) :
   Calls Tryz.prog 37 #[rqVal c n o va vp vc] w fun e w' => ∃ Aa na ca Ap np cp Ac nc cc, e = .returned (rqVal c n o (.slice Aa na ca) (.slice Ap np cp) (.slice Ac nc cc)) ∧ OpOwn w' w.heap.size o (.slice Aa na ca) (.slice Ap np cp) (.slice Ac nc cc) ∧ Below w.heap.size w w' := by
 have HOR := Lib.hid (And.intro ho (And.intro hl hlc))
 obtain ⟨Aa, ca, na, rfl, _, _⟩ := rdv_len ho.a
 obtain ⟨Ap, cp, np, rfl⟩ := ho.p.len
 obtain ⟨Ac, cc, nc, rfl, hnc, _⟩ := ho.c.full
 clear ho hl hlc hnc
 have hb1 := (Below.refl w.heap.size w).alloc (Nat.le_refl _) (.cells (rqCs c n o (.slice Aa na ca) (.slice Ap np cp) (.slice Ac nc cc)) 46)
 have hb2 := hb1.alloc hb1.size (.cells zQ 46)
 have k0 := (Blk.new w 46 (rqCs c n o (.slice Aa na ca) (.slice Ap np cp) (.slice Ac nc cc))).alloc (.cells zQ 46)
 have k1 := Blk.new (w.alloc (.cells (rqCs c n o (.slice Aa na ca) (.slice Ap np cp) (.slice Ac nc cc)) 46)) 46 zQ
 rw [World.size_alloc] at k1
 have hsz : ((w.alloc (.cells (rqCs c n o (.slice Aa na ca) (.slice Ap np cp) (.slice Ac nc cc)) 46)).alloc (.cells zQ 46)).heap.size = w.heap.size + 1 + 1 := by simp
 obtain ⟨B1, hB1⟩ : ∃ b, b = w.heap.size := ⟨_, rfl⟩
 have H0 := Lib.hid (And.intro hb2 (And.intro (hB1 ▸ k0) (And.intro (hB1 ▸ k1) (hB1 ▸ hsz))))
 clear hb1 hb2 k0 k1 hsz
 go_enter Tryz.func37, Tryz.ntmps37
 go_upto_region 1 with fail
 rw [← hB1]
 generalize (w.alloc (.cells (rqCs c n o (.slice Aa na ca) (.slice Ap np cp) (.slice Ac nc cc)) 46)).alloc (.cells #[.int .u64 0, .int .u64 0, .int .i64 0, .string ⟨#[]⟩, .string ⟨#[]⟩, .slice none 0 0, .slice none 0 0, .slice none 0 0, .int .i64 0] 46) = W0 at H0 ⊢
 have HBB := Lib.hid hB1
 clear hB1
 obtain ⟨a0, a1, a2, a3, a4, a5, a6, a7, a8⟩ := rq_cells H0.out.2.1
 have HC := Lib.hid (copyOp_any o _ _ _ W0 (HOR.out.1.on H0.out.1) HOR.out.2.1 HOR.out.2.2)
 go_upto_region 2 with (first
   | (go_at_call 43; (with_reducible refine HC.out.mono ?_); clear HC a0 a1 a2 a3 a4 a5 a6 a7 a8; rintro e w1 ⟨A1, n1, c1, A2, n2, c2, A3, n3, c3, rfl, h1, hb1⟩; dsimp only; have H1 := Lib.hid (And.intro h1 hb1); clear h1 hb1)
   | (refine wpList_store_mid rfl 44 _ _ rfl B1 2 (opCs o (.slice A1 n1 c1) (.slice A2 n2 c2) (.slice A3 n3 c3)) rfl rfl ((H0.out.2.1.on H1.out.2).there 2 7 (Nat.le_refl 9)) (by kernel_rfl) (by kernel_rfl) ?_))
 have hlt : B1 < W0.heap.size := by have := H0.out.2.2.2; omega
 have hk : Blk (w1.setCells B1 2 (Array.toList (opCs o (.slice A1 n1 c1) (.slice A2 n2 c2) (.slice A3 n3 c3)))) B1 46 (rqCs c n o (.slice A1 n1 c1) (.slice A2 n2 c2) (.slice A3 n3 c3)) := by
   have h := Blk.many (Array.toList (opCs o (.slice A1 n1 c1) (.slice A2 n2 c2) (.slice A3 n3 c3))) 2 w1 _ (H0.out.2.1.on H1.out.2)
   rw [setMany_rq2] at h
   exact h
 have hk2 : Blk (w1.setCells B1 2 (Array.toList (opCs o (.slice A1 n1 c1) (.slice A2 n2 c2) (.slice A3 n3 c3)))) (B1 + 1) 46 zQ := Blk.manyFar (by omega) _ 2 w1 _ (H0.out.2.2.1.on H1.out.2)
 have hbe := below_setCells (show w.heap.size ≤ B1 by have := HBB.out; omega) (Array.toList (opCs o (.slice A1 n1 c1) (.slice A2 n2 c2) (.slice A3 n3 c3))) 2 w1 (H0.out.1.trans (H1.out.2.mono H0.out.1.size))
 have hown : OpOwn (w1.setCells B1 2 (Array.toList (opCs o (.slice A1 n1 c1) (.slice A2 n2 c2) (.slice A3 n3 c3)))) W0.heap.size o (.slice A1 n1 c1) (.slice A2 n2 c2) (.slice A3 n3 c3) := H1.out.1.keep fun k h1 h2 => setCells_other _ k (by omega) _ _ _
 have HE := Lib.hid (And.intro hown (And.intro hbe (And.intro hk (And.intro hk2 hlt))))
 clear hown hbe hk hk2 hlt
 generalize w1.setCells B1 2 (Array.toList (opCs o (.slice A1 n1 c1) (.slice A2 n2 c2) (.slice A3 n3 c3))) = w4 at HE ⊢
 go_wp2_with (first
   | (refine wpList_load_row rfl 46 _ rfl B1 rfl 46 (rqCs c n o (.slice A1 n1 c1) (.slice A2 n2 c2) (.slice A3 n3 c3)) (0, 0) _ HE.out.2.2.1 rfl rfl (by kernel_rfl) ?_)
   | (refine wpList_store_rowTo rfl 46 _ _ rfl rfl (B1 + 1) (rqCs c n o (.slice A1 n1 c1) (.slice A2 n2 c2) (.slice A3 n3 c3)) rfl rfl 46 zQ HE.out.2.2.2.1 (by kernel_rfl) rfl (by kernel_rfl) ?_))
 have h9 := HE.out.2.2.2.1.row (rqCs c n o (.slice A1 n1 c1) (.slice A2 n2 c2) (.slice A3 n3 c3))
 have h8 := below_setRow HE.out.2.1 (show w.heap.size ≤ B1 + 1 by have := HBB.out; omega) (rqCs c n o (.slice A1 n1 c1) (.slice A2 n2 c2) (.slice A3 n3 c3))
 have h7 : OpOwn (w4.setRow (B1 + 1) (rqCs c n o (.slice A1 n1 c1) (.slice A2 n2 c2) (.slice A3 n3 c3))) W0.heap.size o (.slice A1 n1 c1) (.slice A2 n2 c2) (.slice A3 n3 c3) := HE.out.1.keep fun k h1 h2 => setRow_other _ _ k _ (by have := H0.out.2.2.2; omega)
 have t0 := h9.cell 0
 have t1 := h9.cell 1
 have t2 := h9.cell 2
 have t3 := h9.cell 3
 have t4 := h9.cell 4
 have t5 := h9.cell 5
 have t6 := h9.cell 6
 have t7 := h9.cell 7
 have t8 := h9.cell 8
 have HF := Lib.hid (And.intro (h7.low H0.out.1.size) h8)
 clear h7 h8 h9
 generalize w4.setRow (B1 + 1) (rqCs c n o (.slice A1 n1 c1) (.slice A2 n2 c2) (.slice A3 n3 c3)) = w5 at t0 t1 t2 t3 t4 t5 t6 t7 t8 HF ⊢
 refine bodyPost_ret (v := rqVal c n o (.slice A1 n1 c1) (.slice A2 n2 c2) (.slice A3 n3 c3)) ?_ rfl ⟨A1, n1, c1, A2, n2, c2, A3, n3, c3, rfl, HF.out.1, HF.out.2⟩
 simp at t0 t1 t2 t3 t4 t5 t6 t7 t8
 simp [results, Tryz.f37, go_sem, t0, t1, t2, t3, t4, t5, t6, t7, t8]
end Go.Proofs.YtniaijgejljjbaaGreat.Tlv
