/- The chapter's message: its bytes; the chapter's row. -/
import Derived.Test.YtcjiofhjognklaaGreatY41
import Derived.Test.YtcjiofhjognklaaGreatY42
namespace Go.Proofs.YtcjiofhjognklaaGreat.Tlv
open Go.RowKit
set_option maxRecDepth 100000
set_option linter.unusedVariables false
set_option linter.unusedSimpArgs false
open Go.Lib Go.Sort
theorem valB_len (t : Int) (xs : List Int) : (valB t xs).length = 5 + xs.length := valB_length t xs
theorem wb_below {base : Nat} {w W : World} (h : Below w.heap.size w W) (hb : base ≤ w.heap.size) : WB base w W := ⟨h.mono hb, fun b t cs _ _ k => k.on h⟩
theorem num0 (t x : Int) (p : Value) (w : World) : Calls Tryz.prog 135 #[.bool false, .int .u8 t, .int .u64 x, p] w fun e w' => e = .returned (.tuple #[]) ∧ w = w' := by
 go_enter Tryz.func135, Tryz.ntmps135
 go_wp2
 exact bodyPost_end (v := .tuple #[]) (by simp [results, Tryz.f135, go_sem]) rfl ⟨rfl, rfl⟩
theorem num1 (t x : Int) (P g m base : Nat) (q : List Int) (w : World) (hP : Blk w P 86 #[.pointer (some ⟨g, 0, none⟩)]) (hs : WS w base g (some q) m) (hbg : base ≤ g) (ht : 0 < t) (ht2 : t ≤ 255) (hx : 0 ≤ x) (hx2 : x < 18446744073709551616) (hq : q.length ≤ 1000) (hm : m ≤ 1000) :
   Calls Tryz.prog 135 #[.bool true, .int .u8 t, .int .u64 x, .pointer (some ⟨P, 0, none⟩)] w fun e w' => e = .returned (.tuple #[]) ∧ WS w' base g (some (q ++ valB t (be8 x))) (m + 1) ∧ WB base w w' := by
 have p0 := hP.cell 0
 have HN := number_any g (some q) m t x base w hs (Nat.le_trans hbg (Nat.le_of_lt hs.lt)) (by omega) ht2 hx hx2 (fun l e => by injection e with e; subst e; omega) (by omega) hbg
 rw [puts_app (by omega), cnts_app (by omega)] at HN
 have HN := Lib.hid HN
 clear hP hs
 go_enter Tryz.func135, Tryz.ntmps135
 go_wp2_with (go_at_call 45; (with_reducible refine HN.out.mono ?_); clear HN; rintro e w2 ⟨rfl, hs, hb⟩; have H2 := Lib.hid (And.intro hs hb); clear hs hb)
 exact bodyPost_end (v := .tuple #[]) (by simp [results, Tryz.f135, go_sem]) rfl ⟨rfl, H2.out.1, H2.out.2⟩
set_option maxHeartbeats 16000000 in
theorem putM (g m base : Nat) (q : List Int) (w : World) (hs : WS w base g (some q) m) (hbg : base ≤ g) (hq : q.length ≤ 500) (hm : m ≤ 500) :
   Calls Tryz.prog 105 #[.pointer (some ⟨g, 0, none⟩), msV, fdV] w fun e w' => e = .returned (.int .i64 0) ∧ WS w' base g (some (q ++ valB 2 (be8 1) ++ valB 10 (be8 2))) (m + 1 + 1) ∧ WB base w w' := by
 have HS := Lib.hid (And.intro hs (And.intro hbg (And.intro hq hm)))
 clear hs hbg hq hm
 go_enter Tryz.func105, Tryz.ntmps105
 go_upto_region 6 with fail
 have hb : Below w.heap.size w (((((w.alloc (.cells #[.pointer (some ⟨g, 0, none⟩)] 86)).alloc (.cells #[.int .i64 5, .int .u64 1, .int .u64 0, .int .i64 0, .int .u64 0, .int .u64 0, .int .u64 0, .int .u64 0, .int .i64 0, .string ⟨#[]⟩, .string ⟨#[]⟩, .slice none 0 0, .slice none 0 0, .slice none 0 0, .int .i64 0, .int .i64 0, .bool false, .slice none 0 0, .slice none 0 0, .int .u64 0, .int .u64 2, .int .u64 0, .slice none 0 0, .slice none 0 0, .int .u64 0, .bool false, .slice none 0 0] 74)).alloc (.cells #[.bool true, .bool false, .bool false, .bool false, .bool false, .bool false, .bool true, .bool false, .bool false, .bool false, .bool false] 145)).alloc (.cells #[.slice none 0 0] 110)).alloc (.cells #[.int .i64 0] 30)) :=
   (((((Below.refl w.heap.size w).alloc (Nat.le_refl _) _).alloc (by simp) _).alloc (by simp; omega) _).alloc (by simp; omega) _).alloc (by simp; omega) _
 have kP := ((((Blk.new w 86 #[.pointer (some ⟨g, 0, none⟩)]).alloc (.cells #[.int .i64 5, .int .u64 1, .int .u64 0, .int .i64 0, .int .u64 0, .int .u64 0, .int .u64 0, .int .u64 0, .int .i64 0, .string ⟨#[]⟩, .string ⟨#[]⟩, .slice none 0 0, .slice none 0 0, .slice none 0 0, .int .i64 0, .int .i64 0, .bool false, .slice none 0 0, .slice none 0 0, .int .u64 0, .int .u64 2, .int .u64 0, .slice none 0 0, .slice none 0 0, .int .u64 0, .bool false, .slice none 0 0] 74)).alloc (.cells #[.bool true, .bool false, .bool false, .bool false, .bool false, .bool false, .bool true, .bool false, .bool false, .bool false, .bool false] 145)).alloc (.cells #[.slice none 0 0] 110)).alloc (.cells #[.int .i64 0] 30)
 have kM := (((Blk.new (w.alloc (.cells #[.pointer (some ⟨g, 0, none⟩)] 86)) 74 #[.int .i64 5, .int .u64 1, .int .u64 0, .int .i64 0, .int .u64 0, .int .u64 0, .int .u64 0, .int .u64 0, .int .i64 0, .string ⟨#[]⟩, .string ⟨#[]⟩, .slice none 0 0, .slice none 0 0, .slice none 0 0, .int .i64 0, .int .i64 0, .bool false, .slice none 0 0, .slice none 0 0, .int .u64 0, .int .u64 2, .int .u64 0, .slice none 0 0, .slice none 0 0, .int .u64 0, .bool false, .slice none 0 0]).alloc (.cells #[.bool true, .bool false, .bool false, .bool false, .bool false, .bool false, .bool true, .bool false, .bool false, .bool false, .bool false] 145)).alloc (.cells #[.slice none 0 0] 110)).alloc (.cells #[.int .i64 0] 30)
 have kF := ((Blk.new ((w.alloc (.cells #[.pointer (some ⟨g, 0, none⟩)] 86)).alloc (.cells #[.int .i64 5, .int .u64 1, .int .u64 0, .int .i64 0, .int .u64 0, .int .u64 0, .int .u64 0, .int .u64 0, .int .i64 0, .string ⟨#[]⟩, .string ⟨#[]⟩, .slice none 0 0, .slice none 0 0, .slice none 0 0, .int .i64 0, .int .i64 0, .bool false, .slice none 0 0, .slice none 0 0, .int .u64 0, .int .u64 2, .int .u64 0, .slice none 0 0, .slice none 0 0, .int .u64 0, .bool false, .slice none 0 0] 74)) 145 #[.bool true, .bool false, .bool false, .bool false, .bool false, .bool false, .bool true, .bool false, .bool false, .bool false, .bool false]).alloc (.cells #[.slice none 0 0] 110)).alloc (.cells #[.int .i64 0] 30)
 have kE := Blk.new ((((w.alloc (.cells #[.pointer (some ⟨g, 0, none⟩)] 86)).alloc (.cells #[.int .i64 5, .int .u64 1, .int .u64 0, .int .i64 0, .int .u64 0, .int .u64 0, .int .u64 0, .int .u64 0, .int .i64 0, .string ⟨#[]⟩, .string ⟨#[]⟩, .slice none 0 0, .slice none 0 0, .slice none 0 0, .int .i64 0, .int .i64 0, .bool false, .slice none 0 0, .slice none 0 0, .int .u64 0, .int .u64 2, .int .u64 0, .slice none 0 0, .slice none 0 0, .int .u64 0, .bool false, .slice none 0 0] 74)).alloc (.cells #[.bool true, .bool false, .bool false, .bool false, .bool false, .bool false, .bool true, .bool false, .bool false, .bool false, .bool false] 145)).alloc (.cells #[.slice none 0 0] 110)) 30 #[.int .i64 0]
 rw [World.size_alloc] at kM
 rw [World.size_alloc, World.size_alloc] at kF
 rw [World.size_alloc, World.size_alloc, World.size_alloc, World.size_alloc] at kE
 have hs3 : WS (((((w.alloc (.cells #[.pointer (some ⟨g, 0, none⟩)] 86)).alloc (.cells #[.int .i64 5, .int .u64 1, .int .u64 0, .int .i64 0, .int .u64 0, .int .u64 0, .int .u64 0, .int .u64 0, .int .i64 0, .string ⟨#[]⟩, .string ⟨#[]⟩, .slice none 0 0, .slice none 0 0, .slice none 0 0, .int .i64 0, .int .i64 0, .bool false, .slice none 0 0, .slice none 0 0, .int .u64 0, .int .u64 2, .int .u64 0, .slice none 0 0, .slice none 0 0, .int .u64 0, .bool false, .slice none 0 0] 74)).alloc (.cells #[.bool true, .bool false, .bool false, .bool false, .bool false, .bool false, .bool true, .bool false, .bool false, .bool false, .bool false] 145)).alloc (.cells #[.slice none 0 0] 110)).alloc (.cells #[.int .i64 0] 30)) base g (some q) m := HS.out.1.on hb
 generalize (((((w.alloc (.cells #[.pointer (some ⟨g, 0, none⟩)] 86)).alloc (.cells #[.int .i64 5, .int .u64 1, .int .u64 0, .int .i64 0, .int .u64 0, .int .u64 0, .int .u64 0, .int .u64 0, .int .i64 0, .string ⟨#[]⟩, .string ⟨#[]⟩, .slice none 0 0, .slice none 0 0, .slice none 0 0, .int .i64 0, .int .i64 0, .bool false, .slice none 0 0, .slice none 0 0, .int .u64 0, .int .u64 2, .int .u64 0, .slice none 0 0, .slice none 0 0, .int .u64 0, .bool false, .slice none 0 0] 74)).alloc (.cells #[.bool true, .bool false, .bool false, .bool false, .bool false, .bool false, .bool true, .bool false, .bool false, .bool false, .bool false] 145)).alloc (.cells #[.slice none 0 0] 110)).alloc (.cells #[.int .i64 0] 30)) = W at *
 have f0 := kF.cell 0
 have f3 := kF.cell 3
 have f4 := kF.cell 4
 simp only [List.getElem?_toArray, List.getElem?_cons_zero, List.getElem?_cons_succ] at f0 f3 f4
 have m1 := kM.cell 1
 have m23 := kM.cell 23
 simp only [List.getElem?_toArray, List.getElem?_cons_zero, List.getElem?_cons_succ] at m1 m23
 have HV := Lib.hid (num1 2 1 w.heap.size g m base q W kP hs3 HS.out.2.1 (by decide) (by decide) (by decide) (by decide) (by have := HS.out.2.2.1; omega) (by have := HS.out.2.2.2; omega))
 have HK := Lib.hid (And.intro hb (And.intro kP (And.intro kM (And.intro kF (And.intro kE hs3)))))
 clear hb kP kM kF kE hs3
 go_upto_region 11 with fail
 refine wp_loop_rounds 1 ?_
 rw [rounds_succ]
 go_upto_region 16 with (go_at_call 135; (with_reducible refine HV.out.mono ?_); clear HV f0 f3 f4 m1 m23; rintro e W2 ⟨rfl, hs2, hw2⟩; dsimp only; have H2 := Lib.hid (And.intro hs2 hw2); clear hs2 hw2)
 obtain ⟨hb, kP, kM, kF, kE, hs3⟩ := HK.out
 have kF2 := H2.out.2.kp _ _ _ (by decide) (by decide) kF
 have kM2 := H2.out.2.kp _ _ _ (by decide) (by decide) kM
 have kP2 := H2.out.2.kp _ _ _ (by decide) (by decide) kP
 have kE2 := H2.out.2.kp _ _ _ (by decide) (by decide) kE
 have HWB := Lib.hid ((wb_below hb (Nat.le_trans HS.out.2.1 (Nat.le_of_lt HS.out.1.lt))).trans H2.out.2)
 have HV := Lib.hid (num1 10 2 w.heap.size g (m + 1) base _ W2 kP2 H2.out.1 HS.out.2.1 (by decide) (by decide) (by decide) (by decide) (by rw [List.length_append, valB_len, be8_length]; have := HS.out.2.2.1; omega) (by have := HS.out.2.2.2; omega))
 have f0 := kF2.cell 0
 have f1 := kF2.cell 1
 have f2 := kF2.cell 2
 have f3 := kF2.cell 3
 have f4 := kF2.cell 4
 have f5 := kF2.cell 5
 have f6 := kF2.cell 6
 have f7 := kF2.cell 7
 have f8 := kF2.cell 8
 have f9 := kF2.cell 9
 have f10 := kF2.cell 10
 simp only [List.getElem?_toArray, List.getElem?_cons_zero, List.getElem?_cons_succ] at f0 f1 f2 f3 f4 f5 f6 f7 f8 f9 f10
 have m2 := kM2.cell 2
 have m3 := kM2.cell 3
 have m4 := kM2.cell 4
 have m5 := kM2.cell 5
 have m19 := kM2.cell 19
 have m20 := kM2.cell 20
 simp only [List.getElem?_toArray, List.getElem?_cons_zero, List.getElem?_cons_succ] at m2 m3 m4 m5 m19 m20
 have HK2 := Lib.hid (And.intro kM2 (And.intro kF2 kE2))
 clear hb kP kM kF kE hs3 kF2 kM2 kP2 kE2 HK H2
 have hcv : ∀ W, (convert 3 55 (.int .i64 0)).run Tryz.prog W = .ok (.int .u64 0) W := fun _ => rfl
 go_upto_region 26 with (first
   | (go_at_call 135; (with_reducible refine (num0 _ _ _ _).mono ?_); rintro e Wn ⟨rfl, rfl⟩; dsimp only)
   | (go_at_call 135; (with_reducible refine HV.out.mono ?_); clear HV f0 f1 f2 f3 f4 f5 f6 f7 f8 f9 f10 m2 m3 m4 m5 m19 m20; rintro e W4 ⟨rfl, hs4, hw4⟩; dsimp only; have HS4 := Lib.hid hs4; have HW4 := Lib.hid hw4; clear hs4 hw4))
 obtain ⟨kM3, kF3, kE3⟩ := HK2.out
 have kF4 := HW4.out.kp _ _ _ (by decide) (by decide) kF3
 have kM4 := HW4.out.kp _ _ _ (by decide) (by decide) kM3
 have kE4 := HW4.out.kp _ _ _ (by decide) (by decide) kE3
 have HWB2 := Lib.hid (HWB.out.trans HW4.out)
 clear kM3 kF3 kE3 HW4 HK2 HWB
 have f7 := kF4.cell 7
 have f8 := kF4.cell 8
 have f9 := kF4.cell 9
 have f10 := kF4.cell 10
 simp only [List.getElem?_toArray, List.getElem?_cons_zero, List.getElem?_cons_succ] at f7 f8 f9 f10
 have m24 := kM4.cell 24
 simp only [List.getElem?_toArray, List.getElem?_cons_zero, List.getElem?_cons_succ] at m24
 have k0 := kE4.cell 0
 simp only [List.getElem?_toArray, List.getElem?_cons_zero, List.getElem?_cons_succ] at k0
 clear kF4 kM4 kE4
 go_wp2_with (first
   | (go_at_call 135; (with_reducible refine (num0 _ _ _ _).mono ?_); rintro e Wn ⟨rfl, rfl⟩; dsimp only))
 go_ret
 exact ⟨rfl, HS4.out, HWB2.out⟩
theorem ended_ws (g m base : Nat) (q : List Int) (w : World) (h : WS w base g (some q) m) (hl : q.length ≤ 1000000000000) :
   Calls Tryz.prog 86 #[.pointer (some ⟨g, 0, none⟩)] w fun e w' => ∃ v', e = .returned (.tuple #[v', .int .i64 0]) ∧ Row w' w.heap.size v' q ∧ Below w.heap.size w w' := by
 have HE : Hid (Calls Tryz.prog 51 #[ptr g] w fun e w' => ∃ v', e = .returned (.tuple #[v', .int .i64 0]) ∧ Row w' w.heap.size v' q ∧ Below w.heap.size w w') := Lib.hid (by
   obtain ⟨v, h1, h2⟩ := h
   exact end_ok g v m q base w h1 h2 hl)
 clear h
 go_enter Tryz.func86, Tryz.ntmps86
 go_wp2_with fail
 refine HE.out.mono ?_
 rintro e w1 ⟨v1, rfl, hr, hb⟩
 have H := Lib.hid (And.intro hr hb)
 obtain ⟨A, c, rfl, _, _⟩ := hr.rd
 clear hr hb
 go_wp2_with fail
 go_ret2
 exact ⟨_, rfl, H.out⟩
abbrev qN : List Int := [] ++ valB 1 (be8 5)
abbrev qM : List Int := qN ++ valB 2 (be8 1) ++ valB 10 (be8 2)
theorem qN_len : qN.length = 13 := rfl
theorem qM_len : qM.length = 39 := rfl
theorem wpQuiet_row {P : Program} {ops : Array Oper} {C : World → Prop} {Q : Act → Prop} {a : Act} {o : Oper} {rest : List Oper} (ty : TypeId) (x : Operand) (ho : o.op = .load ty x) (D : Addr) (cs : Array Value) (hw : Region.wanted o (yielded ops a.tmps) = true) (hx : a.eval x = .pointer (some D))
   (hl : ∀ w, C w → (loadVar ty D).run P w = .ok (.agg cs) w) (h : wpQuiet P ops C Q rest (a.put o.dst (.agg cs))) : wpQuiet P ops C Q (o :: rest) a := by
 unfold wpQuiet
 rw [if_pos hw]
 refine ⟨.agg cs, fun w hC => ?_, h⟩
 unfold Oper.quietAt execOp
 simp only [ho, hx, Instr.loadAt, Instr.sureAddr, Sem.run_bind, Sem.run_pure, Result.andThen_ok, hl w hC]
 exact ⟨rfl, rfl⟩
set_option maxHeartbeats 16000000 in
theorem msgBytes (w : World) : Calls Tryz.prog 36 #[msV] w fun e w' => ∃ A c, e = .returned (.tuple #[.slice A 39 c, .int .i64 0]) ∧ Below w.heap.size w w' := by
 have hb := (Below.refl w.heap.size w).alloc (Nat.le_refl _) (.cells #[.int .i64 5, .int .u64 1, .int .u64 0, .int .i64 0, .int .u64 0, .int .u64 0, .int .u64 0, .int .u64 0, .int .i64 0, .string ⟨#[]⟩, .string ⟨#[]⟩, .slice none 0 0, .slice none 0 0, .slice none 0 0, .int .i64 0, .int .i64 0, .bool false, .slice none 0 0, .slice none 0 0, .int .u64 0, .int .u64 2, .int .u64 0, .slice none 0 0, .slice none 0 0, .int .u64 0, .bool false, .slice none 0 0] 74)
 have kM := Blk.new w 74 #[.int .i64 5, .int .u64 1, .int .u64 0, .int .i64 0, .int .u64 0, .int .u64 0, .int .u64 0, .int .u64 0, .int .i64 0, .string ⟨#[]⟩, .string ⟨#[]⟩, .slice none 0 0, .slice none 0 0, .slice none 0 0, .int .i64 0, .int .i64 0, .bool false, .slice none 0 0, .slice none 0 0, .int .u64 0, .int .u64 2, .int .u64 0, .slice none 0 0, .slice none 0 0, .int .u64 0, .bool false, .slice none 0 0]
 have HW := Lib.hid (And.intro hb kM)
 clear hb kM
 go_enter Tryz.func36, Tryz.ntmps36
 go_upto_region 1 with fail
 obtain ⟨W0, hW0⟩ : ∃ W0, W0 = w.alloc (.cells #[.int .i64 5, .int .u64 1, .int .u64 0, .int .i64 0, .int .u64 0, .int .u64 0, .int .u64 0, .int .u64 0, .int .i64 0, .string ⟨#[]⟩, .string ⟨#[]⟩, .slice none 0 0, .slice none 0 0, .slice none 0 0, .int .i64 0, .int .i64 0, .bool false, .slice none 0 0, .slice none 0 0, .int .u64 0, .int .u64 2, .int .u64 0, .slice none 0 0, .slice none 0 0, .int .u64 0, .bool false, .slice none 0 0] 74) := ⟨_, rfl⟩
 rw [← hW0] at HW ⊢
 clear hW0
 go_upto_region 2 with (first
   | (refine wpList_load_row rfl 74 _ rfl w.heap.size rfl 74 #[.int .i64 5, .int .u64 1, .int .u64 0, .int .i64 0, .int .u64 0, .int .u64 0, .int .u64 0, .int .u64 0, .int .i64 0, .string ⟨#[]⟩, .string ⟨#[]⟩, .slice none 0 0, .slice none 0 0, .slice none 0 0, .int .i64 0, .int .i64 0, .bool false, .slice none 0 0, .slice none 0 0, .int .u64 0, .int .u64 2, .int .u64 0, .slice none 0 0, .slice none 0 0, .int .u64 0, .bool false, .slice none 0 0] (0, 0) _ HW.out.2 rfl rfl (by kernel_rfl) ?_)
   | ((with_reducible refine (fieldsOfM _).mono ?_); rintro e W1 ⟨rfl, hb1⟩; dsimp only; have HW1 := Lib.hid (And.intro (HW.out.1.trans (hb1.mono HW.out.1.size)) (HW.out.2.on hb1)); clear hb1)
   | (refine wpList_store_rowTo rfl 145 _ _ rfl rfl W1.heap.size #[.bool true, .bool false, .bool false, .bool false, .bool false, .bool false, .bool true, .bool false, .bool false, .bool false, .bool false] rfl rfl 145 #[.bool false, .bool false, .bool false, .bool false, .bool false, .bool false, .bool false, .bool false, .bool false, .bool false, .bool false] (Blk.new W1 145 #[.bool false, .bool false, .bool false, .bool false, .bool false, .bool false, .bool false, .bool false, .bool false, .bool false, .bool false]) (by kernel_rfl) rfl (by kernel_rfl) ?_))
 have hb2 : Below w.heap.size w ((W1.alloc (.cells #[.bool false, .bool false, .bool false, .bool false, .bool false, .bool false, .bool false, .bool false, .bool false, .bool false, .bool false] 145)).setRow W1.heap.size #[.bool true, .bool false, .bool false, .bool false, .bool false, .bool false, .bool true, .bool false, .bool false, .bool false, .bool false]) := below_setRow (HW1.out.1.alloc HW1.out.1.size (.cells #[.bool false, .bool false, .bool false, .bool false, .bool false, .bool false, .bool false, .bool false, .bool false, .bool false, .bool false] 145)) HW1.out.1.size #[.bool true, .bool false, .bool false, .bool false, .bool false, .bool false, .bool true, .bool false, .bool false, .bool false, .bool false]
 have kM2 : Blk ((W1.alloc (.cells #[.bool false, .bool false, .bool false, .bool false, .bool false, .bool false, .bool false, .bool false, .bool false, .bool false, .bool false] 145)).setRow W1.heap.size #[.bool true, .bool false, .bool false, .bool false, .bool false, .bool false, .bool true, .bool false, .bool false, .bool false, .bool false]) w.heap.size 74 #[.int .i64 5, .int .u64 1, .int .u64 0, .int .i64 0, .int .u64 0, .int .u64 0, .int .u64 0, .int .u64 0, .int .i64 0, .string ⟨#[]⟩, .string ⟨#[]⟩, .slice none 0 0, .slice none 0 0, .slice none 0 0, .int .i64 0, .int .i64 0, .bool false, .slice none 0 0, .slice none 0 0, .int .u64 0, .int .u64 2, .int .u64 0, .slice none 0 0, .slice none 0 0, .int .u64 0, .bool false, .slice none 0 0] := (HW1.out.2.alloc (.cells #[.bool false, .bool false, .bool false, .bool false, .bool false, .bool false, .bool false, .bool false, .bool false, .bool false, .bool false] 145)).rowFar (by have := HW1.out.2.lt; omega) #[.bool true, .bool false, .bool false, .bool false, .bool false, .bool false, .bool true, .bool false, .bool false, .bool false, .bool false]
 have kF2 : Blk ((W1.alloc (.cells #[.bool false, .bool false, .bool false, .bool false, .bool false, .bool false, .bool false, .bool false, .bool false, .bool false, .bool false] 145)).setRow W1.heap.size #[.bool true, .bool false, .bool false, .bool false, .bool false, .bool false, .bool true, .bool false, .bool false, .bool false, .bool false]) W1.heap.size 145 #[.bool true, .bool false, .bool false, .bool false, .bool false, .bool false, .bool true, .bool false, .bool false, .bool false, .bool false] := (Blk.new W1 145 #[.bool false, .bool false, .bool false, .bool false, .bool false, .bool false, .bool false, .bool false, .bool false, .bool false, .bool false]).row #[.bool true, .bool false, .bool false, .bool false, .bool false, .bool false, .bool true, .bool false, .bool false, .bool false, .bool false]
 obtain ⟨k, hk⟩ : ∃ k, k = W1.heap.size := ⟨_, rfl⟩
 rw [← hk] at hb2 kM2 kF2 ⊢
 generalize (W1.alloc (.cells #[.bool false, .bool false, .bool false, .bool false, .bool false, .bool false, .bool false, .bool false, .bool false, .bool false, .bool false] 145)).setRow k #[.bool true, .bool false, .bool false, .bool false, .bool false, .bool false, .bool true, .bool false, .bool false, .bool false, .bool false] = W at *
 clear hk HW1 HW
 have HK := Lib.hid (And.intro hb2 (And.intro kM2 kF2))
 clear hb2
 have g0 : W.cell? ⟨w.heap.size, 3, none⟩ = some (.int .i64 0) := kM2.cell 3
 have g1 : W.cell? ⟨w.heap.size, 23, none⟩ = some (.slice none 0 0) := kM2.cell 23
 have g2 : W.cell? ⟨w.heap.size, 26, none⟩ = some (.slice none 0 0) := kM2.cell 26
 have e0 := cell_regrown g0
 have e1 := cell_regrown g1
 have e2 := cell_regrown g2
 have hLM : ∀ W', (∃ p : Regrown, W' = grow (redrawn W p.d) p.os) → (loadVar 74 ⟨w.heap.size, 0, none⟩).run Tryz.prog W' = .ok (.agg #[.int .i64 5, .int .u64 1, .int .u64 0, .int .i64 0, .int .u64 0, .int .u64 0, .int .u64 0, .int .u64 0, .int .i64 0, .string ⟨#[]⟩, .string ⟨#[]⟩, .slice none 0 0, .slice none 0 0, .slice none 0 0, .int .i64 0, .int .i64 0, .bool false, .slice none 0 0, .slice none 0 0, .int .u64 0, .int .u64 2, .int .u64 0, .slice none 0 0, .slice none 0 0, .int .u64 0, .bool false, .slice none 0 0]) W' := by
   rintro _ ⟨p, rfl⟩
   have h : Blk (grow (redrawn W p.d) p.os) w.heap.size 74 #[.int .i64 5, .int .u64 1, .int .u64 0, .int .i64 0, .int .u64 0, .int .u64 0, .int .u64 0, .int .u64 0, .int .i64 0, .string ⟨#[]⟩, .string ⟨#[]⟩, .slice none 0 0, .slice none 0 0, .slice none 0 0, .int .i64 0, .int .i64 0, .bool false, .slice none 0 0, .slice none 0 0, .int .u64 0, .int .u64 2, .int .u64 0, .slice none 0 0, .slice none 0 0, .int .u64 0, .bool false, .slice none 0 0] := kM2.on (below_regrown W p.d p.os)
   exact run_loadVar_mid _ _ 0 74 _ _ (h.range 0 (#[.int .i64 5, .int .u64 1, .int .u64 0, .int .i64 0, .int .u64 0, .int .u64 0, .int .u64 0, .int .u64 0, .int .i64 0, .string ⟨#[]⟩, .string ⟨#[]⟩, .slice none 0 0, .slice none 0 0, .slice none 0 0, .int .i64 0, .int .i64 0, .bool false, .slice none 0 0, .slice none 0 0, .int .u64 0, .int .u64 2, .int .u64 0, .slice none 0 0, .slice none 0 0, .int .u64 0, .bool false, .slice none 0 0] : Array Value).toList rfl) rfl rfl (by kernel_rfl)
 have HLM := Lib.hid hLM
 have hLF : ∀ W', (∃ p : Regrown, W' = grow (redrawn W p.d) p.os) → (loadVar 145 ⟨k, 0, none⟩).run Tryz.prog W' = .ok (.agg #[.bool true, .bool false, .bool false, .bool false, .bool false, .bool false, .bool true, .bool false, .bool false, .bool false, .bool false]) W' := by
   rintro _ ⟨p, rfl⟩
   have h : Blk (grow (redrawn W p.d) p.os) k 145 #[.bool true, .bool false, .bool false, .bool false, .bool false, .bool false, .bool true, .bool false, .bool false, .bool false, .bool false] := kF2.on (below_regrown W p.d p.os)
   exact run_loadVar_mid _ _ 0 145 _ _ (h.range 0 (#[.bool true, .bool false, .bool false, .bool false, .bool false, .bool false, .bool true, .bool false, .bool false, .bool false, .bool false] : Array Value).toList rfl) rfl rfl (by kernel_rfl)
 have HLF := Lib.hid hLF
 have cN := fun d os => Calls.regrown_of (namedM (grow (redrawn W d) os))
 have cS := fun d os => Calls.regrown_of (sameMsg (grow (redrawn W d) os))
 clear g0 g1 g2 kM2 kF2 hLM hLF
 refine wp_region_quiet_below (by kernel_rfl) (by kernel_rfl) ?_
 repeat
   first
     | (refine wpQuiet_row 74 (.tmp 1) rfl ⟨w.heap.size, 0, none⟩ _ (by kernel_rfl) rfl HLM.out ?_)
     | (refine wpQuiet_row 145 (.tmp 4) rfl ⟨k, 0, none⟩ _ (by kernel_rfl) rfl HLF.out ?_)
     | (with_reducible refine wpQuiet_step (fun K hK => ?_)
        go_simp
        first
          | (with_reducible refine hK _ ?_; clear hK K)
          | (rw [if_neg (by first | decide | (intro h; cases h))]; with_reducible refine hK _ ?_; clear hK K)
          | (apply Exists.intro; refine ⟨fun _ => ?_, hK _ ?_⟩; (first | exact cN _ _ | exact cS _ _); clear hK K))
 with_reducible refine wpQuiet_nil ?_
 rintro _ ⟨⟨dq, osq⟩, rfl⟩
 have hq := below_regrown W dq osq
 have HK2 := Lib.hid (And.intro (HK.out.1.trans (hq.mono HK.out.1.size)) (And.intro (HK.out.2.1.on hq) (HK.out.2.2.on hq)))
 clear hq e0 e1 e2 cN cS HLM HLF HK
 generalize grow (redrawn W dq) osq = w2 at HK2 ⊢
 have hws : WS (w2.alloc (.cells #[.slice none 0 0, .int .i64 0, .int .i64 0] 88)) w2.heap.size w2.heap.size (some []) 0 := ws_new w2
 have hb3 : Below w2.heap.size w2 (w2.alloc (.cells #[.slice none 0 0, .int .i64 0, .int .i64 0] 88)) := (Below.refl _ _).alloc (Nat.le_refl _) _
 have HN1 := Lib.hid (number_any w2.heap.size (some []) 0 1 5 w2.heap.size _ hws hb3.size (by decide) (by decide) (by decide) (by decide) (fun l e => by injection e with e; subst e; decide) (by decide) (Nat.le_refl _))
 have g0 : (w2.alloc (.cells #[.slice none 0 0, .int .i64 0, .int .i64 0] 88)).cell? ⟨w.heap.size, 0, none⟩ = some (.int .i64 5) := (HK2.out.2.1.on hb3).cell 0
 have HB3 := Lib.hid hb3
 have hcv : ∀ W, (convert 70 55 (.int .i64 5)).run Tryz.prog W = .ok (.int .u64 5) W := fun _ => rfl
 clear hws hb3
 go_upto_region 9 with (first
   | ((with_reducible refine HN1.out.mono ?_); clear HN1 g0 hcv; rintro e w5 ⟨rfl, hs5, hwb5⟩; dsimp only; rw [puts_app (by decide)] at hs5; have HB5 := Lib.hid (HB3.out.trans hwb5.bel); have HS5 := Lib.hid hs5; have HP := Lib.hid (putM w2.heap.size _ w2.heap.size qN w5 hs5 (Nat.le_refl _) (by rw [qN_len]; decide) (by decide)); clear hs5 hwb5)
   | (refine wpList_load_row rfl 74 _ rfl w.heap.size rfl 74 #[.int .i64 5, .int .u64 1, .int .u64 0, .int .i64 0, .int .u64 0, .int .u64 0, .int .u64 0, .int .u64 0, .int .i64 0, .string ⟨#[]⟩, .string ⟨#[]⟩, .slice none 0 0, .slice none 0 0, .slice none 0 0, .int .i64 0, .int .i64 0, .bool false, .slice none 0 0, .slice none 0 0, .int .u64 0, .int .u64 2, .int .u64 0, .slice none 0 0, .slice none 0 0, .int .u64 0, .bool false, .slice none 0 0] (0, 0) _ (HK2.out.2.1.on HB5.out) rfl rfl (by kernel_rfl) ?_)
   | (refine wpList_load_row rfl 145 _ rfl k rfl 145 #[.bool true, .bool false, .bool false, .bool false, .bool false, .bool false, .bool true, .bool false, .bool false, .bool false, .bool false] (0, 0) _ (HK2.out.2.2.on HB5.out) rfl rfl (by kernel_rfl) ?_)
   | ((with_reducible refine HP.out.mono ?_); clear HP; rintro e w6 ⟨rfl, hs6, hwb6⟩; dsimp only; have HB6 := Lib.hid (HB5.out.trans hwb6.bel); have HEN := Lib.hid (ended_ws _ _ _ _ _ hs6 (by show qM.length ≤ _; rw [qM_len]; decide)); clear hs6 hwb6)
   | ((with_reducible refine HEN.out.mono ?_); clear HEN; rintro e w8 ⟨v8, rfl, hr8, hb8⟩; dsimp only; have HB8 := Lib.hid (HK2.out.1.trans ((HB6.out.trans (hb8.mono HB6.out.size)).mono HK2.out.1.size)); obtain ⟨A8, c8, e8, _, _⟩ := hr8.rd; replace e8 : v8 = .slice A8 39 c8 := e8; subst e8; clear hr8 hb8))
 go_wp2
 go_ret2
 exact ⟨A8, c8, rfl, HB8.out⟩
theorem known_any (w : World) : Calls Tryz.prog 8 #[] w fun e w' => e = .returned (.bool true) ∧ Below w.heap.size w w' := by
 have HM := Lib.hid (msgBytes w)
 go_enter Tryz.func8, Tryz.ntmps8
 go_wp2_with (first
   | (refine wpList_buildTo rfl 74 _ rfl (some 4) rfl #[.int .i64 5, .int .u64 1, .int .u64 0, .int .i64 0, .int .u64 0, .int .u64 0, .int .u64 0, .int .u64 0, .int .i64 0, .string ⟨#[]⟩, .string ⟨#[]⟩, .slice none 0 0, .slice none 0 0, .slice none 0 0, .int .i64 0, .int .i64 0, .bool false, .slice none 0 0, .slice none 0 0, .int .u64 0, .int .u64 2, .int .u64 0, .slice none 0 0, .slice none 0 0, .int .u64 0, .bool false, .slice none 0 0] (by kernel_rfl) ?_)
   | (go_at_call 36; (with_reducible refine HM.out.mono ?_); rintro e w1 ⟨A, c, rfl, hb⟩; dsimp only; have HB := Lib.hid hb; clear hb)
   | (go_at_call 16; (with_reducible refine (numL_any _ _).mono ?_); rintro e w2 ⟨rfl, rfl⟩))
 go_ret
 exact ⟨rfl, HB.out⟩
end Go.Proofs.YtcjiofhjognklaaGreat.Tlv
