/- The request's message: what is put. -/
import Derived.Test.YtnokghnjbonmiaaGreatDoorS4
namespace Go.Proofs.YtnokghnjbonmiaaGreatDoor.Tlv
open Go.RowKit
set_option maxRecDepth 100000
set_option linter.unusedVariables false
set_option linter.unusedSimpArgs false

theorem wb_below {base : Nat} {w W : World} (h : Below w.heap.size w W) (hb : base ≤ w.heap.size) : WB base w W := ⟨h.mono hb, fun b t cs _ _ k => k.on h⟩
theorem rd_set {w : World} {A : Option Addr} {l : List Int} {p : Addr} (u : Value) (h : Rd w w.heap.size A l) (hne : ∀ ad, A = some ad → ad.block ≠ p.block) : Rd (w.setCell p u) (w.setCell p u).heap.size A l := fun hp => by
  obtain ⟨b, off, e, hlt, hc⟩ := h hp
  refine ⟨b, off, e, by simpa using hlt, fun j hj => ?_⟩
  exact (World.cell?_of_block (w := w) (a := ⟨b, off + j, none⟩) (Below.heap_setCell w p u b (hne _ e))).trans (hc j hj)
set_option maxHeartbeats 16000000 in
theorem put1 (g m base : Nat) (q : List Int) (w : World) (hs : WS w base g (some q) m) (hbg : base ≤ g) (hq : q.length ≤ 1000) (hm : m ≤ 1000) :
    Calls Tryz.prog 47 #[.pointer (some ⟨g, 0, none⟩), msV, fdV] w fun e w' => e = .returned (.int .i64 0) ∧ WS w' base g (some (q ++ valB 7 (rqB 1))) (m + 1) ∧ WB base w w' := by
  have HS := Lib.hid (And.intro hs (And.intro hbg (And.intro hq hm)))
  clear hs hbg hq hm
  go_enter Tryz.func47, Tryz.ntmps47
  go_upto_region 6 with fail
  have hb : Below w.heap.size w (((((w.alloc (.cells #[.pointer (some ⟨g, 0, none⟩)] 107)).alloc (.cells #[.int .i64 1, .int .u64 0, .int .u64 0, .int .i64 0, .int .u64 0, .int .u64 0, .int .u64 1, .int .u64 1, .int .i64 6, .string ⟨#[97]⟩, .string ⟨#[]⟩, .slice none 0 0, .slice none 0 0, .slice none 0 0, .int .i64 0, .int .i64 0, .bool false, .slice none 0 0, .slice none 0 0, .int .u64 0, .int .u64 0, .int .u64 0, .slice none 0 0, .slice none 0 0, .int .u64 0, .bool false, .slice none 0 0] 60)).alloc (.cells #[.bool false, .bool false, .bool false, .bool false, .bool true, .bool false, .bool false, .bool false, .bool false, .bool false, .bool false] 102)).alloc (.cells #[.slice none 0 0] 143)).alloc (.cells #[.int .i64 0] 31)) :=
    (((((Below.refl w.heap.size w).alloc (Nat.le_refl _) _).alloc (by simp) _).alloc (by simp; omega) _).alloc (by simp; omega) _).alloc (by simp; omega) _
  have kP := ((((Blk.new w 107 #[.pointer (some ⟨g, 0, none⟩)]).alloc (.cells #[.int .i64 1, .int .u64 0, .int .u64 0, .int .i64 0, .int .u64 0, .int .u64 0, .int .u64 1, .int .u64 1, .int .i64 6, .string ⟨#[97]⟩, .string ⟨#[]⟩, .slice none 0 0, .slice none 0 0, .slice none 0 0, .int .i64 0, .int .i64 0, .bool false, .slice none 0 0, .slice none 0 0, .int .u64 0, .int .u64 0, .int .u64 0, .slice none 0 0, .slice none 0 0, .int .u64 0, .bool false, .slice none 0 0] 60)).alloc (.cells #[.bool false, .bool false, .bool false, .bool false, .bool true, .bool false, .bool false, .bool false, .bool false, .bool false, .bool false] 102)).alloc (.cells #[.slice none 0 0] 143)).alloc (.cells #[.int .i64 0] 31)
  have kM := (((Blk.new (w.alloc (.cells #[.pointer (some ⟨g, 0, none⟩)] 107)) 60 #[.int .i64 1, .int .u64 0, .int .u64 0, .int .i64 0, .int .u64 0, .int .u64 0, .int .u64 1, .int .u64 1, .int .i64 6, .string ⟨#[97]⟩, .string ⟨#[]⟩, .slice none 0 0, .slice none 0 0, .slice none 0 0, .int .i64 0, .int .i64 0, .bool false, .slice none 0 0, .slice none 0 0, .int .u64 0, .int .u64 0, .int .u64 0, .slice none 0 0, .slice none 0 0, .int .u64 0, .bool false, .slice none 0 0]).alloc (.cells #[.bool false, .bool false, .bool false, .bool false, .bool true, .bool false, .bool false, .bool false, .bool false, .bool false, .bool false] 102)).alloc (.cells #[.slice none 0 0] 143)).alloc (.cells #[.int .i64 0] 31)
  have kF := ((Blk.new ((w.alloc (.cells #[.pointer (some ⟨g, 0, none⟩)] 107)).alloc (.cells #[.int .i64 1, .int .u64 0, .int .u64 0, .int .i64 0, .int .u64 0, .int .u64 0, .int .u64 1, .int .u64 1, .int .i64 6, .string ⟨#[97]⟩, .string ⟨#[]⟩, .slice none 0 0, .slice none 0 0, .slice none 0 0, .int .i64 0, .int .i64 0, .bool false, .slice none 0 0, .slice none 0 0, .int .u64 0, .int .u64 0, .int .u64 0, .slice none 0 0, .slice none 0 0, .int .u64 0, .bool false, .slice none 0 0] 60)) 102 #[.bool false, .bool false, .bool false, .bool false, .bool true, .bool false, .bool false, .bool false, .bool false, .bool false, .bool false]).alloc (.cells #[.slice none 0 0] 143)).alloc (.cells #[.int .i64 0] 31)
  have kS := (Blk.new (((w.alloc (.cells #[.pointer (some ⟨g, 0, none⟩)] 107)).alloc (.cells #[.int .i64 1, .int .u64 0, .int .u64 0, .int .i64 0, .int .u64 0, .int .u64 0, .int .u64 1, .int .u64 1, .int .i64 6, .string ⟨#[97]⟩, .string ⟨#[]⟩, .slice none 0 0, .slice none 0 0, .slice none 0 0, .int .i64 0, .int .i64 0, .bool false, .slice none 0 0, .slice none 0 0, .int .u64 0, .int .u64 0, .int .u64 0, .slice none 0 0, .slice none 0 0, .int .u64 0, .bool false, .slice none 0 0] 60)).alloc (.cells #[.bool false, .bool false, .bool false, .bool false, .bool true, .bool false, .bool false, .bool false, .bool false, .bool false, .bool false] 102)) 143 #[.slice none 0 0]).alloc (.cells #[.int .i64 0] 31)
  have kE := Blk.new ((((w.alloc (.cells #[.pointer (some ⟨g, 0, none⟩)] 107)).alloc (.cells #[.int .i64 1, .int .u64 0, .int .u64 0, .int .i64 0, .int .u64 0, .int .u64 0, .int .u64 1, .int .u64 1, .int .i64 6, .string ⟨#[97]⟩, .string ⟨#[]⟩, .slice none 0 0, .slice none 0 0, .slice none 0 0, .int .i64 0, .int .i64 0, .bool false, .slice none 0 0, .slice none 0 0, .int .u64 0, .int .u64 0, .int .u64 0, .slice none 0 0, .slice none 0 0, .int .u64 0, .bool false, .slice none 0 0] 60)).alloc (.cells #[.bool false, .bool false, .bool false, .bool false, .bool true, .bool false, .bool false, .bool false, .bool false, .bool false, .bool false] 102)).alloc (.cells #[.slice none 0 0] 143)) 31 #[.int .i64 0]
  rw [World.size_alloc] at kM
  rw [World.size_alloc, World.size_alloc] at kF
  rw [World.size_alloc, World.size_alloc, World.size_alloc] at kS
  rw [World.size_alloc, World.size_alloc, World.size_alloc, World.size_alloc] at kE
  generalize (((((w.alloc (.cells #[.pointer (some ⟨g, 0, none⟩)] 107)).alloc (.cells #[.int .i64 1, .int .u64 0, .int .u64 0, .int .i64 0, .int .u64 0, .int .u64 0, .int .u64 1, .int .u64 1, .int .i64 6, .string ⟨#[97]⟩, .string ⟨#[]⟩, .slice none 0 0, .slice none 0 0, .slice none 0 0, .int .i64 0, .int .i64 0, .bool false, .slice none 0 0, .slice none 0 0, .int .u64 0, .int .u64 0, .int .u64 0, .slice none 0 0, .slice none 0 0, .int .u64 0, .bool false, .slice none 0 0] 60)).alloc (.cells #[.bool false, .bool false, .bool false, .bool false, .bool true, .bool false, .bool false, .bool false, .bool false, .bool false, .bool false] 102)).alloc (.cells #[.slice none 0 0] 143)).alloc (.cells #[.int .i64 0] 31)) = W at *
  have f4 := kF.cell 4
  simp only [List.getElem?_toArray, List.getElem?_cons_zero, List.getElem?_cons_succ] at f4
  have m6 := kM.cell 6
  have m7 := kM.cell 7
  have m8 := kM.cell 8
  have m9 := kM.cell 9
  have m10 := kM.cell 10
  have m11 := kM.cell 11
  have m12 := kM.cell 12
  have m13 := kM.cell 13
  have m14 := kM.cell 14
  simp only [List.getElem?_toArray, List.getElem?_cons_zero, List.getElem?_cons_succ] at m6 m7 m8 m9 m10 m11 m12 m13 m14
  have HK := Lib.hid (And.intro hb (And.intro kP (And.intro kM (And.intro kF (And.intro kS kE)))))
  have HR := Lib.hid (reqRow 1 W (by decide) (by decide))
  clear hb kP kM kF kS kE
  go_upto_region 8 with (first
    | (with_reducible refine HR.out.mono ?_; clear HR; clear f4 m6 m7 m8 m9 m10 m11 m12 m13 m14; rintro e W2 ⟨A2, c2, rfl, hr2, hb2⟩; dsimp only; have HR2 := Lib.hid hr2; have HB2 := Lib.hid hb2; have hkE : Blk W2 (w.heap.size + 1 + 1 + 1 + 1) 31 #[.int .i64 0] := HK.out.2.2.2.2.2.on hb2; have HKP := Lib.hid (keep0 (.slice A2 50 c2) _ W2 hkE); clear hr2 hb2 hkE)
    | (with_reducible refine HKP.out.mono ?_; clear HKP; rintro e W3 ⟨rfl, hW3⟩; dsimp only; have HW3 := Lib.hid hW3; clear hW3))
  have e3 := HW3.out
  clear HW3
  obtain ⟨hb, kP, kM, kF, kS, kE⟩ := HK.out
  have hs3 : WS W3 base g (some q) m := HS.out.1.on (by rw [e3]; exact (hb.trans (HB2.out.mono hb.size)).setCell (by show w.heap.size ≤ w.heap.size + 1 + 1 + 1 + 1; omega) _)
  have hb3 : Below w.heap.size w W3 := by rw [e3]; exact (hb.trans (HB2.out.mono hb.size)).setCell (by show w.heap.size ≤ w.heap.size + 1 + 1 + 1 + 1; omega) _
  have kP3 : Blk W3 w.heap.size 107 #[.pointer (some ⟨g, 0, none⟩)] := by rw [e3]; exact (kP.on HB2.out).far (by show w.heap.size ≠ w.heap.size + 1 + 1 + 1 + 1; omega) _
  have kM3 : Blk W3 (w.heap.size + 1) 60 #[.int .i64 1, .int .u64 0, .int .u64 0, .int .i64 0, .int .u64 0, .int .u64 0, .int .u64 1, .int .u64 1, .int .i64 6, .string ⟨#[97]⟩, .string ⟨#[]⟩, .slice none 0 0, .slice none 0 0, .slice none 0 0, .int .i64 0, .int .i64 0, .bool false, .slice none 0 0, .slice none 0 0, .int .u64 0, .int .u64 0, .int .u64 0, .slice none 0 0, .slice none 0 0, .int .u64 0, .bool false, .slice none 0 0] := by rw [e3]; exact (kM.on HB2.out).far (by show w.heap.size + 1 ≠ w.heap.size + 1 + 1 + 1 + 1; omega) _
  have kF3 : Blk W3 (w.heap.size + 1 + 1) 102 #[.bool false, .bool false, .bool false, .bool false, .bool true, .bool false, .bool false, .bool false, .bool false, .bool false, .bool false] := by rw [e3]; exact (kF.on HB2.out).far (by show w.heap.size + 1 + 1 ≠ w.heap.size + 1 + 1 + 1 + 1; omega) _
  have kE3 : Blk W3 (w.heap.size + 1 + 1 + 1 + 1) 31 #[.int .i64 0] := by rw [e3]; exact (kE.on HB2.out).set_ 0 (.int .i64 0)
  obtain ⟨A', c', eA, hrd, hAc, hAb⟩ := row_all HR2.out
  rw [rqB_len] at eA
  injection eA with e1 e2 e4
  subst e1 e4
  have hltE : w.heap.size + 1 + 1 + 1 + 1 < W.heap.size := kE.lt
  have hrd3 : Rd W3 W3.heap.size A2 (rqB 1) := by rw [e3]; exact rd_set _ hrd (fun ad ha => by have := hAb ad ha; show ad.block ≠ w.heap.size + 1 + 1 + 1 + 1; omega)
  have hsrc : Src W3 g A2 (rqB 1) := src_fresh HS.out.1 hb3 hrd3 (fun _ ad ha => by have := hAb ad ha; have := hb.size; omega)
  have HBY := bytes_any g (some q) m (rqB 1) 7 A2 c2 base W3 hs3 (Nat.le_trans HS.out.2.1 (Nat.le_of_lt hs3.lt)) (fun l e => hsrc) hAc (by decide) (by decide) (by rw [rqB_len]; decide) (fun l e => by injection e with e; subst e; have := HS.out.2.2.1; omega) (by have := HS.out.2.2.2; omega) HS.out.2.1
  rw [rqB_len] at HBY
  have HBY := Lib.hid HBY
  have HK3 := Lib.hid (And.intro hb3 (And.intro kP3 (And.intro kM3 (And.intro kF3 kE3))))
  have kS3 : Blk W3 (w.heap.size + 1 + 1 + 1) 143 #[.slice none 0 0] := by rw [e3]; exact (kS.on HB2.out).far (by show w.heap.size + 1 + 1 + 1 ≠ w.heap.size + 1 + 1 + 1 + 1; omega) _
  clear hb kP kM kF kS kE HK HR2 HB2 hrd hAc hAb e2 hltE hrd3 hsrc e3 hs3 hb3 kE3
  have f0 := kF3.cell 0
  have f1 := kF3.cell 1
  have f2 := kF3.cell 2
  have f3 := kF3.cell 3
  have f4 := kF3.cell 4
  simp only [List.getElem?_toArray, List.getElem?_cons_zero, List.getElem?_cons_succ] at f0 f1 f2 f3 f4
  have m1 := kM3.cell 1
  have m2 := kM3.cell 2
  have m3 := kM3.cell 3
  have m4 := kM3.cell 4
  have m5 := kM3.cell 5
  have m23 := kM3.cell 23
  simp only [List.getElem?_toArray, List.getElem?_cons_zero, List.getElem?_cons_succ] at m1 m2 m3 m4 m5 m23
  have p0 := kP3.cell 0
  simp only [List.getElem?_toArray, List.getElem?_cons_zero, List.getElem?_cons_succ] at p0
  clear kF3 kM3 kP3 kS3
  have hcv : ∀ W, (convert 3 22 (.int .i64 0)).run Tryz.prog W = .ok (.int .u64 0) W := fun _ => rfl
  go_upto_region 15 with fail
  refine wp_loop_rounds 1 ?_
  rw [rounds_succ]
  go_upto_region 22 with (first
    | (with_reducible refine (num0 _ _ _ _).mono ?_; rintro e Wn ⟨rfl, rfl⟩; dsimp only)
    | (with_reducible refine HBY.out.mono ?_; clear HBY; clear f0 f1 f2 f3 f4 m1 m2 m3 m4 m5 m23 p0; rintro e W4 ⟨rfl, hs4, hw4⟩; dsimp only; rw [puts_app (by decide)] at hs4; have HS4 := Lib.hid hs4; have HW4 := Lib.hid hw4; clear hs4 hw4))
  obtain ⟨hb3, kP3, kM3, kF3, kE3⟩ := HK3.out
  have kF4 := HW4.out.kp _ _ _ (by decide) (by decide) kF3
  have kM4 := HW4.out.kp _ _ _ (by decide) (by decide) kM3
  have kE4 := HW4.out.kp _ _ _ (by decide) (by decide) kE3
  have HWB := Lib.hid ((wb_below hb3 (Nat.le_trans HS.out.2.1 (Nat.le_of_lt HS.out.1.lt))).trans HW4.out)
  clear hb3 kP3 kM3 kF3 kE3 HW4 HK3
  have f3 := kF4.cell 3
  have f5 := kF4.cell 5
  have f6 := kF4.cell 6
  have f7 := kF4.cell 7
  have f8 := kF4.cell 8
  have f9 := kF4.cell 9
  have f10 := kF4.cell 10
  simp only [List.getElem?_toArray, List.getElem?_cons_zero, List.getElem?_cons_succ] at f3 f5 f6 f7 f8 f9 f10
  have m19 := kM4.cell 19
  have m20 := kM4.cell 20
  have m24 := kM4.cell 24
  simp only [List.getElem?_toArray, List.getElem?_cons_zero, List.getElem?_cons_succ] at m19 m20 m24
  have k0 := kE4.cell 0
  simp only [List.getElem?_toArray, List.getElem?_cons_zero, List.getElem?_cons_succ] at k0
  clear kF4 kM4 kE4
  go_wp2_with (first
    | (with_reducible refine (num0 _ _ _ _).mono ?_; rintro e Wn ⟨rfl, rfl⟩; dsimp only))
  go_ret
  exact ⟨rfl, HS4.out, HWB.out⟩
end Go.Proofs.YtnokghnjbonmiaaGreatDoor.Tlv
