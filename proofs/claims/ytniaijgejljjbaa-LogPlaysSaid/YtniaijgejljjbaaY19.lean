/- May it be an operation? By the program: all of it. -/
import Derived.Test.YtniaijgejljjbaaY18
namespace Go.Proofs.Ytniaijgejljjbaa.Tlv
open Go.RowKit
set_option maxRecDepth 100000
set_option linter.unusedVariables false
set_option linter.unusedSimpArgs false
theorem Blk.row {w : World} {g : Nat} {t : TypeId} {old : Array Value} (h : Blk w g t old) (cs : Array Value) : Blk (w.setRow g cs) g t cs := setRow_heap w g old cs t (0, 0) h
theorem Blk.rowFar {w : World} {g k : Nat} {t : TypeId} {cs : Array Value} (h : Blk w k t cs) (hne : k ≠ g) (c : Array Value) : Blk (w.setRow g c) k t cs := (setRow_other w g k c hne).trans h
theorem Blk.there {w : World} {g : Nat} {t : TypeId} {cs : Array Value} (h : Blk w g t cs) (o n : Nat) (hn : o + n ≤ cs.size) : w.there g o n := fun j hj =>
 ⟨by rw [h.cell (o + j)]; simp; omega, h.frozen (o + j)⟩
def setMany (cs : Array Value) : Nat → List Value → Array Value
 | _, [] => cs
 | o, v :: r => setMany (cs.setIfInBounds o v) (o + 1) r
theorem Blk.many {g : Nat} {t : TypeId} : ∀ (vs : List Value) (o : Nat) (w : World) (cs : Array Value), Blk w g t cs → Blk (w.setCells g o vs) g t (setMany cs o vs)
 | [], _, _, _, h => h
 | v :: r, o, w, cs, h => by
   rw [World.setCells, setMany]
   exact Blk.many r (o + 1) _ _ (h.set_ o v)
theorem Blk.manyFar {g k : Nat} {t : TypeId} (hne : k ≠ g) : ∀ (vs : List Value) (o : Nat) (w : World) (cs : Array Value), Blk w k t cs → Blk (w.setCells g o vs) k t cs
 | [], _, _, _, h => h
 | v :: r, o, w, cs, h => by
   rw [World.setCells]
   exact Blk.manyFar hne r (o + 1) _ _ (h.far (p := ⟨g, o, none⟩) hne v)
theorem below_setCells {B g : Nat} {w0 : World} (hB : B ≤ g) : ∀ (vs : List Value) (o : Nat) (w : World), Below B w0 w → Below B w0 (w.setCells g o vs)
 | [], _, _, h => h
 | v :: r, o, w, h => by
   rw [World.setCells]
   exact below_setCells hB r (o + 1) _ (h.setCell hB v)
theorem RdP.len {w : World} {v : Value} {l : List (List UInt8)} (h : RdP w v l) : ∃ A c n, v = .slice A n c := by
 obtain ⟨A, c, e, _⟩ := h
 exact ⟨A, c, _, e⟩
theorem may_no (o : Opn) (va vp vc : Value) (w : World) (hk : isK o.k = false) : Calls Try.prog 64 #[opVal o va vp vc] w fun e w' => e = .returned (.bool false) ∧ Below w.heap.size w w' := by
 have hb : Below w.heap.size w (w.alloc (.cells (opCs o va vp vc) 40)) := (Below.refl _ _).alloc (Nat.le_refl _) _
 have HF := Lib.hid (fieldsNo o.k hk (w.alloc (.cells (opCs o va vp vc) 40)))
 have HB := Lib.hid hb
 clear hb hk
 go_enter Try.func64, Try.ntmps64
 go_upto_region 2 with (first
   | (with_reducible refine HF.out.mono ?_; rintro e w1 ⟨rfl, hb1⟩; dsimp only; have HB1 := Lib.hid (HB.out.trans (hb1.mono HB.out.size)); clear hb1)
   | (refine wpList_store_rowTo rfl 112 _ _ rfl rfl w1.heap.size fdZ rfl rfl 112 fdZ (Blk.new w1 112 fdZ) (by kernel_rfl) rfl (by kernel_rfl) ?_))
 have hb2 : Below w.heap.size w ((w1.alloc (.cells fdZ 112)).setRow w1.heap.size fdZ) := below_setRow (HB1.out.alloc HB1.out.size (.cells fdZ 112)) HB1.out.size fdZ
 generalize (w1.alloc (.cells fdZ 112)).setRow w1.heap.size fdZ = W at hb2 ⊢
 have HB2 := Lib.hid hb2
 clear hb2 HB1 HB HF
 go_wp2
 go_ret
 exact ⟨rfl, HB2.out⟩
structure MW (w : World) (o : Opn) (va vp vc : Value) (b : Nat) (W : World) : Prop where
 bel : Below w.heap.size w W
 op : Blk W w.heap.size 40 (opCs o va vp vc)
 fd : Blk W b 112 (fdCs o.k)
theorem MW.on {w : World} {o : Opn} {va vp vc : Value} {b : Nat} {W W' : World} (h : MW w o va vp vc b W) (hb : Below W.heap.size W W') : MW w o va vp vc b W' := ⟨h.bel.trans (hb.mono h.bel.size), h.op.on hb, h.fd.on hb⟩
set_option maxHeartbeats 8000000 in
theorem may_yes (o : Opn) (va vp vc : Value) (w : World) (hk : isK o.k = true) (ho : OpAt w o va vp vc) (hl : Lim o) : Calls Try.prog 64 #[opVal o va vp vc] w fun e w' => e = .returned (.bool (mayO o)) ∧ Below w.heap.size w w' := by
 obtain ⟨Aa, ca, na, rfl, _, _⟩ := rdv_len ho.a
 obtain ⟨Ap, cp, np, rfl⟩ := ho.p.len
 obtain ⟨Ac, cc, nc, rfl, _⟩ := ho.c.len
 have hb : Below w.heap.size w (w.alloc (.cells (opCs o (.slice Aa na ca) (.slice Ap np cp) (.slice Ac nc cc)) 40)) := (Below.refl _ _).alloc (Nat.le_refl _) _
 have k1 := Blk.new w 40 (opCs o (.slice Aa na ca) (.slice Ap np cp) (.slice Ac nc cc))
 have hf := fields_any o.k (w.alloc (.cells (opCs o (.slice Aa na ca) (.slice Ap np cp) (.slice Ac nc cc)) 40))
 rw [hk] at hf
 have HF := Lib.hid hf
 have HO := Lib.hid ho
 have HL := Lib.hid hl
 have HB := Lib.hid (And.intro hb k1)
 obtain ⟨t1, ht1⟩ : ∃ t, t = mayText (fN o.k) o.name := ⟨_, rfl⟩
 obtain ⟨t2, ht2⟩ : ∃ t, t = mayText (fT o.k) o.dst := ⟨_, rfl⟩
 obtain ⟨t3, ht3⟩ : ∃ t, t = mayAt o.k o.attrs := ⟨_, rfl⟩
 obtain ⟨t4, ht4⟩ : ∃ t, t = mayPt (fP o.k) o.parts := ⟨_, rfl⟩
 obtain ⟨t5, ht5⟩ : ∃ t, t = mayPg (fG o.k) o.cur o.n := ⟨_, rfl⟩
 have HT := Lib.hid (And.intro ht1 (And.intro ht2 (And.intro ht3 (And.intro ht4 ht5))))
 have hE : Hid (mayO o = (mayText (fN o.k) o.name && (mayText (fT o.k) o.dst && (mayAt o.k o.attrs && (mayPt (fP o.k) o.parts && mayPg (fG o.k) o.cur o.n))))) := Lib.hid (by unfold mayO; rw [hk]; rfl)
 rw [hE.out, ← ht1, ← ht2, ← ht3, ← ht4, ← ht5]
 clear hb k1 hf ho hl hk hE ht1 ht2 ht3 ht4 ht5
 go_enter Try.func64, Try.ntmps64
 go_upto_region 2 with (first
   | (with_reducible refine HF.out.mono ?_; rintro e w1 ⟨rfl, hb1⟩; dsimp only; have HB1 := Lib.hid (And.intro (HB.out.1.trans (hb1.mono HB.out.1.size)) (HB.out.2.on hb1)); clear hb1)
   | (refine wpList_store_rowTo rfl 112 _ _ rfl rfl w1.heap.size (fdCs o.k) rfl rfl 112 fdZ (Blk.new w1 112 fdZ) (by kernel_rfl) rfl (by kernel_rfl) ?_))
 have hb2 : Below w.heap.size w ((w1.alloc (.cells fdZ 112)).setRow w1.heap.size (fdCs o.k)) := below_setRow (HB1.out.1.alloc HB1.out.1.size (.cells fdZ 112)) HB1.out.1.size (fdCs o.k)
 have k2 : Blk ((w1.alloc (.cells fdZ 112)).setRow w1.heap.size (fdCs o.k)) w.heap.size 40 (opCs o (.slice Aa na ca) (.slice Ap np cp) (.slice Ac nc cc)) := (HB1.out.2.alloc (.cells fdZ 112)).rowFar (by have := HB1.out.2.lt; omega) (fdCs o.k)
 have k3 : Blk ((w1.alloc (.cells fdZ 112)).setRow w1.heap.size (fdCs o.k)) w1.heap.size 112 (fdCs o.k) := (Blk.new w1 112 fdZ).row (fdCs o.k)
 obtain ⟨b, hbb⟩ : ∃ b, b = w1.heap.size := ⟨_, rfl⟩
 have HW := Lib.hid (MW.mk hb2 k2 k3)
 rw [← hbb] at HW ⊢
 generalize (w1.alloc (.cells fdZ 112)).setRow b (fdCs o.k) = W at HW ⊢
 clear hb2 k2 k3 hbb HB1 HB HF
 have T1 := Lib.hid (mayText_any (fN o.k) o.name W HL.out.ln)
 have T2 := Lib.hid (mayText_any (fT o.k) o.dst W HL.out.lt)
 have T3 := Lib.hid (mayAttrs_o o (.slice Aa na ca) (.slice Ap np cp) (.slice Ac nc cc) W (HO.out.on HW.out.bel).a HL.out.sa HL.out.la)
 have T4 := Lib.hid fun X (hb : Below W.heap.size W X) => mayParts_any (fP o.k) o.parts (.slice Ap np cp) X ((HO.out.on HW.out.bel).on hb).p HL.out.lp HL.out.sp
 have T5 := Lib.hid fun X (hb : Below W.heap.size W X) => mayPage_any (fG o.k) o (.slice Aa na ca) (.slice Ap np cp) (.slice Ac nc cc) X ((HO.out.on HW.out.bel).on hb).c
 rw [← HT.out.1] at T1
 rw [← HT.out.2.1] at T2
 rw [← HT.out.2.2.1] at T3
 rw [← HT.out.2.2.2.1] at T4
 rw [← HT.out.2.2.2.2] at T5
 have f0 := HW.out.fd.cell 0
 have f1 := HW.out.fd.cell 1
 have o0 := HW.out.op.cell 0
 have o1 := HW.out.op.cell 1
 have o2 := HW.out.op.cell 2
 have o3 := HW.out.op.cell 3
 have o4 := HW.out.op.cell 4
 have o5 := HW.out.op.cell 5
 have o6 := HW.out.op.cell 6
 simp only [List.getElem?_toArray, List.getElem?_cons_zero, List.getElem?_cons_succ] at f0 f1 o0 o1 o2 o3 o4 o5 o6
 cases t1 with
 | false =>
   go_wp2_with (first | ((with_reducible refine T1.out.mono ?_); rintro e wx ⟨rfl, rfl⟩))
   go_ret
   exact ⟨rfl, HW.out.bel⟩
 | true =>
   cases t2 with
   | false =>
     go_wp2_with (first | ((with_reducible refine T1.out.mono ?_); rintro e wx ⟨rfl, rfl⟩) | ((with_reducible refine T2.out.mono ?_); rintro e wx ⟨rfl, rfl⟩))
     go_ret
     exact ⟨rfl, HW.out.bel⟩
   | true =>
     cases t3 with
     | false =>
       go_wp2_with (first | ((with_reducible refine T1.out.mono ?_); rintro e wx ⟨rfl, rfl⟩) | ((with_reducible refine T2.out.mono ?_); rintro e wx ⟨rfl, rfl⟩) | ((with_reducible refine T3.out.mono ?_); rintro e w3 ⟨rfl, hb3⟩; have HW3 := Lib.hid (HW.out.on hb3); have P4 := Lib.hid (T4.out _ hb3); have P5 := Lib.hid (T5.out _ hb3); have g3 : w3.cell? ⟨b, 3, none⟩ = some (.bool (fP o.k)) := HW3.out.fd.cell 3; have g4 : w3.cell? ⟨b, 4, none⟩ = some (.bool (fG o.k)) := HW3.out.fd.cell 4; clear o0 o1 o2 o3 o4 o5 o6 f0 f1; have p0 : w3.cell? ⟨w.heap.size, 0, none⟩ = some (.int .i64 o.k) := HW3.out.op.cell 0; have p1 : w3.cell? ⟨w.heap.size, 1, none⟩ = some (.string (sx o.name)) := HW3.out.op.cell 1; have p2 : w3.cell? ⟨w.heap.size, 2, none⟩ = some (.string (sx o.dst)) := HW3.out.op.cell 2; have p3 : w3.cell? ⟨w.heap.size, 3, none⟩ = some (.slice Aa na ca) := HW3.out.op.cell 3; have p4 : w3.cell? ⟨w.heap.size, 4, none⟩ = some (.slice Ap np cp) := HW3.out.op.cell 4; have p5 : w3.cell? ⟨w.heap.size, 5, none⟩ = some (.slice Ac nc cc) := HW3.out.op.cell 5; have p6 : w3.cell? ⟨w.heap.size, 6, none⟩ = some (.int .i64 o.n) := HW3.out.op.cell 6; clear hb3))
       go_ret
       exact ⟨rfl, HW3.out.bel⟩
     | true =>
       cases t4 with
       | false =>
         go_wp2_with (first | ((with_reducible refine T1.out.mono ?_); rintro e wx ⟨rfl, rfl⟩) | ((with_reducible refine T2.out.mono ?_); rintro e wx ⟨rfl, rfl⟩) | ((with_reducible refine T3.out.mono ?_); rintro e w3 ⟨rfl, hb3⟩; have HW3 := Lib.hid (HW.out.on hb3); have P4 := Lib.hid (T4.out _ hb3); have P5 := Lib.hid (T5.out _ hb3); have g3 : w3.cell? ⟨b, 3, none⟩ = some (.bool (fP o.k)) := HW3.out.fd.cell 3; have g4 : w3.cell? ⟨b, 4, none⟩ = some (.bool (fG o.k)) := HW3.out.fd.cell 4; clear o0 o1 o2 o3 o4 o5 o6 f0 f1; have p0 : w3.cell? ⟨w.heap.size, 0, none⟩ = some (.int .i64 o.k) := HW3.out.op.cell 0; have p1 : w3.cell? ⟨w.heap.size, 1, none⟩ = some (.string (sx o.name)) := HW3.out.op.cell 1; have p2 : w3.cell? ⟨w.heap.size, 2, none⟩ = some (.string (sx o.dst)) := HW3.out.op.cell 2; have p3 : w3.cell? ⟨w.heap.size, 3, none⟩ = some (.slice Aa na ca) := HW3.out.op.cell 3; have p4 : w3.cell? ⟨w.heap.size, 4, none⟩ = some (.slice Ap np cp) := HW3.out.op.cell 4; have p5 : w3.cell? ⟨w.heap.size, 5, none⟩ = some (.slice Ac nc cc) := HW3.out.op.cell 5; have p6 : w3.cell? ⟨w.heap.size, 6, none⟩ = some (.int .i64 o.n) := HW3.out.op.cell 6; clear hb3) | ((with_reducible refine P4.out.mono ?_); rintro e wx ⟨rfl, rfl⟩))
         go_ret
         exact ⟨rfl, HW3.out.bel⟩
       | true =>
         cases t5 with
         | false =>
           go_wp2_with (first | ((with_reducible refine T1.out.mono ?_); rintro e wx ⟨rfl, rfl⟩) | ((with_reducible refine T2.out.mono ?_); rintro e wx ⟨rfl, rfl⟩) | ((with_reducible refine T3.out.mono ?_); rintro e w3 ⟨rfl, hb3⟩; have HW3 := Lib.hid (HW.out.on hb3); have P4 := Lib.hid (T4.out _ hb3); have P5 := Lib.hid (T5.out _ hb3); have g3 : w3.cell? ⟨b, 3, none⟩ = some (.bool (fP o.k)) := HW3.out.fd.cell 3; have g4 : w3.cell? ⟨b, 4, none⟩ = some (.bool (fG o.k)) := HW3.out.fd.cell 4; clear o0 o1 o2 o3 o4 o5 o6 f0 f1; have p0 : w3.cell? ⟨w.heap.size, 0, none⟩ = some (.int .i64 o.k) := HW3.out.op.cell 0; have p1 : w3.cell? ⟨w.heap.size, 1, none⟩ = some (.string (sx o.name)) := HW3.out.op.cell 1; have p2 : w3.cell? ⟨w.heap.size, 2, none⟩ = some (.string (sx o.dst)) := HW3.out.op.cell 2; have p3 : w3.cell? ⟨w.heap.size, 3, none⟩ = some (.slice Aa na ca) := HW3.out.op.cell 3; have p4 : w3.cell? ⟨w.heap.size, 4, none⟩ = some (.slice Ap np cp) := HW3.out.op.cell 4; have p5 : w3.cell? ⟨w.heap.size, 5, none⟩ = some (.slice Ac nc cc) := HW3.out.op.cell 5; have p6 : w3.cell? ⟨w.heap.size, 6, none⟩ = some (.int .i64 o.n) := HW3.out.op.cell 6; clear hb3) | ((with_reducible refine P4.out.mono ?_); rintro e wx ⟨rfl, rfl⟩) | ((with_reducible refine P5.out.mono ?_); rintro e w5 ⟨rfl, hb5⟩; have HW5 := Lib.hid (HW3.out.on hb5); clear hb5))
           go_ret
           exact ⟨rfl, HW5.out.bel⟩
         | true =>
           go_wp2_with (first | ((with_reducible refine T1.out.mono ?_); rintro e wx ⟨rfl, rfl⟩) | ((with_reducible refine T2.out.mono ?_); rintro e wx ⟨rfl, rfl⟩) | ((with_reducible refine T3.out.mono ?_); rintro e w3 ⟨rfl, hb3⟩; have HW3 := Lib.hid (HW.out.on hb3); have P4 := Lib.hid (T4.out _ hb3); have P5 := Lib.hid (T5.out _ hb3); have g3 : w3.cell? ⟨b, 3, none⟩ = some (.bool (fP o.k)) := HW3.out.fd.cell 3; have g4 : w3.cell? ⟨b, 4, none⟩ = some (.bool (fG o.k)) := HW3.out.fd.cell 4; clear o0 o1 o2 o3 o4 o5 o6 f0 f1; have p0 : w3.cell? ⟨w.heap.size, 0, none⟩ = some (.int .i64 o.k) := HW3.out.op.cell 0; have p1 : w3.cell? ⟨w.heap.size, 1, none⟩ = some (.string (sx o.name)) := HW3.out.op.cell 1; have p2 : w3.cell? ⟨w.heap.size, 2, none⟩ = some (.string (sx o.dst)) := HW3.out.op.cell 2; have p3 : w3.cell? ⟨w.heap.size, 3, none⟩ = some (.slice Aa na ca) := HW3.out.op.cell 3; have p4 : w3.cell? ⟨w.heap.size, 4, none⟩ = some (.slice Ap np cp) := HW3.out.op.cell 4; have p5 : w3.cell? ⟨w.heap.size, 5, none⟩ = some (.slice Ac nc cc) := HW3.out.op.cell 5; have p6 : w3.cell? ⟨w.heap.size, 6, none⟩ = some (.int .i64 o.n) := HW3.out.op.cell 6; clear hb3) | ((with_reducible refine P4.out.mono ?_); rintro e wx ⟨rfl, rfl⟩) | ((with_reducible refine P5.out.mono ?_); rintro e w5 ⟨rfl, hb5⟩; have HW5 := Lib.hid (HW3.out.on hb5); clear hb5))
           go_ret
           exact ⟨rfl, HW5.out.bel⟩
theorem mayOp_any (o : Opn) (va vp vc : Value) (w : World) (ho : OpAt w o va vp vc) (hl : Lim o) : Calls Try.prog 64 #[opVal o va vp vc] w fun e w' => e = .returned (.bool (mayO o)) ∧ Below w.heap.size w w' := by
 cases hk : isK o.k with
 | false =>
   have : mayO o = false := by unfold mayO; rw [hk]; rfl
   rw [this]
   exact may_no o va vp vc w hk
 | true => exact may_yes o va vp vc w hk ho hl
end Go.Proofs.Ytniaijgejljjbaa.Tlv
