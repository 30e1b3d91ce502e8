/- May it be an operation? By the program. -/
import Derived.Test.YtniaijgejljjbaaGreatY15
namespace Go.Proofs.YtniaijgejljjbaaGreat.Tlv
open Go.RowKit
set_option maxRecDepth 100000
set_option linter.unusedVariables false
set_option linter.unusedSimpArgs false
abbrev opVal (o : Opn) (va vp vc : Value) : Value := .agg (opCs o va vp vc)
theorem mayParts_any (b : Bool) (l : List (List UInt8)) (v : Value) (w : World) (hv : RdP w v l) (hl : l.length ≤ 1000000) (hs : ∀ s ∈ l, s.length ≤ 9223372036854775807) :
   Calls Tryz.prog 75 #[.bool b, v] w fun e w' => e = .returned (.bool (mayPt b l)) ∧ w = w' := by
 obtain ⟨A, c, rfl, _, hr⟩ := hv
 have HC := Lib.hid (conP_any l A c w hr hl hs)
 obtain ⟨n, hn⟩ : ∃ n, n = l.length := ⟨_, rfl⟩
 rw [← hn] at HC hl ⊢
 have HN := Lib.hid hn
 clear hr hs hn
 cases b with
 | false =>
   have hE : Hid (mayPt false l = decide (n = 0)) := Lib.hid (by unfold mayPt; rw [HN.out]; cases l <;> simp)
   by_cases h0 : n = 0
   · subst h0
     go_enter Tryz.func75, Tryz.ntmps75
     go_wp2
     go_ret
     exact ⟨by rw [hE.out]; rfl, rfl⟩
   · have h1 : ((n : Int) == 0) = false := by simpa using h0
     go_enter Tryz.func75, Tryz.ntmps75
     go_wp2
     go_ret
     exact ⟨by rw [hE.out]; simp [h0], rfl⟩
 | true =>
   by_cases h8 : n ≤ 8
   · have hE : Hid (mayPt true l = !(!(l.all mayN))) := Lib.hid (by unfold mayPt; rw [← HN.out]; simp [h8])
     generalize (!(l.all mayN)) = p at HC hE
     go_enter Tryz.func75, Tryz.ntmps75
     go_wp2_with ((with_reducible refine HC.out.mono ?_); rintro e w1 ⟨rfl, rfl⟩)
     go_ret
     exact ⟨by rw [hE.out]; rfl, rfl⟩
   · have hE : Hid (mayPt true l = false) := Lib.hid (by unfold mayPt; rw [← HN.out]; simp; intro h; omega)
     have h9 : decide ((n : Int) ≤ 8) = false := by simp; omega
     go_enter Tryz.func75, Tryz.ntmps75
     go_wp2_with fail
     go_ret
     exact ⟨by (rw [hE.out]; first | rfl | (simp; done) | (simp; omega)), rfl⟩
theorem RdC.len {w : World} {v : Value} {l : List Int} (h : RdC w v l) : ∃ A c n, v = .slice A n c ∧ Hid (n = l.length) := by
 obtain ⟨A, c, e, _⟩ := h
 exact ⟨A, c, _, e, Lib.hid rfl⟩
theorem mayPage_any (b : Bool) (o : Opn) (va vp vc : Value) (w : World) (hc : RdC w vc o.cur) :
   Calls Tryz.prog 76 #[.bool b, opVal o va vp vc] w fun e w' => e = .returned (.bool (mayPg b o.cur o.n)) ∧ Below w.heap.size w w' := by
 obtain ⟨A, c, n, rfl, HN⟩ := hc.len
 have hE : Hid (mayPg b o.cur o.n = if b = true then decide (n ≤ 4000) && (decide (0 ≤ o.n) && decide (o.n ≤ 1000)) else decide (n = 0) && decide (o.n = 0)) := Lib.hid (by
   unfold mayPg
   rw [HN.out]
   cases o.cur <;> simp)
 clear hc HN
 have hb : Below w.heap.size w (w.alloc (.cells (opCs o va vp (.slice A n c)) 44)) := (Below.refl _ _).alloc (Nat.le_refl _) _
 obtain ⟨k, name, dst, attrs, parts, cur, m⟩ := o
 dsimp only at *
 rw [hE.out]
 have HB := Lib.hid hb
 clear hb hE
 cases b with
 | false =>
   by_cases h0 : n = 0
   · subst h0
     by_cases h1 : m = 0
     · subst h1
       go_enter Tryz.func76, Tryz.ntmps76
       go_wp2
       go_ret
       exact ⟨rfl, HB.out⟩
     · have h2 : (m == 0) = false := by simpa using h1
       go_enter Tryz.func76, Tryz.ntmps76
       go_wp2
       go_ret
       exact ⟨by (first | rfl | (simp [h1]; done) | (simp [h1]; omega)), HB.out⟩
   · have h1 : ((n : Int) == 0) = false := by simpa using h0
     go_enter Tryz.func76, Tryz.ntmps76
     go_wp2
     go_ret
     exact ⟨by (first | rfl | (simp [h0]; done) | (simp [h0]; omega)), HB.out⟩
 | true =>
   by_cases h0 : n ≤ 4000
   · by_cases h1 : 0 ≤ m
     · by_cases h2 : m ≤ 1000
       · go_enter Tryz.func76, Tryz.ntmps76
         go_wp2
         go_ret
         exact ⟨by (first | rfl | (simp [h0, h1, h2]; done) | (simp [h0, h1, h2]; omega)), HB.out⟩
       · have h3 : decide (m ≤ 1000) = false := by simpa using h2
         go_enter Tryz.func76, Tryz.ntmps76
         go_wp2
         go_ret
         exact ⟨by (first | rfl | (simp [h0, h1, h2]; done) | (simp [h0, h1, h2]; omega)), HB.out⟩
     · have h3 : decide (0 ≤ m) = false := by simpa using h1
       go_enter Tryz.func76, Tryz.ntmps76
       go_wp2
       go_ret
       exact ⟨by (first | rfl | (simp [h0, h1]; done) | (simp [h0, h1]; omega)), HB.out⟩
   · have h1 : decide ((n : Int) ≤ 4000) = false := by simp; omega
     go_enter Tryz.func76, Tryz.ntmps76
     go_wp2
     go_ret
     exact ⟨by (first | rfl | (simp [h0]; done) | (simp [h0]; omega)), HB.out⟩
theorem rdv_len {w : World} {v : Value} {l : List At} (h : YtniaijgejljjbaaGreat.RdV w v l) : ∃ A c n, v = .slice A n c ∧ Hid (n = l.length) ∧ YtniaijgejljjbaaGreat.RdK kA w w.heap.size A l := by
 obtain ⟨A, c, e, _, h1⟩ := h
 exact ⟨A, c, _, e, Lib.hid rfl, h1⟩
set_option maxHeartbeats 2000000 in
theorem mayAttrs_o (o : Opn) (va vp vc : Value) (w : World) (hv : YtniaijgejljjbaaGreat.RdV w va o.attrs) (hs : YtniaijgejljjbaaGreat.Sm o.attrs) (hl : o.attrs.length ≤ 1000000) :
   Calls Tryz.prog 74 #[opVal o va vp vc] w fun e w' => e = .returned (.bool (mayAt o.k o.attrs)) ∧ Below w.heap.size w w' := by
 obtain ⟨A, c, n, rfl, HN, hr⟩ := rdv_len hv
 have hb : Below w.heap.size w (w.alloc (.cells (opCs o (.slice A n c) vp vc) 44)) := (Below.refl _ _).alloc (Nat.le_refl _) _
 have hMA := YtniaijgejljjbaaGreat.mayAttrs_any o.attrs (.slice A n c) _ (YtniaijgejljjbaaGreat.RdV.on hv hb) hs hl
 have hCA := conA_any o.attrs A c _ (YtniaijgejljjbaaGreat.RdK.on hr hb) hl hs
 rw [← HN.out] at hCA
 have HMA := Lib.hid hMA
 have HCA := Lib.hid hCA
 have HR := Lib.hid hr
 have HS := Lib.hid hs
 obtain ⟨k, name, dst, attrs, parts, cur, m⟩ := o
 dsimp only at *
 have HB := Lib.hid hb
 clear hb hv hs hMA hCA hr
 by_cases h1 : k = 1
 · subst h1
   have hE : Hid (mayAt 1 attrs = mayL attrs) := Lib.hid rfl
   rw [hE.out]
   generalize mayL attrs = p at HMA
   clear HCA hE
   go_enter Tryz.func74, Tryz.ntmps74
   go_wp2_with ((with_reducible refine HMA.out.mono ?_); rintro e w1 ⟨rfl, hb1⟩; have HB1 := Lib.hid (HB.out.trans (hb1.mono HB.out.size)); clear hb1)
   go_ret
   exact ⟨rfl, HB1.out⟩
 · have g1 : (k == 1) = false := by simpa using h1
   by_cases h3 : k = 3
   · subst h3
     by_cases h50 : n ≤ 50
     · have hE : Hid (mayAt 3 attrs = !(!(attrs.all mayA))) := Lib.hid (by unfold mayAt; rw [← HN.out]; simp [h50])
       rw [hE.out]
       generalize (!(attrs.all mayA)) = p at HCA
       clear HMA hE g1 h1
       go_enter Tryz.func74, Tryz.ntmps74
       go_wp2_with ((with_reducible refine HCA.out.mono ?_); rintro e w1 ⟨rfl, hb1⟩; have HB1 := Lib.hid (HB.out.trans (hb1.mono HB.out.size)); clear hb1)
       go_ret
       exact ⟨rfl, HB1.out⟩
     · have hE : Hid (mayAt 3 attrs = false) := Lib.hid (by unfold mayAt; rw [← HN.out]; simp; intro h; omega)
       rw [hE.out]
       have h9 : decide ((n : Int) ≤ 50) = false := by simp; omega
       clear HMA HCA hE g1 h1
       go_enter Tryz.func74, Tryz.ntmps74
       go_wp2_with fail
       go_ret
       exact ⟨by (first | rfl | (simp; done) | (simp; omega)), HB.out⟩
   · have g3 : (k == 3) = false := by simpa using h3
     by_cases h5 : k = 5
     · subst h5
       by_cases hn1 : n = 1
       · subst hn1
         obtain ⟨x, hx⟩ : ∃ x, attrs = [x] := by
           have := HN.out
           cases attrs with
           | nil => simp at this
           | cons x t => cases t with
             | nil => exact ⟨x, rfl⟩
             | cons y t => simp at this
         subst hx
         have hE : Hid (mayAt 5 [x] = mayA x) := Lib.hid (by unfold mayAt; simp)
         obtain ⟨b, off, rfl, hlt, c0, c1⟩ := YtniaijgejljjbaaGreat.at_cells HR.out HB.out (show 0 < [x].length by simp)
         have HMX := Lib.hid (YtniaijgejljjbaaGreat.mayAttr_any x (w.alloc (.cells (opCs ⟨5, name, dst, [x], parts, cur, m⟩ (.slice (some ⟨b, off, none⟩) 1 c) vp vc) 44)) (HS.out x (by simp)).1 (HS.out x (by simp)).2)
         simp only [Nat.zero_mul, Nat.add_zero, List.getD_cons_zero] at c0 c1
         rw [hE.out]
         generalize mayA x = p at HMX
         clear HMA HCA hE g1 g3 h1 h3 HR HS
         go_enter Tryz.func74, Tryz.ntmps74
         go_wp2_with ((with_reducible refine HMX.out.mono ?_); rintro e w1 ⟨rfl, hb1⟩; have HB1 := Lib.hid (HB.out.trans (hb1.mono HB.out.size)); clear hb1)
         go_ret
         exact ⟨rfl, HB1.out⟩
       · have hE : Hid (mayAt 5 attrs = false) := Lib.hid (by unfold mayAt; rw [← HN.out]; simp [hn1])
         rw [hE.out]
         have h9 : ((n : Int) == 1) = false := by simp; omega
         clear HMA HCA hE g1 g3 h1 h3
         go_enter Tryz.func74, Tryz.ntmps74
         go_wp2_with fail
         go_ret
         exact ⟨by (first | rfl | (simp; done) | (simp; omega)), HB.out⟩
     · have g5 : (k == 5) = false := by simpa using h5
       have hE : Hid (mayAt k attrs = decide (n = 0)) := Lib.hid (by unfold mayAt; rw [if_neg h1, if_neg h3, if_neg h5, HN.out]; cases attrs <;> simp)
       rw [hE.out]
       clear HMA HCA hE HR HS
       by_cases hn0 : n = 0
       · subst hn0
         go_enter Tryz.func74, Tryz.ntmps74
         go_wp2_with fail
         go_ret
         exact ⟨rfl, HB.out⟩
       · have h9 : ((n : Int) == 0) = false := by simpa using hn0
         go_enter Tryz.func74, Tryz.ntmps74
         go_wp2_with fail
         go_ret
         exact ⟨by (first | rfl | (simp [hn0]; done) | (simp [hn0]; omega)), HB.out⟩
theorem Blk.row {w : World} {g : Nat} {t : TypeId} {old : Array Value} (h : Blk w g t old) (cs : Array Value) : Blk (w.setRow g cs) g t cs := setRow_heap w g old cs t (0, 0) h
theorem Blk.rowFar {w : World} {g k : Nat} {t : TypeId} {cs : Array Value} (h : Blk w k t cs) (hne : k ≠ g) (c : Array Value) : Blk (w.setRow g c) k t cs := (setRow_other w g k c hne).trans h
theorem Blk.there {w : World} {g : Nat} {t : TypeId} {cs : Array Value} (h : Blk w g t cs) (o n : Nat) (hn : o + n ≤ cs.size) : w.there g o n := fun j hj =>
 ⟨by rw [h.cell (o + j)]; simp; omega, h.frozen (o + j)⟩
def setMany (cs : Array Value) : Nat → List Value → Array Value
 | _, [] => cs
 | o, v :: r => setMany (cs.setIfInBounds o v) (o + 1) r
theorem Blk.many {g : Nat} {t : TypeId} : ∀ (vs : List Value) (o : Nat) (w : World) (cs : Array Value), Blk w g t cs → Blk (w.setCells g o vs) g t (setMany cs o vs)
 | [], _, _, _, h => h
 | v :: r, o, w, cs, h => by
   rw [World.setCells, setMany]
   exact Blk.many r (o + 1) _ _ (h.set_ o v)
theorem Blk.manyFar {g k : Nat} {t : TypeId} (hne : k ≠ g) : ∀ (vs : List Value) (o : Nat) (w : World) (cs : Array Value), Blk w k t cs → Blk (w.setCells g o vs) k t cs
 | [], _, _, _, h => h
 | v :: r, o, w, cs, h => by
   rw [World.setCells]
   exact Blk.manyFar hne r (o + 1) _ _ (h.far (p := ⟨g, o, none⟩) hne v)
theorem below_setCells {B g : Nat} {w0 : World} (hB : B ≤ g) : ∀ (vs : List Value) (o : Nat) (w : World), Below B w0 w → Below B w0 (w.setCells g o vs)
 | [], _, _, h => h
 | v :: r, o, w, h => by
   rw [World.setCells]
   exact below_setCells hB r (o + 1) _ (h.setCell hB v)
theorem RdP.len {w : World} {v : Value} {l : List (List UInt8)} (h : RdP w v l) : ∃ A c n, v = .slice A n c := by
 obtain ⟨A, c, e, _⟩ := h
 exact ⟨A, c, _, e⟩
theorem may_no (o : Opn) (va vp vc : Value) (w : World) (hk : isK o.k = false) : Calls Tryz.prog 62 #[opVal o va vp vc] w fun e w' => e = .returned (.bool false) ∧ Below w.heap.size w w' := by
 have hb : Below w.heap.size w (w.alloc (.cells (opCs o va vp vc) 44)) := (Below.refl _ _).alloc (Nat.le_refl _) _
 have HF := Lib.hid (fieldsNo o.k hk (w.alloc (.cells (opCs o va vp vc) 44)))
 have HB := Lib.hid hb
 clear hb hk
 go_enter Tryz.func62, Tryz.ntmps62
 go_upto_region 2 with (first
   | (with_reducible refine HF.out.mono ?_; rintro e w1 ⟨rfl, hb1⟩; dsimp only; have HB1 := Lib.hid (HB.out.trans (hb1.mono HB.out.size)); clear hb1)
   | (refine wpList_store_rowTo rfl 111 _ _ rfl rfl w1.heap.size fdZ rfl rfl 111 fdZ (Blk.new w1 111 fdZ) (by kernel_rfl) rfl (by kernel_rfl) ?_))
 have hb2 : Below w.heap.size w ((w1.alloc (.cells fdZ 111)).setRow w1.heap.size fdZ) := below_setRow (HB1.out.alloc HB1.out.size (.cells fdZ 111)) HB1.out.size fdZ
 generalize (w1.alloc (.cells fdZ 111)).setRow w1.heap.size fdZ = W at hb2 ⊢
 have HB2 := Lib.hid hb2
 clear hb2 HB1 HB HF
 go_wp2
 go_ret
 exact ⟨rfl, HB2.out⟩
structure MW (w : World) (o : Opn) (va vp vc : Value) (b : Nat) (W : World) : Prop where
 bel : Below w.heap.size w W
 op : Blk W w.heap.size 44 (opCs o va vp vc)
 fd : Blk W b 111 (fdCs o.k)
theorem MW.on {w : World} {o : Opn} {va vp vc : Value} {b : Nat} {W W' : World} (h : MW w o va vp vc b W) (hb : Below W.heap.size W W') : MW w o va vp vc b W' := ⟨h.bel.trans (hb.mono h.bel.size), h.op.on hb, h.fd.on hb⟩
set_option maxHeartbeats 8000000 in
theorem may_yes (o : Opn) (va vp vc : Value) (w : World) (hk : isK o.k = true) (ho : OpAt w o va vp vc) (hl : Lim o) : Calls Tryz.prog 62 #[opVal o va vp vc] w fun e w' => e = .returned (.bool (mayO o)) ∧ Below w.heap.size w w' := by
 obtain ⟨Aa, ca, na, rfl, _, _⟩ := rdv_len ho.a
 obtain ⟨Ap, cp, np, rfl⟩ := ho.p.len
 obtain ⟨Ac, cc, nc, rfl, _⟩ := ho.c.len
 have hb : Below w.heap.size w (w.alloc (.cells (opCs o (.slice Aa na ca) (.slice Ap np cp) (.slice Ac nc cc)) 44)) := (Below.refl _ _).alloc (Nat.le_refl _) _
 have k1 := Blk.new w 44 (opCs o (.slice Aa na ca) (.slice Ap np cp) (.slice Ac nc cc))
 have hf := fields_any o.k (w.alloc (.cells (opCs o (.slice Aa na ca) (.slice Ap np cp) (.slice Ac nc cc)) 44))
 rw [hk] at hf
 have HF := Lib.hid hf
 have HO := Lib.hid ho
 have HL := Lib.hid hl
 have HB := Lib.hid (And.intro hb k1)
 obtain ⟨t1, ht1⟩ : ∃ t, t = mayText (fN o.k) o.name := ⟨_, rfl⟩
 obtain ⟨t2, ht2⟩ : ∃ t, t = mayText (fT o.k) o.dst := ⟨_, rfl⟩
 obtain ⟨t3, ht3⟩ : ∃ t, t = mayAt o.k o.attrs := ⟨_, rfl⟩
 obtain ⟨t4, ht4⟩ : ∃ t, t = mayPt (fP o.k) o.parts := ⟨_, rfl⟩
 obtain ⟨t5, ht5⟩ : ∃ t, t = mayPg (fG o.k) o.cur o.n := ⟨_, rfl⟩
 have HT := Lib.hid (And.intro ht1 (And.intro ht2 (And.intro ht3 (And.intro ht4 ht5))))
 have hE : Hid (mayO o = (mayText (fN o.k) o.name && (mayText (fT o.k) o.dst && (mayAt o.k o.attrs && (mayPt (fP o.k) o.parts && mayPg (fG o.k) o.cur o.n))))) := Lib.hid (by unfold mayO; rw [hk]; rfl)
 rw [hE.out, ← ht1, ← ht2, ← ht3, ← ht4, ← ht5]
 clear hb k1 hf ho hl hk hE ht1 ht2 ht3 ht4 ht5
 go_enter Tryz.func62, Tryz.ntmps62
 go_upto_region 2 with (first
   | (with_reducible refine HF.out.mono ?_; rintro e w1 ⟨rfl, hb1⟩; dsimp only; have HB1 := Lib.hid (And.intro (HB.out.1.trans (hb1.mono HB.out.1.size)) (HB.out.2.on hb1)); clear hb1)
   | (refine wpList_store_rowTo rfl 111 _ _ rfl rfl w1.heap.size (fdCs o.k) rfl rfl 111 fdZ (Blk.new w1 111 fdZ) (by kernel_rfl) rfl (by kernel_rfl) ?_))
 have hb2 : Below w.heap.size w ((w1.alloc (.cells fdZ 111)).setRow w1.heap.size (fdCs o.k)) := below_setRow (HB1.out.1.alloc HB1.out.1.size (.cells fdZ 111)) HB1.out.1.size (fdCs o.k)
 have k2 : Blk ((w1.alloc (.cells fdZ 111)).setRow w1.heap.size (fdCs o.k)) w.heap.size 44 (opCs o (.slice Aa na ca) (.slice Ap np cp) (.slice Ac nc cc)) := (HB1.out.2.alloc (.cells fdZ 111)).rowFar (by have := HB1.out.2.lt; omega) (fdCs o.k)
 have k3 : Blk ((w1.alloc (.cells fdZ 111)).setRow w1.heap.size (fdCs o.k)) w1.heap.size 111 (fdCs o.k) := (Blk.new w1 111 fdZ).row (fdCs o.k)
 obtain ⟨b, hbb⟩ : ∃ b, b = w1.heap.size := ⟨_, rfl⟩
 have HW := Lib.hid (MW.mk hb2 k2 k3)
 rw [← hbb] at HW ⊢
 generalize (w1.alloc (.cells fdZ 111)).setRow b (fdCs o.k) = W at HW ⊢
 clear hb2 k2 k3 hbb HB1 HB HF
 have T1 := Lib.hid (mayText_any (fN o.k) o.name W HL.out.ln)
 have T2 := Lib.hid (mayText_any (fT o.k) o.dst W HL.out.lt)
 have T3 := Lib.hid (mayAttrs_o o (.slice Aa na ca) (.slice Ap np cp) (.slice Ac nc cc) W (HO.out.on HW.out.bel).a HL.out.sa HL.out.la)
 have T4 := Lib.hid fun X (hb : Below W.heap.size W X) => mayParts_any (fP o.k) o.parts (.slice Ap np cp) X ((HO.out.on HW.out.bel).on hb).p HL.out.lp HL.out.sp
 have T5 := Lib.hid fun X (hb : Below W.heap.size W X) => mayPage_any (fG o.k) o (.slice Aa na ca) (.slice Ap np cp) (.slice Ac nc cc) X ((HO.out.on HW.out.bel).on hb).c
 rw [← HT.out.1] at T1
 rw [← HT.out.2.1] at T2
 rw [← HT.out.2.2.1] at T3
 rw [← HT.out.2.2.2.1] at T4
 rw [← HT.out.2.2.2.2] at T5
 have f0 := HW.out.fd.cell 0
 have f1 := HW.out.fd.cell 1
 have o0 := HW.out.op.cell 0
 have o1 := HW.out.op.cell 1
 have o2 := HW.out.op.cell 2
 have o3 := HW.out.op.cell 3
 have o4 := HW.out.op.cell 4
 have o5 := HW.out.op.cell 5
 have o6 := HW.out.op.cell 6
 simp only [List.getElem?_toArray, List.getElem?_cons_zero, List.getElem?_cons_succ] at f0 f1 o0 o1 o2 o3 o4 o5 o6
 cases t1 with
 | false =>
   go_wp2_with (first | ((with_reducible refine T1.out.mono ?_); rintro e wx ⟨rfl, rfl⟩))
   go_ret
   exact ⟨rfl, HW.out.bel⟩
 | true =>
   cases t2 with
   | false =>
     go_wp2_with (first | ((with_reducible refine T1.out.mono ?_); rintro e wx ⟨rfl, rfl⟩) | ((with_reducible refine T2.out.mono ?_); rintro e wx ⟨rfl, rfl⟩))
     go_ret
     exact ⟨rfl, HW.out.bel⟩
   | true =>
     cases t3 with
     | false =>
       go_wp2_with (first | ((with_reducible refine T1.out.mono ?_); rintro e wx ⟨rfl, rfl⟩) | ((with_reducible refine T2.out.mono ?_); rintro e wx ⟨rfl, rfl⟩) | ((with_reducible refine T3.out.mono ?_); rintro e w3 ⟨rfl, hb3⟩; have HW3 := Lib.hid (HW.out.on hb3); have P4 := Lib.hid (T4.out _ hb3); have P5 := Lib.hid (T5.out _ hb3); have g3 : w3.cell? ⟨b, 3, none⟩ = some (.bool (fP o.k)) := HW3.out.fd.cell 3; have g4 : w3.cell? ⟨b, 4, none⟩ = some (.bool (fG o.k)) := HW3.out.fd.cell 4; clear o0 o1 o2 o3 o4 o5 o6 f0 f1; have p0 : w3.cell? ⟨w.heap.size, 0, none⟩ = some (.int .i64 o.k) := HW3.out.op.cell 0; have p1 : w3.cell? ⟨w.heap.size, 1, none⟩ = some (.string (sx o.name)) := HW3.out.op.cell 1; have p2 : w3.cell? ⟨w.heap.size, 2, none⟩ = some (.string (sx o.dst)) := HW3.out.op.cell 2; have p3 : w3.cell? ⟨w.heap.size, 3, none⟩ = some (.slice Aa na ca) := HW3.out.op.cell 3; have p4 : w3.cell? ⟨w.heap.size, 4, none⟩ = some (.slice Ap np cp) := HW3.out.op.cell 4; have p5 : w3.cell? ⟨w.heap.size, 5, none⟩ = some (.slice Ac nc cc) := HW3.out.op.cell 5; have p6 : w3.cell? ⟨w.heap.size, 6, none⟩ = some (.int .i64 o.n) := HW3.out.op.cell 6; clear hb3))
       go_ret
       exact ⟨rfl, HW3.out.bel⟩
     | true =>
       cases t4 with
       | false =>
         go_wp2_with (first | ((with_reducible refine T1.out.mono ?_); rintro e wx ⟨rfl, rfl⟩) | ((with_reducible refine T2.out.mono ?_); rintro e wx ⟨rfl, rfl⟩) | ((with_reducible refine T3.out.mono ?_); rintro e w3 ⟨rfl, hb3⟩; have HW3 := Lib.hid (HW.out.on hb3); have P4 := Lib.hid (T4.out _ hb3); have P5 := Lib.hid (T5.out _ hb3); have g3 : w3.cell? ⟨b, 3, none⟩ = some (.bool (fP o.k)) := HW3.out.fd.cell 3; have g4 : w3.cell? ⟨b, 4, none⟩ = some (.bool (fG o.k)) := HW3.out.fd.cell 4; clear o0 o1 o2 o3 o4 o5 o6 f0 f1; have p0 : w3.cell? ⟨w.heap.size, 0, none⟩ = some (.int .i64 o.k) := HW3.out.op.cell 0; have p1 : w3.cell? ⟨w.heap.size, 1, none⟩ = some (.string (sx o.name)) := HW3.out.op.cell 1; have p2 : w3.cell? ⟨w.heap.size, 2, none⟩ = some (.string (sx o.dst)) := HW3.out.op.cell 2; have p3 : w3.cell? ⟨w.heap.size, 3, none⟩ = some (.slice Aa na ca) := HW3.out.op.cell 3; have p4 : w3.cell? ⟨w.heap.size, 4, none⟩ = some (.slice Ap np cp) := HW3.out.op.cell 4; have p5 : w3.cell? ⟨w.heap.size, 5, none⟩ = some (.slice Ac nc cc) := HW3.out.op.cell 5; have p6 : w3.cell? ⟨w.heap.size, 6, none⟩ = some (.int .i64 o.n) := HW3.out.op.cell 6; clear hb3) | ((with_reducible refine P4.out.mono ?_); rintro e wx ⟨rfl, rfl⟩))
         go_ret
         exact ⟨rfl, HW3.out.bel⟩
       | true =>
         cases t5 with
         | false =>
           go_wp2_with (first | ((with_reducible refine T1.out.mono ?_); rintro e wx ⟨rfl, rfl⟩) | ((with_reducible refine T2.out.mono ?_); rintro e wx ⟨rfl, rfl⟩) | ((with_reducible refine T3.out.mono ?_); rintro e w3 ⟨rfl, hb3⟩; have HW3 := Lib.hid (HW.out.on hb3); have P4 := Lib.hid (T4.out _ hb3); have P5 := Lib.hid (T5.out _ hb3); have g3 : w3.cell? ⟨b, 3, none⟩ = some (.bool (fP o.k)) := HW3.out.fd.cell 3; have g4 : w3.cell? ⟨b, 4, none⟩ = some (.bool (fG o.k)) := HW3.out.fd.cell 4; clear o0 o1 o2 o3 o4 o5 o6 f0 f1; have p0 : w3.cell? ⟨w.heap.size, 0, none⟩ = some (.int .i64 o.k) := HW3.out.op.cell 0; have p1 : w3.cell? ⟨w.heap.size, 1, none⟩ = some (.string (sx o.name)) := HW3.out.op.cell 1; have p2 : w3.cell? ⟨w.heap.size, 2, none⟩ = some (.string (sx o.dst)) := HW3.out.op.cell 2; have p3 : w3.cell? ⟨w.heap.size, 3, none⟩ = some (.slice Aa na ca) := HW3.out.op.cell 3; have p4 : w3.cell? ⟨w.heap.size, 4, none⟩ = some (.slice Ap np cp) := HW3.out.op.cell 4; have p5 : w3.cell? ⟨w.heap.size, 5, none⟩ = some (.slice Ac nc cc) := HW3.out.op.cell 5; have p6 : w3.cell? ⟨w.heap.size, 6, none⟩ = some (.int .i64 o.n) := HW3.out.op.cell 6; clear hb3) | ((with_reducible refine P4.out.mono ?_); rintro e wx ⟨rfl, rfl⟩) | ((with_reducible refine P5.out.mono ?_); rintro e w5 ⟨rfl, hb5⟩; have HW5 := Lib.hid (HW3.out.on hb5); clear hb5))
           go_ret
           exact ⟨rfl, HW5.out.bel⟩
         | true =>
           go_wp2_with (first | ((with_reducible refine T1.out.mono ?_); rintro e wx ⟨rfl, rfl⟩) | ((with_reducible refine T2.out.mono ?_); rintro e wx ⟨rfl, rfl⟩) | ((with_reducible refine T3.out.mono ?_); rintro e w3 ⟨rfl, hb3⟩; have HW3 := Lib.hid (HW.out.on hb3); have P4 := Lib.hid (T4.out _ hb3); have P5 := Lib.hid (T5.out _ hb3); have g3 : w3.cell? ⟨b, 3, none⟩ = some (.bool (fP o.k)) := HW3.out.fd.cell 3; have g4 : w3.cell? ⟨b, 4, none⟩ = some (.bool (fG o.k)) := HW3.out.fd.cell 4; clear o0 o1 o2 o3 o4 o5 o6 f0 f1; have p0 : w3.cell? ⟨w.heap.size, 0, none⟩ = some (.int .i64 o.k) := HW3.out.op.cell 0; have p1 : w3.cell? ⟨w.heap.size, 1, none⟩ = some (.string (sx o.name)) := HW3.out.op.cell 1; have p2 : w3.cell? ⟨w.heap.size, 2, none⟩ = some (.string (sx o.dst)) := HW3.out.op.cell 2; have p3 : w3.cell? ⟨w.heap.size, 3, none⟩ = some (.slice Aa na ca) := HW3.out.op.cell 3; have p4 : w3.cell? ⟨w.heap.size, 4, none⟩ = some (.slice Ap np cp) := HW3.out.op.cell 4; have p5 : w3.cell? ⟨w.heap.size, 5, none⟩ = some (.slice Ac nc cc) := HW3.out.op.cell 5; have p6 : w3.cell? ⟨w.heap.size, 6, none⟩ = some (.int .i64 o.n) := HW3.out.op.cell 6; clear hb3) | ((with_reducible refine P4.out.mono ?_); rintro e wx ⟨rfl, rfl⟩) | ((with_reducible refine P5.out.mono ?_); rintro e w5 ⟨rfl, hb5⟩; have HW5 := Lib.hid (HW3.out.on hb5); clear hb5))
           go_ret
           exact ⟨rfl, HW5.out.bel⟩
theorem mayOp_any (o : Opn) (va vp vc : Value) (w : World) (ho : OpAt w o va vp vc) (hl : Lim o) : Calls Tryz.prog 62 #[opVal o va vp vc] w fun e w' => e = .returned (.bool (mayO o)) ∧ Below w.heap.size w w' := by
 cases hk : isK o.k with
 | false =>
   have : mayO o = false := by unfold mayO; rw [hk]; rfl
   rw [this]
   exact may_no o va vp vc w hk
 | true => exact may_yes o va vp vc w hk ho hl
end Go.Proofs.YtniaijgejljjbaaGreat.Tlv
