/- May it be an operation? By the program. -/
import Derived.Test.YtniaijgejljjbaaY17
namespace Go.Proofs.Ytniaijgejljjbaa.Tlv
open Go.RowKit
set_option maxRecDepth 100000
set_option linter.unusedVariables false
set_option linter.unusedSimpArgs false
abbrev opVal (o : Opn) (va vp vc : Value) : Value := .agg (opCs o va vp vc)
theorem mayParts_any (b : Bool) (l : List (List UInt8)) (v : Value) (w : World) (hv : RdP w v l) (hl : l.length ≤ 1000000) (hs : ∀ s ∈ l, s.length ≤ 9223372036854775807) :
   Calls Try.prog 77 #[.bool b, v] w fun e w' => e = .returned (.bool (mayPt b l)) ∧ w = w' := by
 obtain ⟨A, c, rfl, _, hr⟩ := hv
 have HC := Lib.hid (conP_any l A c w hr hl hs)
 obtain ⟨n, hn⟩ : ∃ n, n = l.length := ⟨_, rfl⟩
 rw [← hn] at HC hl ⊢
 have HN := Lib.hid hn
 clear hr hs hn
 cases b with
 | false =>
   have hE : Hid (mayPt false l = decide (n = 0)) := Lib.hid (by unfold mayPt; rw [HN.out]; cases l <;> simp)
   by_cases h0 : n = 0
   · subst h0
     go_enter Try.func77, Try.ntmps77
     go_wp2
     go_ret
     exact ⟨by rw [hE.out]; rfl, rfl⟩
   · have h1 : ((n : Int) == 0) = false := by simpa using h0
     go_enter Try.func77, Try.ntmps77
     go_wp2
     go_ret
     exact ⟨by rw [hE.out]; simp [h0], rfl⟩
 | true =>
   by_cases h8 : n ≤ 8
   · have hE : Hid (mayPt true l = !(!(l.all mayN))) := Lib.hid (by unfold mayPt; rw [← HN.out]; simp [h8])
     generalize (!(l.all mayN)) = p at HC hE
     go_enter Try.func77, Try.ntmps77
     go_wp2_with ((with_reducible refine HC.out.mono ?_); rintro e w1 ⟨rfl, rfl⟩)
     go_ret
     exact ⟨by rw [hE.out]; rfl, rfl⟩
   · have hE : Hid (mayPt true l = false) := Lib.hid (by unfold mayPt; rw [← HN.out]; simp; intro h; omega)
     have h9 : decide ((n : Int) ≤ 8) = false := by simp; omega
     go_enter Try.func77, Try.ntmps77
     go_wp2_with fail
     go_ret
     exact ⟨by (rw [hE.out]; first | rfl | (simp; done) | (simp; omega)), rfl⟩
theorem RdC.len {w : World} {v : Value} {l : List Int} (h : RdC w v l) : ∃ A c n, v = .slice A n c ∧ Hid (n = l.length) := by
 obtain ⟨A, c, e, _⟩ := h
 exact ⟨A, c, _, e, Lib.hid rfl⟩
theorem mayPage_any (b : Bool) (o : Opn) (va vp vc : Value) (w : World) (hc : RdC w vc o.cur) :
   Calls Try.prog 78 #[.bool b, opVal o va vp vc] w fun e w' => e = .returned (.bool (mayPg b o.cur o.n)) ∧ Below w.heap.size w w' := by
 obtain ⟨A, c, n, rfl, HN⟩ := hc.len
 have hE : Hid (mayPg b o.cur o.n = if b = true then decide (n ≤ 4000) && (decide (0 ≤ o.n) && decide (o.n ≤ 1000)) else decide (n = 0) && decide (o.n = 0)) := Lib.hid (by
   unfold mayPg
   rw [HN.out]
   cases o.cur <;> simp)
 clear hc HN
 have hb : Below w.heap.size w (w.alloc (.cells (opCs o va vp (.slice A n c)) 40)) := (Below.refl _ _).alloc (Nat.le_refl _) _
 obtain ⟨k, name, dst, attrs, parts, cur, m⟩ := o
 dsimp only at *
 rw [hE.out]
 have HB := Lib.hid hb
 clear hb hE
 cases b with
 | false =>
   by_cases h0 : n = 0
   · subst h0
     by_cases h1 : m = 0
     · subst h1
       go_enter Try.func78, Try.ntmps78
       go_wp2
       go_ret
       exact ⟨rfl, HB.out⟩
     · have h2 : (m == 0) = false := by simpa using h1
       go_enter Try.func78, Try.ntmps78
       go_wp2
       go_ret
       exact ⟨by (first | rfl | (simp [h1]; done) | (simp [h1]; omega)), HB.out⟩
   · have h1 : ((n : Int) == 0) = false := by simpa using h0
     go_enter Try.func78, Try.ntmps78
     go_wp2
     go_ret
     exact ⟨by (first | rfl | (simp [h0]; done) | (simp [h0]; omega)), HB.out⟩
 | true =>
   by_cases h0 : n ≤ 4000
   · by_cases h1 : 0 ≤ m
     · by_cases h2 : m ≤ 1000
       · go_enter Try.func78, Try.ntmps78
         go_wp2
         go_ret
         exact ⟨by (first | rfl | (simp [h0, h1, h2]; done) | (simp [h0, h1, h2]; omega)), HB.out⟩
       · have h3 : decide (m ≤ 1000) = false := by simpa using h2
         go_enter Try.func78, Try.ntmps78
         go_wp2
         go_ret
         exact ⟨by (first | rfl | (simp [h0, h1, h2]; done) | (simp [h0, h1, h2]; omega)), HB.out⟩
     · have h3 : decide (0 ≤ m) = false := by simpa using h1
       go_enter Try.func78, Try.ntmps78
       go_wp2
       go_ret
       exact ⟨by (first | rfl | (simp [h0, h1]; done) | (simp [h0, h1]; omega)), HB.out⟩
   · have h1 : decide ((n : Int) ≤ 4000) = false := by simp; omega
     go_enter Try.func78, Try.ntmps78
     go_wp2
     go_ret
     exact ⟨by (first | rfl | (simp [h0]; done) | (simp [h0]; omega)), HB.out⟩
theorem rdv_len {w : World} {v : Value} {l : List At} (h : Ytniaijgejljjbaa.RdV w v l) : ∃ A c n, v = .slice A n c ∧ Hid (n = l.length) ∧ Ytniaijgejljjbaa.RdK kA w w.heap.size A l := by
 obtain ⟨A, c, e, _, h1⟩ := h
 exact ⟨A, c, _, e, Lib.hid rfl, h1⟩
set_option maxHeartbeats 2000000 in
theorem mayAttrs_o (o : Opn) (va vp vc : Value) (w : World) (hv : Ytniaijgejljjbaa.RdV w va o.attrs) (hs : Ytniaijgejljjbaa.Sm o.attrs) (hl : o.attrs.length ≤ 1000000) :
   Calls Try.prog 76 #[opVal o va vp vc] w fun e w' => e = .returned (.bool (mayAt o.k o.attrs)) ∧ Below w.heap.size w w' := by
 obtain ⟨A, c, n, rfl, HN, hr⟩ := rdv_len hv
 have hb : Below w.heap.size w (w.alloc (.cells (opCs o (.slice A n c) vp vc) 40)) := (Below.refl _ _).alloc (Nat.le_refl _) _
 have hMA := Ytniaijgejljjbaa.mayAttrs_any o.attrs (.slice A n c) _ (Ytniaijgejljjbaa.RdV.on hv hb) hs hl
 have hCA := conA_any o.attrs A c _ (Ytniaijgejljjbaa.RdK.on hr hb) hl hs
 rw [← HN.out] at hCA
 have HMA := Lib.hid hMA
 have HCA := Lib.hid hCA
 have HR := Lib.hid hr
 have HS := Lib.hid hs
 obtain ⟨k, name, dst, attrs, parts, cur, m⟩ := o
 dsimp only at *
 have HB := Lib.hid hb
 clear hb hv hs hMA hCA hr
 by_cases h1 : k = 1
 · subst h1
   have hE : Hid (mayAt 1 attrs = mayL attrs) := Lib.hid rfl
   rw [hE.out]
   generalize mayL attrs = p at HMA
   clear HCA hE
   go_enter Try.func76, Try.ntmps76
   go_wp2_with ((with_reducible refine HMA.out.mono ?_); rintro e w1 ⟨rfl, hb1⟩; have HB1 := Lib.hid (HB.out.trans (hb1.mono HB.out.size)); clear hb1)
   go_ret
   exact ⟨rfl, HB1.out⟩
 · have g1 : (k == 1) = false := by simpa using h1
   by_cases h3 : k = 3
   · subst h3
     by_cases h50 : n ≤ 50
     · have hE : Hid (mayAt 3 attrs = !(!(attrs.all mayA))) := Lib.hid (by unfold mayAt; rw [← HN.out]; simp [h50])
       rw [hE.out]
       generalize (!(attrs.all mayA)) = p at HCA
       clear HMA hE g1 h1
       go_enter Try.func76, Try.ntmps76
       go_wp2_with ((with_reducible refine HCA.out.mono ?_); rintro e w1 ⟨rfl, hb1⟩; have HB1 := Lib.hid (HB.out.trans (hb1.mono HB.out.size)); clear hb1)
       go_ret
       exact ⟨rfl, HB1.out⟩
     · have hE : Hid (mayAt 3 attrs = false) := Lib.hid (by unfold mayAt; rw [← HN.out]; simp; intro h; omega)
       rw [hE.out]
       have h9 : decide ((n : Int) ≤ 50) = false := by simp; omega
       clear HMA HCA hE g1 h1
       go_enter Try.func76, Try.ntmps76
       go_wp2_with fail
       go_ret
       exact ⟨by (first | rfl | (simp; done) | (simp; omega)), HB.out⟩
   · have g3 : (k == 3) = false := by simpa using h3
     by_cases h5 : k = 5
     · subst h5
       by_cases hn1 : n = 1
       · subst hn1
         obtain ⟨x, hx⟩ : ∃ x, attrs = [x] := by
           have := HN.out
           cases attrs with
           | nil => simp at this
           | cons x t => cases t with
             | nil => exact ⟨x, rfl⟩
             | cons y t => simp at this
         subst hx
         have hE : Hid (mayAt 5 [x] = mayA x) := Lib.hid (by unfold mayAt; simp)
         obtain ⟨b, off, rfl, hlt, c0, c1⟩ := Ytniaijgejljjbaa.at_cells HR.out HB.out (show 0 < [x].length by simp)
         have HMX := Lib.hid (Ytniaijgejljjbaa.mayAttr_any x (w.alloc (.cells (opCs ⟨5, name, dst, [x], parts, cur, m⟩ (.slice (some ⟨b, off, none⟩) 1 c) vp vc) 40)) (HS.out x (by simp)).1 (HS.out x (by simp)).2)
         simp only [Nat.zero_mul, Nat.add_zero, List.getD_cons_zero] at c0 c1
         rw [hE.out]
         generalize mayA x = p at HMX
         clear HMA HCA hE g1 g3 h1 h3 HR HS
         go_enter Try.func76, Try.ntmps76
         go_wp2_with ((with_reducible refine HMX.out.mono ?_); rintro e w1 ⟨rfl, hb1⟩; have HB1 := Lib.hid (HB.out.trans (hb1.mono HB.out.size)); clear hb1)
         go_ret
         exact ⟨rfl, HB1.out⟩
       · have hE : Hid (mayAt 5 attrs = false) := Lib.hid (by unfold mayAt; rw [← HN.out]; simp [hn1])
         rw [hE.out]
         have h9 : ((n : Int) == 1) = false := by simp; omega
         clear HMA HCA hE g1 g3 h1 h3
         go_enter Try.func76, Try.ntmps76
         go_wp2_with fail
         go_ret
         exact ⟨by (first | rfl | (simp; done) | (simp; omega)), HB.out⟩
     · have g5 : (k == 5) = false := by simpa using h5
       have hE : Hid (mayAt k attrs = decide (n = 0)) := Lib.hid (by unfold mayAt; rw [if_neg h1, if_neg h3, if_neg h5, HN.out]; cases attrs <;> simp)
       rw [hE.out]
       clear HMA HCA hE HR HS
       by_cases hn0 : n = 0
       · subst hn0
         go_enter Try.func76, Try.ntmps76
         go_wp2_with fail
         go_ret
         exact ⟨rfl, HB.out⟩
       · have h9 : ((n : Int) == 0) = false := by simpa using hn0
         go_enter Try.func76, Try.ntmps76
         go_wp2_with fail
         go_ret
         exact ⟨by (first | rfl | (simp [hn0]; done) | (simp [hn0]; omega)), HB.out⟩
end Go.Proofs.Ytniaijgejljjbaa.Tlv
