/- Which attributes may be together, by the document. -/
import Derived.Test.YtniaijgejljjbaaGreatY12
namespace Go.Proofs.YtniaijgejljjbaaGreat
open Go.RowKit Go.Lib Go.Sort
set_option linter.unusedVariables false
set_option linter.unusedSimpArgs false
set_option maxHeartbeats 2000000 in
theorem refMayAttrs_any (l : List At) (v : Value) (w : World) (hv : RdV w v l) (hs : Sm l) (hl : l.length ≤ 1000000) :
   Calls Tryz.prog 51 #[v] w fun e w' => e = .returned (.bool (mayL l)) ∧ Below w.heap.size w w' := by
 obtain ⟨A, c, rfl, _, hr⟩ := hv
 by_cases h50 : l.length ≤ 50
 · have HM : Hid (mayL l = upL l l.length) := Lib.hid (by unfold mayL; rw [decide_eq_true h50, Bool.true_and])
   have HR := Lib.hid hr
   have HS := Lib.hid hs
   obtain ⟨n, hn⟩ : ∃ n, n = l.length := ⟨_, rfl⟩
   rw [← hn] at HM hl h50 ⊢
   have HN := Lib.hid hn
   clear hr hs hn
   go_enter Tryz.func51, Tryz.ntmps51
   go_wp2
   go_loopw [3] (fun i wr => ∃ k : Nat, i = .int .i64 k ∧ k ≤ n ∧ Below w.heap.size w wr ∧ Hid (upL l k = true)) (fun i _ => n - (intOf i).toNat)
   case atStart => exact ⟨0, rfl, Nat.zero_le _, Below.refl _ _, Lib.hid rfl⟩
   case round =>
     obtain ⟨k, rfl, hk, hB, HU⟩ := hrel
     have HB := Lib.hid hB
     clear hB
     by_cases hlt : k < n
     · obtain ⟨b, off, rfl, hbl, c0, c1⟩ := at_cells HR.out HB.out (show k < l.length by have := HN.out; omega)
       have hx := sm_get HS.out k (by have := HN.out; omega)
       have HNO := Lib.hid (fun h => upL_no (l := l) (k := k) (by have := HN.out; omega) h)
       have HUS := Lib.hid (upL_succ l k)
       have hbw := HB.out.size
       have hb1 := HB.out
       have hsz2 := hbw
       by_cases hk0 : k = 0
       · have HOK : Hid (okL l k = mayA (l.getD k default)) := Lib.hid (by unfold okL; rw [show (k == 0) = true from by simpa using hk0, Bool.true_or, Bool.and_true])
         generalize l.getD k default = x at c0 c1 hx HOK
         have hmm := fun W => refMayAttr_any x W hx.1 hx.2
         clear hx
         generalize hma : mayA x = r at hmm HOK
         clear hma
         subst hk0
         rw [show off + 0 * 2 = off from by omega] at c0 c1
         go_wp2_with fail
         have HX := Lib.hid (And.intro hb1 hsz2)
         have e0 := cell_regrown c0
         have e1 := cell_regrown c1
         have cA := fun d os => Calls.regrown_of (hmm (grow (redrawn wr d) os))
         clear hb1 hsz2 hmm c0 c1
         cases r with
         | false =>
           have HF : Hid (mayL l = false) := Lib.hid (by rw [HM.out, HN.out]; exact HNO.out HOK.out)
           clear HNO HUS HU
           refine wp_region_quiet_below (by kernel_rfl) (by kernel_rfl) ?_
           repeat
             with_reducible refine wpQuiet_step (fun K hK => ?_)
             go_simp
             first
               | (with_reducible refine hK _ ?_; clear hK K)
               | (rw [if_neg (by first | decide | (intro h; cases h))]; with_reducible refine hK _ ?_; clear hK K)
               | (apply Exists.intro; refine ⟨fun _ => ?_, hK _ ?_⟩; (exact cA _ _); clear hK K)
           with_reducible refine wpQuiet_nil ?_
           rintro _ ⟨⟨dq, osq⟩, rfl⟩
           have HB2 := Lib.hid (HX.out.1.trans ((below_regrown wr dq osq).mono HX.out.2))
           clear e0 e1 cA
           generalize grow (redrawn wr dq) osq = w2 at HB2 ⊢
           go_wp2
           go_ret
           exact ⟨by rw [HF.out]; rfl, HB2.out⟩
         | true =>
           have HU2 : Hid (upL l (0 + 1) = true) := Lib.hid (by rw [HUS.out, HU.out, HOK.out]; rfl)
           clear HNO HUS HU
           refine wp_region_quiet_below (by kernel_rfl) (by kernel_rfl) ?_
           repeat
             with_reducible refine wpQuiet_step (fun K hK => ?_)
             go_simp
             first
               | (with_reducible refine hK _ ?_; clear hK K)
               | (rw [if_neg (by first | decide | (intro h; cases h))]; with_reducible refine hK _ ?_; clear hK K)
               | (apply Exists.intro; refine ⟨fun _ => ?_, hK _ ?_⟩; (exact cA _ _); clear hK K)
           with_reducible refine wpQuiet_nil ?_
           rintro _ ⟨⟨dq, osq⟩, rfl⟩
           have HB2 := Lib.hid (HX.out.1.trans ((below_regrown wr dq osq).mono HX.out.2))
           clear e0 e1 cA
           generalize grow (redrawn wr dq) osq = w2 at HB2 ⊢
           go_wp2
           go_roundw
           case rel => exact ⟨1, by go_num, by omega, HB2.out, HU2⟩
           case measure => simp [intOf]; omega
       · obtain ⟨b2, off2, hA2, hbl2, d0, d1⟩ := at_cells HR.out hb1 (show k - 1 < l.length by have := HN.out; omega)
         injection hA2 with hA2
         injection hA2 with hA2 hA3
         subst hA2 hA3
         have HOK : Hid (okL l k = (mayA (l.getD k default) && ltA (l.getD (k - 1) default) (l.getD k default))) := Lib.hid (by unfold okL; rw [show (k == 0) = false from by simpa using hk0, Bool.false_or])
         generalize l.getD k default = x at c0 c1 hx HOK d0 d1
         generalize l.getD (k - 1) default = y at HOK d0 d1
         have hmm := fun W => refMayAttr_any x W hx.1 hx.2
         have hcc := fun W => less_any y x W
         clear hx
         generalize hma : mayA x = r at hmm HOK
         clear hma
         generalize ltA y x = r2 at hcc HOK
         have hkp : 0 < k := by omega
         obtain ⟨m, hm⟩ : ∃ m, m = k - 1 := ⟨_, rfl⟩
         rw [← hm] at d0 d1
         have hmn : m < n := by omega
         have hwrap : IntKind.i64.wrap ((k : Int) - 1) = (m : Int) := by
           have e : (k : Int) - 1 = (m : Int) := by omega
           rw [e]
           exact wrapN m (by omega)
         have HMK := Lib.hid hm
         clear hm
         go_wp2_with fail
         have HX := Lib.hid (And.intro hb1 hsz2)
         have e0 := cell_regrown c0
         have e1 := cell_regrown c1
         have e2 := cell_regrown d0
         have e3 := cell_regrown d1
         have cA := fun d os => Calls.regrown_of (hmm (grow (redrawn wr d) os))
         have cC := fun d os => Calls.regrown_of (hcc (grow (redrawn wr d) os))
         clear hb1 hsz2 hmm hcc d0 d1 c0 c1
         cases r with
         | false =>
           have HF : Hid (mayL l = false) := Lib.hid (by rw [HM.out, HN.out]; exact HNO.out HOK.out)
           clear HNO HUS HU
           refine wp_region_quiet_below (by kernel_rfl) (by kernel_rfl) ?_
           repeat
             with_reducible refine wpQuiet_step (fun K hK => ?_)
             go_simp
             first
               | (with_reducible refine hK _ ?_; clear hK K)
               | (rw [if_neg (by first | decide | (intro h; cases h))]; with_reducible refine hK _ ?_; clear hK K)
               | (apply Exists.intro; refine ⟨fun _ => ?_, hK _ ?_⟩; (exact cA _ _); clear hK K)
           with_reducible refine wpQuiet_nil ?_
           rintro _ ⟨⟨dq, osq⟩, rfl⟩
           have HB2 := Lib.hid (HX.out.1.trans ((below_regrown wr dq osq).mono HX.out.2))
           clear e0 e1 e2 e3 cA cC
           generalize grow (redrawn wr dq) osq = w2 at HB2 ⊢
           go_wp2
           go_ret
           exact ⟨by rw [HF.out]; rfl, HB2.out⟩
         | true =>
           cases r2 with
           | false =>
             have HF : Hid (mayL l = false) := Lib.hid (by rw [HM.out, HN.out]; exact HNO.out HOK.out)
             clear HNO HUS HU
             refine wp_region_quiet_below (by kernel_rfl) (by kernel_rfl) ?_
             repeat
               with_reducible refine wpQuiet_step (fun K hK => ?_)
               go_simp
               first
                 | (with_reducible refine hK _ ?_; clear hK K)
                 | (rw [if_neg (by first | decide | (intro h; cases h))]; with_reducible refine hK _ ?_; clear hK K)
                 | (apply Exists.intro; refine ⟨fun _ => ?_, hK _ ?_⟩; (first | exact cA _ _ | exact cC _ _); clear hK K)
             with_reducible refine wpQuiet_nil ?_
             rintro _ ⟨⟨dq, osq⟩, rfl⟩
             have HB2 := Lib.hid (HX.out.1.trans ((below_regrown wr dq osq).mono HX.out.2))
             clear e0 e1 e2 e3 cA cC
             generalize grow (redrawn wr dq) osq = w2 at HB2 ⊢
             go_wp2
             go_ret
             exact ⟨by rw [HF.out]; rfl, HB2.out⟩
           | true =>
             have HU2 : Hid (upL l (k + 1) = true) := Lib.hid (by rw [HUS.out, HU.out, HOK.out]; rfl)
             clear HNO HUS HU
             refine wp_region_quiet_below (by kernel_rfl) (by kernel_rfl) ?_
             repeat
               with_reducible refine wpQuiet_step (fun K hK => ?_)
               go_simp
               first
                 | (with_reducible refine hK _ ?_; clear hK K)
                 | (rw [if_neg (by first | decide | (intro h; cases h))]; with_reducible refine hK _ ?_; clear hK K)
                 | (apply Exists.intro; refine ⟨fun _ => ?_, hK _ ?_⟩; (first | exact cA _ _ | exact cC _ _); clear hK K)
             with_reducible refine wpQuiet_nil ?_
             rintro _ ⟨⟨dq, osq⟩, rfl⟩
             have HB2 := Lib.hid (HX.out.1.trans ((below_regrown wr dq osq).mono HX.out.2))
             clear e0 e1 e2 e3 cA cC
             generalize grow (redrawn wr dq) osq = w2 at HB2 ⊢
             go_wp2
             go_roundw
             case rel => exact ⟨k + 1, by go_num, by omega, HB2.out, HU2⟩
             case measure => simp [intOf]; omega
     · have hkn : k = n := by omega
       have HF : Hid (mayL l = true) := Lib.hid (by rw [HM.out, ← hkn, HU.out])
       go_wp2
       go_ret
       exact ⟨by rw [HF.out]; rfl, HB.out⟩
 · have HF : Hid (mayL l = false) := Lib.hid (by unfold mayL; rw [decide_eq_false h50]; rfl)
   obtain ⟨n, hn⟩ : ∃ n, n = l.length := ⟨_, rfl⟩
   rw [← hn] at h50 ⊢
   have hgt : 50 < n := by omega
   clear hr hs hn h50
   go_enter Tryz.func51, Tryz.ntmps51
   go_wp2
   go_ret
   exact ⟨by rw [HF.out]; rfl, Below.refl _ _⟩
theorem getD_at (l : List At) (k : Nat) (h : k < l.length) : l.getD k default = l[k] := by rw [List.getD_eq_getElem?_getD, List.getElem?_eq_getElem h]; rfl
theorem upL_iff {l : List At} : upL l l.length = true ↔ (∀ x ∈ l, mayA x = true) ∧ Rises l := by
 unfold upL
 rw [List.all_eq_true]
 constructor
 · intro h
   have hk : ∀ k (hk : k < l.length), okL l k = true := fun k hk => h k (List.mem_range.2 hk)
   refine ⟨fun x hx => ?_, ?_⟩
   · obtain ⟨k, hk1, rfl⟩ := List.mem_iff_getElem.1 hx
     have := hk k hk1
     unfold okL at this
     rw [getD_at l k hk1] at this
     exact (Bool.and_eq_true_iff.1 this).1
   · refine List.pairwise_iff_getElem.2 fun i j hi hj hij => ?_
     induction j with
     | zero => omega
     | succ j ih =>
       have h1 := hk (j + 1) hj
       unfold okL at h1
       rw [getD_at l _ hj, show j + 1 - 1 = j from rfl, getD_at l j (by omega)] at h1
       have h2 : ltA l[j] l[j + 1] = true := by simpa using (Bool.and_eq_true_iff.1 h1).2
       by_cases e : i = j
       · subst e; exact h2
       · exact ltA_trans (ih (by omega) (by omega)) h2
 · rintro ⟨h1, h2⟩ k hk
   have hk := List.mem_range.1 hk
   unfold okL
   rw [getD_at l k hk, h1 _ (List.getElem_mem hk), Bool.true_and]
   by_cases h0 : k = 0
   · subst h0; rfl
   · rw [getD_at l (k - 1) (by omega), (List.pairwise_iff_getElem.1 h2) (k - 1) k (by omega) hk (by omega), Bool.or_true]
theorem mayL_iff {l : List At} : mayL l = true ↔ l.length ≤ 50 ∧ (∀ x ∈ l, mayA x = true) ∧ Rises l := by
 unfold mayL
 rw [Bool.and_eq_true_iff, upL_iff, decide_eq_true_iff]
theorem ext_getD {a b : List At} (h : a.length = b.length) (h2 : ∀ j, j < a.length → a.getD j default = b.getD j default) : a = b := by
 refine List.ext_getElem h fun j h3 h4 => ?_
 have := h2 j h3
 rwa [getD_at a j h3, getD_at b j h4] at this
theorem ne_getD {a b : List At} {k : Nat} (h : a.getD k default ≠ b.getD k default) : a ≠ b := fun e => h (by rw [e])
set_option maxHeartbeats 2000000 in
theorem refSame_any (a b : List At) (va vb : Value) (w : World) (hva : RdV w va a) (hvb : RdV w vb b) (ha : a.length ≤ 9223372036854775807) (hb : b.length ≤ 9223372036854775807) :
   Calls Tryz.prog 58 #[va, vb] w fun e w' => e = .returned (.bool (decide (a = b))) ∧ Below w.heap.size w w' := by
 obtain ⟨A, c, rfl, _, hr⟩ := hva
 obtain ⟨B, d, rfl, _, hr2⟩ := hvb
 by_cases hlen : a.length = b.length
 · have HR := Lib.hid (And.intro hr hr2)
   rw [← hlen]
   obtain ⟨n, hn⟩ : ∃ n, n = a.length := ⟨_, rfl⟩
   rw [← hn] at ha ⊢
   have HN := Lib.hid (And.intro hn (hn.trans hlen))
   clear hr hr2 hn hlen hb
   go_enter Tryz.func58, Tryz.ntmps58
   go_wp2
   go_loopw [5] (fun i wr => ∃ k : Nat, i = .int .i64 k ∧ k ≤ n ∧ Hid (Below w.heap.size w wr) ∧ Hid (∀ j, j < k → a.getD j default = b.getD j default)) (fun i _ => n - (intOf i).toNat)
   case atStart => exact ⟨0, rfl, Nat.zero_le _, Lib.hid (Below.refl _ _), Lib.hid fun j hj => absurd hj (Nat.not_lt_zero _)⟩
   case round =>
     obtain ⟨k, rfl, hk, HB, HA⟩ := hrel
     by_cases hlt : k < n
     · obtain ⟨b1, o1, rfl, _, c0, c1⟩ := at_cells HR.out.1 HB.out (show k < a.length by have := HN.out; omega)
       obtain ⟨b2, o2, rfl, _, d0, d1⟩ := at_cells HR.out.2 HB.out (show k < b.length by have := HN.out; omega)
       have g1 := fun w => neqv (a.getD k default) (b.getD k default) w
       have g2 := fun op a' b' w => grd op a' b' (a.getD k default) (b.getD k default) w
       generalize hx : a.getD k default = x at c0 c1 g1 g2
       generalize hy : b.getD k default = y at d0 d1 g1 g2
       have HXY := Lib.hid (And.intro hx hy)
       clear hx hy
       generalize hxy : decide (x = y) = bb at g1
       cases bb with
       | true =>
         have HE := Lib.hid (of_decide_eq_true hxy)
         clear hxy
         simp only [Bool.not_true] at g1
         go_wp2_with fail
         go_region
         go_wp2
         go_roundw
         case rel => exact ⟨k + 1, by go_num, by omega, Lib.hid (below_drew HB.out), Lib.hid fun j hj => by
           by_cases e : j = k
           · subst e; rw [HXY.out.1, HXY.out.2]; exact HE.out
           · exact HA.out j (by omega)⟩
         case measure => simp [intOf]; omega
       | false =>
         have HF : Hid (decide (a = b) = false) := Lib.hid (decide_eq_false (ne_getD (k := k) (by rw [HXY.out.1, HXY.out.2]; exact of_decide_eq_false hxy)))
         clear hxy
         simp only [Bool.not_false] at g1
         go_wp2_with fail
         go_region
         go_wp2
         go_ret
         exact ⟨by rw [HF.out]; rfl, below_drew HB.out⟩
     · have hkn : k = n := by omega
       have HF : Hid (decide (a = b) = true) := Lib.hid (decide_eq_true (ext_getD (by rw [← HN.out.1, ← HN.out.2]) (by rw [← HN.out.1, ← hkn]; exact HA.out)))
       go_wp2
       go_ret
       exact ⟨by rw [HF.out]; rfl, HB.out⟩
 · have HF : Hid (decide (a = b) = false) := Lib.hid (decide_eq_false fun e => hlen (by rw [e]))
   obtain ⟨n, hn⟩ : ∃ n, n = a.length := ⟨_, rfl⟩
   obtain ⟨m, hm⟩ : ∃ m, m = b.length := ⟨_, rfl⟩
   rw [← hn] at ha hlen ⊢
   rw [← hm] at hb hlen ⊢
   clear hr hr2 hn hm
   go_enter Tryz.func58, Tryz.ntmps58
   go_wp2
   go_ret
   exact ⟨by rw [HF.out]; rfl, Below.refl _ _⟩
set_option maxHeartbeats 2000000 in
theorem equal_any (a b : List At) (va vb : Value) (w : World) (hva : RdV w va a) (hvb : RdV w vb b) (ha : a.length ≤ 9223372036854775807) (hb : b.length ≤ 9223372036854775807) :
   Calls Tryz.prog 55 #[va, vb] w fun e w' => e = .returned (.bool (decide (a = b))) ∧ Below w.heap.size w w' := by
 obtain ⟨A, c, rfl, _, hr⟩ := hva
 obtain ⟨B, d, rfl, _, hr2⟩ := hvb
 by_cases hlen : a.length = b.length
 · have HR := Lib.hid (And.intro hr hr2)
   rw [← hlen]
   obtain ⟨n, hn⟩ : ∃ n, n = a.length := ⟨_, rfl⟩
   rw [← hn] at ha ⊢
   have HN := Lib.hid (And.intro hn (hn.trans hlen))
   clear hr hr2 hn hlen hb
   go_enter Tryz.func55, Tryz.ntmps55
   go_wp2
   go_loopw [13] (fun i wr => ∃ k : Nat, i = .int .i64 k ∧ k ≤ n ∧ Hid (Below w.heap.size w wr) ∧ Hid (∀ j, j < k → a.getD j default = b.getD j default)) (fun i _ => n - (intOf i).toNat)
   case atStart => exact ⟨0, rfl, Nat.zero_le _, Lib.hid (Below.refl _ _), Lib.hid fun j hj => absurd hj (Nat.not_lt_zero _)⟩
   case round =>
     obtain ⟨k, rfl, hk, HB, HA⟩ := hrel
     by_cases hlt : k < n
     · obtain ⟨b1, o1, rfl, _, c0, c1⟩ := at_cells HR.out.1 HB.out (show k < a.length by have := HN.out; omega)
       obtain ⟨b2, o2, rfl, _, d0, d1⟩ := at_cells HR.out.2 HB.out (show k < b.length by have := HN.out; omega)
       have g1 := fun w => neqv (a.getD k default) (b.getD k default) w
       have g2 := fun op a' b' w => grd op a' b' (a.getD k default) (b.getD k default) w
       generalize hx : a.getD k default = x at c0 c1 g1 g2
       generalize hy : b.getD k default = y at d0 d1 g1 g2
       have HXY := Lib.hid (And.intro hx hy)
       clear hx hy
       generalize hxy : decide (x = y) = bb at g1
       cases bb with
       | true =>
         have HE := Lib.hid (of_decide_eq_true hxy)
         clear hxy
         simp only [Bool.not_true] at g1
         go_wp2_with fail
         go_region
         go_wp2
         go_roundw
         case rel => exact ⟨k + 1, by go_num, by omega, Lib.hid (below_drew HB.out), Lib.hid fun j hj => by
           by_cases e : j = k
           · subst e; rw [HXY.out.1, HXY.out.2]; exact HE.out
           · exact HA.out j (by omega)⟩
         case measure => simp [intOf]; omega
       | false =>
         have HF : Hid (decide (a = b) = false) := Lib.hid (decide_eq_false (ne_getD (k := k) (by rw [HXY.out.1, HXY.out.2]; exact of_decide_eq_false hxy)))
         clear hxy
         simp only [Bool.not_false] at g1
         go_wp2_with fail
         go_region
         go_wp2
         go_ret
         exact ⟨by rw [HF.out]; rfl, below_drew HB.out⟩
     · have hkn : k = n := by omega
       have HF : Hid (decide (a = b) = true) := Lib.hid (decide_eq_true (ext_getD (by rw [← HN.out.1, ← HN.out.2]) (by rw [← HN.out.1, ← hkn]; exact HA.out)))
       go_wp2
       go_ret
       exact ⟨by rw [HF.out]; rfl, HB.out⟩
 · have HF : Hid (decide (a = b) = false) := Lib.hid (decide_eq_false fun e => hlen (by rw [e]))
   obtain ⟨n, hn⟩ : ∃ n, n = a.length := ⟨_, rfl⟩
   obtain ⟨m, hm⟩ : ∃ m, m = b.length := ⟨_, rfl⟩
   rw [← hn] at ha hlen ⊢
   rw [← hm] at hb hlen ⊢
   clear hr hr2 hn hm
   go_enter Tryz.func55, Tryz.ntmps55
   go_wp2
   go_ret
   exact ⟨by rw [HF.out]; rfl, Below.refl _ _⟩
theorem take_snoc (l : List At) (k : Nat) (h : k < l.length) : l.take (k + 1) = l.take k ++ [l.getD k default] := by
 rw [List.take_add_one, List.getElem?_eq_getElem h, List.getD_eq_getElem?_getD, List.getElem?_eq_getElem h]
 rfl
end Go.Proofs.YtniaijgejljjbaaGreat
