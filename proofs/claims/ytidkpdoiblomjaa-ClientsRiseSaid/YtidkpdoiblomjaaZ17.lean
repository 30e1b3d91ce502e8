/- Which attributes may be together, by the document. -/
import Derived.Test.YtidkpdoiblomjaaZ16
namespace Go.Proofs.Ytidkpdoiblomjaa
open Go.RowKit Go.Lib Go.Sort
set_option linter.unusedVariables false
set_option linter.unusedSimpArgs false
set_option maxHeartbeats 2000000 in
theorem refMayAttrs_any (l : List At) (v : Value) (w : World) (hv : RdV w v l) (hs : Sm l) (hl : l.length ≤ 1000000) :
   Calls Try.prog 47 #[v] w fun e w' => e = .returned (.bool (mayL l)) ∧ Below w.heap.size w w' := by
 obtain ⟨A, c, rfl, _, hr⟩ := hv
 by_cases h50 : l.length ≤ 50
 · have HM : Hid (mayL l = upL l l.length) := Lib.hid (by unfold mayL; rw [decide_eq_true h50, Bool.true_and])
   have HR := Lib.hid hr
   have HS := Lib.hid hs
   obtain ⟨n, hn⟩ : ∃ n, n = l.length := ⟨_, rfl⟩
   rw [← hn] at HM hl h50 ⊢
   have HN := Lib.hid hn
   clear hr hs hn
   go_enter Try.func47, Try.ntmps47
   go_wp2
   go_loopw [3] (fun i wr => ∃ k : Nat, i = .int .i64 k ∧ k ≤ n ∧ Below w.heap.size w wr ∧ Hid (upL l k = true)) (fun i _ => n - (intOf i).toNat)
   case atStart => exact ⟨0, rfl, Nat.zero_le _, Below.refl _ _, Lib.hid rfl⟩
   case round =>
     obtain ⟨k, rfl, hk, hB, HU⟩ := hrel
     have HB := Lib.hid hB
     clear hB
     by_cases hlt : k < n
     · obtain ⟨b, off, rfl, hbl, c0, c1⟩ := at_cells HR.out HB.out (show k < l.length by have := HN.out; omega)
       have hx := sm_get HS.out k (by have := HN.out; omega)
       have HNO := Lib.hid (fun h => upL_no (l := l) (k := k) (by have := HN.out; omega) h)
       have HUS := Lib.hid (upL_succ l k)
       have hbw := HB.out.size
       have hb1 := HB.out
       have hsz2 := hbw
       by_cases hk0 : k = 0
       · have HOK : Hid (okL l k = mayA (l.getD k default)) := Lib.hid (by unfold okL; rw [show (k == 0) = true from by simpa using hk0, Bool.true_or, Bool.and_true])
         generalize l.getD k default = x at c0 c1 hx HOK
         have hmm := fun W => refMayAttr_any x W hx.1 hx.2
         clear hx
         generalize hma : mayA x = r at hmm HOK
         clear hma
         subst hk0
         rw [show off + 0 * 2 = off from by omega] at c0 c1
         go_wp2_with fail
         have HX := Lib.hid (And.intro hb1 hsz2)
         have e0 := cell_regrown c0
         have e1 := cell_regrown c1
         have cA := fun d os => Calls.regrown_of (hmm (grow (redrawn wr d) os))
         clear hb1 hsz2 hmm c0 c1
         cases r with
         | false =>
           have HF : Hid (mayL l = false) := Lib.hid (by rw [HM.out, HN.out]; exact HNO.out HOK.out)
           clear HNO HUS HU
           refine wp_region_quiet_below (by kernel_rfl) (by kernel_rfl) ?_
           repeat
             with_reducible refine wpQuiet_step (fun K hK => ?_)
             go_simp
             first
               | (with_reducible refine hK _ ?_; clear hK K)
               | (rw [if_neg (by first | decide | (intro h; cases h))]; with_reducible refine hK _ ?_; clear hK K)
               | (apply Exists.intro; refine ⟨fun _ => ?_, hK _ ?_⟩; (exact cA _ _); clear hK K)
           with_reducible refine wpQuiet_nil ?_
           rintro _ ⟨⟨dq, osq⟩, rfl⟩
           have HB2 := Lib.hid (HX.out.1.trans ((below_regrown wr dq osq).mono HX.out.2))
           clear e0 e1 cA
           generalize grow (redrawn wr dq) osq = w2 at HB2 ⊢
           go_wp2
           go_ret
           exact ⟨by rw [HF.out]; rfl, HB2.out⟩
         | true =>
           have HU2 : Hid (upL l (0 + 1) = true) := Lib.hid (by rw [HUS.out, HU.out, HOK.out]; rfl)
           clear HNO HUS HU
           refine wp_region_quiet_below (by kernel_rfl) (by kernel_rfl) ?_
           repeat
             with_reducible refine wpQuiet_step (fun K hK => ?_)
             go_simp
             first
               | (with_reducible refine hK _ ?_; clear hK K)
               | (rw [if_neg (by first | decide | (intro h; cases h))]; with_reducible refine hK _ ?_; clear hK K)
               | (apply Exists.intro; refine ⟨fun _ => ?_, hK _ ?_⟩; (exact cA _ _); clear hK K)
           with_reducible refine wpQuiet_nil ?_
           rintro _ ⟨⟨dq, osq⟩, rfl⟩
           have HB2 := Lib.hid (HX.out.1.trans ((below_regrown wr dq osq).mono HX.out.2))
           clear e0 e1 cA
           generalize grow (redrawn wr dq) osq = w2 at HB2 ⊢
           go_wp2
           go_roundw
           case rel => exact ⟨1, by go_num, by omega, HB2.out, HU2⟩
           case measure => simp [intOf]; omega
       · obtain ⟨b2, off2, hA2, hbl2, d0, d1⟩ := at_cells HR.out hb1 (show k - 1 < l.length by have := HN.out; omega)
         injection hA2 with hA2
         injection hA2 with hA2 hA3
         subst hA2 hA3
         have HOK : Hid (okL l k = (mayA (l.getD k default) && ltA (l.getD (k - 1) default) (l.getD k default))) := Lib.hid (by unfold okL; rw [show (k == 0) = false from by simpa using hk0, Bool.false_or])
         generalize l.getD k default = x at c0 c1 hx HOK d0 d1
         generalize l.getD (k - 1) default = y at HOK d0 d1
         have hmm := fun W => refMayAttr_any x W hx.1 hx.2
         have hcc := fun W => less_any y x W
         clear hx
         generalize hma : mayA x = r at hmm HOK
         clear hma
         generalize ltA y x = r2 at hcc HOK
         have hkp : 0 < k := by omega
         obtain ⟨m, hm⟩ : ∃ m, m = k - 1 := ⟨_, rfl⟩
         rw [← hm] at d0 d1
         have hmn : m < n := by omega
         have hwrap : IntKind.i64.wrap ((k : Int) - 1) = (m : Int) := by
           have e : (k : Int) - 1 = (m : Int) := by omega
           rw [e]
           exact wrapN m (by omega)
         have HMK := Lib.hid hm
         clear hm
         go_wp2_with fail
         have HX := Lib.hid (And.intro hb1 hsz2)
         have e0 := cell_regrown c0
         have e1 := cell_regrown c1
         have e2 := cell_regrown d0
         have e3 := cell_regrown d1
         have cA := fun d os => Calls.regrown_of (hmm (grow (redrawn wr d) os))
         have cC := fun d os => Calls.regrown_of (hcc (grow (redrawn wr d) os))
         clear hb1 hsz2 hmm hcc d0 d1 c0 c1
         cases r with
         | false =>
           have HF : Hid (mayL l = false) := Lib.hid (by rw [HM.out, HN.out]; exact HNO.out HOK.out)
           clear HNO HUS HU
           refine wp_region_quiet_below (by kernel_rfl) (by kernel_rfl) ?_
           repeat
             with_reducible refine wpQuiet_step (fun K hK => ?_)
             go_simp
             first
               | (with_reducible refine hK _ ?_; clear hK K)
               | (rw [if_neg (by first | decide | (intro h; cases h))]; with_reducible refine hK _ ?_; clear hK K)
               | (apply Exists.intro; refine ⟨fun _ => ?_, hK _ ?_⟩; (exact cA _ _); clear hK K)
           with_reducible refine wpQuiet_nil ?_
           rintro _ ⟨⟨dq, osq⟩, rfl⟩
           have HB2 := Lib.hid (HX.out.1.trans ((below_regrown wr dq osq).mono HX.out.2))
           clear e0 e1 e2 e3 cA cC
           generalize grow (redrawn wr dq) osq = w2 at HB2 ⊢
           go_wp2
           go_ret
           exact ⟨by rw [HF.out]; rfl, HB2.out⟩
         | true =>
           cases r2 with
           | false =>
             have HF : Hid (mayL l = false) := Lib.hid (by rw [HM.out, HN.out]; exact HNO.out HOK.out)
             clear HNO HUS HU
             refine wp_region_quiet_below (by kernel_rfl) (by kernel_rfl) ?_
             repeat
               with_reducible refine wpQuiet_step (fun K hK => ?_)
               go_simp
               first
                 | (with_reducible refine hK _ ?_; clear hK K)
                 | (rw [if_neg (by first | decide | (intro h; cases h))]; with_reducible refine hK _ ?_; clear hK K)
                 | (apply Exists.intro; refine ⟨fun _ => ?_, hK _ ?_⟩; (first | exact cA _ _ | exact cC _ _); clear hK K)
             with_reducible refine wpQuiet_nil ?_
             rintro _ ⟨⟨dq, osq⟩, rfl⟩
             have HB2 := Lib.hid (HX.out.1.trans ((below_regrown wr dq osq).mono HX.out.2))
             clear e0 e1 e2 e3 cA cC
             generalize grow (redrawn wr dq) osq = w2 at HB2 ⊢
             go_wp2
             go_ret
             exact ⟨by rw [HF.out]; rfl, HB2.out⟩
           | true =>
             have HU2 : Hid (upL l (k + 1) = true) := Lib.hid (by rw [HUS.out, HU.out, HOK.out]; rfl)
             clear HNO HUS HU
             refine wp_region_quiet_below (by kernel_rfl) (by kernel_rfl) ?_
             repeat
               with_reducible refine wpQuiet_step (fun K hK => ?_)
               go_simp
               first
                 | (with_reducible refine hK _ ?_; clear hK K)
                 | (rw [if_neg (by first | decide | (intro h; cases h))]; with_reducible refine hK _ ?_; clear hK K)
                 | (apply Exists.intro; refine ⟨fun _ => ?_, hK _ ?_⟩; (first | exact cA _ _ | exact cC _ _); clear hK K)
             with_reducible refine wpQuiet_nil ?_
             rintro _ ⟨⟨dq, osq⟩, rfl⟩
             have HB2 := Lib.hid (HX.out.1.trans ((below_regrown wr dq osq).mono HX.out.2))
             clear e0 e1 e2 e3 cA cC
             generalize grow (redrawn wr dq) osq = w2 at HB2 ⊢
             go_wp2
             go_roundw
             case rel => exact ⟨k + 1, by go_num, by omega, HB2.out, HU2⟩
             case measure => simp [intOf]; omega
     · have hkn : k = n := by omega
       have HF : Hid (mayL l = true) := Lib.hid (by rw [HM.out, ← hkn, HU.out])
       go_wp2
       go_ret
       exact ⟨by rw [HF.out]; rfl, HB.out⟩
 · have HF : Hid (mayL l = false) := Lib.hid (by unfold mayL; rw [decide_eq_false h50]; rfl)
   obtain ⟨n, hn⟩ : ∃ n, n = l.length := ⟨_, rfl⟩
   rw [← hn] at h50 ⊢
   have hgt : 50 < n := by omega
   clear hr hs hn h50
   go_enter Try.func47, Try.ntmps47
   go_wp2
   go_ret
   exact ⟨by rw [HF.out]; rfl, Below.refl _ _⟩
end Go.Proofs.Ytidkpdoiblomjaa
