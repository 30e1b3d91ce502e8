/- Which attributes may be together. -/
import Derived.Test.YtniaijgejljjbaaGreatY11
import Derived.Lib.QuietBelow
namespace Go.Proofs.YtniaijgejljjbaaGreat
open Go.RowKit Go.Lib Go.Sort
set_option linter.unusedVariables false
set_option linter.unusedSimpArgs false
def okL (l : List At) (k : Nat) : Bool := mayA (l.getD k default) && (k == 0 || ltA (l.getD (k - 1) default) (l.getD k default))
def upL (l : List At) (k : Nat) : Bool := (List.range k).all (okL l)
def mayL (l : List At) : Bool := decide (l.length ≤ 50) && upL l l.length
theorem upL_succ (l : List At) (k : Nat) : upL l (k + 1) = (upL l k && okL l k) := by unfold upL; rw [List.range_succ, List.all_append]; simp
theorem upL_no {l : List At} {k : Nat} (h : k < l.length) (hn : okL l k = false) : upL l l.length = false := by
 unfold upL
 rw [List.all_eq_false]
 exact ⟨k, List.mem_range.2 h, by rw [hn]; decide⟩
theorem sm_get {l : List At} (h : Sm l) (k : Nat) (hk : k < l.length) : (l.getD k default).t.length ≤ 9223372036854775807 ∧ (l.getD k default).v.length ≤ 9223372036854775807 := by
 rw [List.getD_eq_getElem?_getD, List.getElem?_eq_getElem hk]
 exact h _ (List.getElem_mem hk)
theorem cmpA_lt (x y : At) : decide (0 ≤ cmpA x y) = !ltA x y := by
 unfold cmpA
 cases ltA x y <;> cases ltA y x <;> decide
theorem wrapN (m : Nat) (h : m ≤ 1000000) : IntKind.i64.wrap (m : Int) = (m : Int) := by
 rw [IntKind.wrap_i64]
 omega
set_option maxHeartbeats 2000000 in
theorem mayAttrs_any (l : List At) (v : Value) (w : World) (hv : RdV w v l) (hs : Sm l) (hl : l.length ≤ 1000000) :
   Calls Tryz.prog 82 #[v] w fun e w' => e = .returned (.bool (mayL l)) ∧ Below w.heap.size w w' := by
 obtain ⟨A, c, rfl, _, hr⟩ := hv
 by_cases h50 : l.length ≤ 50
 · have HM : Hid (mayL l = upL l l.length) := Lib.hid (by unfold mayL; rw [decide_eq_true h50, Bool.true_and])
   have HR := Lib.hid hr
   have HS := Lib.hid hs
   obtain ⟨n, hn⟩ : ∃ n, n = l.length := ⟨_, rfl⟩
   rw [← hn] at HM hl h50 ⊢
   have HN := Lib.hid hn
   clear hr hs hn
   go_enter Tryz.func82, Tryz.ntmps82
   go_wp2
   go_loopw [10] (fun i wr => ∃ k : Nat, i = .int .i64 k ∧ k ≤ n ∧ Below w.heap.size w wr ∧ Hid (upL l k = true)) (fun i _ => n - (intOf i).toNat)
   case atStart => exact ⟨0, rfl, Nat.zero_le _, Below.refl _ _, Lib.hid rfl⟩
   case round =>
     obtain ⟨k, rfl, hk, hB, HU⟩ := hrel
     have HB := Lib.hid hB
     clear hB
     by_cases hlt : k < n
     · obtain ⟨b, off, rfl, hbl, c0, c1⟩ := at_cells HR.out HB.out (show k < l.length by have := HN.out; omega)
       have hx := sm_get HS.out k (by have := HN.out; omega)
       have HNO := Lib.hid (fun h => upL_no (l := l) (k := k) (by have := HN.out; omega) h)
       have HUS := Lib.hid (upL_succ l k)
       have hbw := HB.out.size
       have hb1 : Below w.heap.size w (wr.alloc (.cells #[.string (sx (l.getD k default).t), .string (sx (l.getD k default).v)] 99)) := HB.out.alloc hbw _
       have hblk := Blk.new wr 99 #[.string (sx (l.getD k default).t), .string (sx (l.getD k default).v)]
       have hsz2 := Nat.le_trans hbw (show wr.heap.size ≤ (wr.alloc (.cells #[.string (sx (l.getD k default).t), .string (sx (l.getD k default).v)] 99)).heap.size by rw [World.size_alloc]; omega)
       by_cases hk0 : k = 0
       · have HOK : Hid (okL l k = mayA (l.getD k default)) := Lib.hid (by unfold okL; rw [show (k == 0) = true from by simpa using hk0, Bool.true_or, Bool.and_true])
         generalize l.getD k default = x at c0 c1 hx HOK hb1 hblk hsz2
         have hmm := fun W => mayAttr_any x W hx.1 hx.2
         clear hx
         generalize hma : mayA x = r at hmm HOK
         clear hma
         subst hk0
         rw [show off + 0 * 2 = off from by omega] at c0 c1
         go_wp2_with fail
         generalize hW : wr.alloc (.cells #[.string (sx x.t), .string (sx x.v)] 99) = W at hb1 hblk hsz2 ⊢
         have HX := Lib.hid (And.intro hb1 hsz2)
         have e00 : W.cell? ⟨wr.heap.size, 0, none⟩ = some (.string (sx x.t)) := hblk.cell 0
         have e10 : W.cell? ⟨wr.heap.size, 1, none⟩ = some (.string (sx x.v)) := hblk.cell 1
         have e0 := cell_regrown e00
         have e1 := cell_regrown e10
         clear e00 e10
         have cA := fun d os => Calls.regrown_of (hmm (grow (redrawn W d) os))
         clear hW hb1 hsz2 hblk hmm
         cases r with
         | false =>
           have HF : Hid (mayL l = false) := Lib.hid (by rw [HM.out, HN.out]; exact HNO.out HOK.out)
           clear HNO HUS HU
           refine wp_region_quiet_below (by kernel_rfl) (by kernel_rfl) ?_
           repeat
             with_reducible refine wpQuiet_step (fun K hK => ?_)
             go_simp
             first
               | (with_reducible refine hK _ ?_; clear hK K)
               | (rw [if_neg (by first | decide | (intro h; cases h))]; with_reducible refine hK _ ?_; clear hK K)
               | (apply Exists.intro; refine ⟨fun _ => ?_, hK _ ?_⟩; (exact cA _ _); clear hK K)
           with_reducible refine wpQuiet_nil ?_
           rintro _ ⟨⟨dq, osq⟩, rfl⟩
           have HB2 := Lib.hid (HX.out.1.trans ((below_regrown W dq osq).mono HX.out.2))
           clear e0 e1 cA
           generalize grow (redrawn W dq) osq = w2 at HB2 ⊢
           go_wp2
           go_ret
           exact ⟨by rw [HF.out]; rfl, HB2.out⟩
         | true =>
           have HU2 : Hid (upL l (0 + 1) = true) := Lib.hid (by rw [HUS.out, HU.out, HOK.out]; rfl)
           clear HNO HUS HU
           refine wp_region_quiet_below (by kernel_rfl) (by kernel_rfl) ?_
           repeat
             with_reducible refine wpQuiet_step (fun K hK => ?_)
             go_simp
             first
               | (with_reducible refine hK _ ?_; clear hK K)
               | (rw [if_neg (by first | decide | (intro h; cases h))]; with_reducible refine hK _ ?_; clear hK K)
               | (apply Exists.intro; refine ⟨fun _ => ?_, hK _ ?_⟩; (exact cA _ _); clear hK K)
           with_reducible refine wpQuiet_nil ?_
           rintro _ ⟨⟨dq, osq⟩, rfl⟩
           have HB2 := Lib.hid (HX.out.1.trans ((below_regrown W dq osq).mono HX.out.2))
           clear e0 e1 cA
           generalize grow (redrawn W dq) osq = w2 at HB2 ⊢
           go_wp2
           go_roundw
           case rel => exact ⟨1, by go_num, by omega, HB2.out, HU2⟩
           case measure => simp [intOf]; omega
       · obtain ⟨b2, off2, hA2, hbl2, d0, d1⟩ := at_cells HR.out hb1 (show k - 1 < l.length by have := HN.out; omega)
         injection hA2 with hA2
         injection hA2 with hA2 hA3
         subst hA2 hA3
         have HOK : Hid (okL l k = (mayA (l.getD k default) && ltA (l.getD (k - 1) default) (l.getD k default))) := Lib.hid (by unfold okL; rw [show (k == 0) = false from by simpa using hk0, Bool.false_or])
         generalize l.getD k default = x at c0 c1 hx HOK hb1 hblk hsz2 d0 d1
         generalize l.getD (k - 1) default = y at HOK d0 d1
         have hmm := fun W => mayAttr_any x W hx.1 hx.2
         have hcc := fun W => (compare_any y x W).mono fun e w' h => (show e = .returned (.int .i64 (cmpA y x)) ∧ Below W.heap.size W w' from ⟨h.1, by
           rw [h.2]
           exact below_drew ((((Below.refl _ _).alloc (Nat.le_refl _) _).alloc (by simp) _).alloc (by simp; omega) _)⟩)
         have hlt2 := cmpA_lt y x
         clear hx
         generalize hma : mayA x = r at hmm HOK
         clear hma
         generalize cmpA y x = cv at hcc hlt2
         generalize ltA y x = r2 at HOK hlt2
         have hkp : 0 < k := by omega
         obtain ⟨m, hm⟩ : ∃ m, m = k - 1 := ⟨_, rfl⟩
         rw [← hm] at d0 d1
         have hmn : m < n := by omega
         have hwrap : IntKind.i64.wrap ((k : Int) - 1) = (m : Int) := by
           have e : (k : Int) - 1 = (m : Int) := by omega
           rw [e]
           exact wrapN m (by omega)
         have HMK := Lib.hid hm
         clear hm
         go_wp2_with fail
         generalize hW : wr.alloc (.cells #[.string (sx x.t), .string (sx x.v)] 99) = W at hb1 hblk hsz2 d0 d1 ⊢
         have HX := Lib.hid (And.intro hb1 hsz2)
         have e00 : W.cell? ⟨wr.heap.size, 0, none⟩ = some (.string (sx x.t)) := hblk.cell 0
         have e10 : W.cell? ⟨wr.heap.size, 1, none⟩ = some (.string (sx x.v)) := hblk.cell 1
         have e0 := cell_regrown e00
         have e1 := cell_regrown e10
         clear e00 e10
         have e2 := cell_regrown d0
         have e3 := cell_regrown d1
         have cA := fun d os => Calls.regrown_of (hmm (grow (redrawn W d) os))
         have cC := fun d os => Calls.regrown_of (hcc (grow (redrawn W d) os))
         clear hW hb1 hsz2 hblk hmm hcc d0 d1
         cases r with
         | false =>
           have HF : Hid (mayL l = false) := Lib.hid (by rw [HM.out, HN.out]; exact HNO.out HOK.out)
           clear HNO HUS HU
           refine wp_region_quiet_below (by kernel_rfl) (by kernel_rfl) ?_
           repeat
             with_reducible refine wpQuiet_step (fun K hK => ?_)
             go_simp
             first
               | (with_reducible refine hK _ ?_; clear hK K)
               | (rw [if_neg (by first | decide | (intro h; cases h))]; with_reducible refine hK _ ?_; clear hK K)
               | (apply Exists.intro; refine ⟨fun _ => ?_, hK _ ?_⟩; (exact cA _ _); clear hK K)
           with_reducible refine wpQuiet_nil ?_
           rintro _ ⟨⟨dq, osq⟩, rfl⟩
           have HB2 := Lib.hid (HX.out.1.trans ((below_regrown W dq osq).mono HX.out.2))
           clear e0 e1 e2 e3 cA cC
           generalize grow (redrawn W dq) osq = w2 at HB2 ⊢
           go_wp2
           go_ret
           exact ⟨by rw [HF.out]; rfl, HB2.out⟩
         | true =>
           cases r2 with
           | false =>
             have HF : Hid (mayL l = false) := Lib.hid (by rw [HM.out, HN.out]; exact HNO.out HOK.out)
             have hlt3 : 0 ≤ cv := of_decide_eq_true hlt2
             clear HNO HUS HU hlt2
             refine wp_region_quiet_below (by kernel_rfl) (by kernel_rfl) ?_
             repeat
               with_reducible refine wpQuiet_step (fun K hK => ?_)
               go_simp
               first
                 | (with_reducible refine hK _ ?_; clear hK K)
                 | (rw [if_neg (by first | decide | (intro h; cases h))]; with_reducible refine hK _ ?_; clear hK K)
                 | (apply Exists.intro; refine ⟨fun _ => ?_, hK _ ?_⟩; (first | exact cA _ _ | exact cC _ _); clear hK K)
             with_reducible refine wpQuiet_nil ?_
             rintro _ ⟨⟨dq, osq⟩, rfl⟩
             have HB2 := Lib.hid (HX.out.1.trans ((below_regrown W dq osq).mono HX.out.2))
             clear e0 e1 e2 e3 cA cC
             generalize grow (redrawn W dq) osq = w2 at HB2 ⊢
             go_wp2
             go_ret
             exact ⟨by rw [HF.out]; rfl, HB2.out⟩
           | true =>
             have HU2 : Hid (upL l (k + 1) = true) := Lib.hid (by rw [HUS.out, HU.out, HOK.out]; rfl)
             have hlt3 : cv < 0 := by have := of_decide_eq_false hlt2; omega
             clear HNO HUS HU hlt2
             refine wp_region_quiet_below (by kernel_rfl) (by kernel_rfl) ?_
             repeat
               with_reducible refine wpQuiet_step (fun K hK => ?_)
               go_simp
               first
                 | (with_reducible refine hK _ ?_; clear hK K)
                 | (rw [if_neg (by first | decide | (intro h; cases h))]; with_reducible refine hK _ ?_; clear hK K)
                 | (apply Exists.intro; refine ⟨fun _ => ?_, hK _ ?_⟩; (first | exact cA _ _ | exact cC _ _); clear hK K)
             with_reducible refine wpQuiet_nil ?_
             rintro _ ⟨⟨dq, osq⟩, rfl⟩
             have HB2 := Lib.hid (HX.out.1.trans ((below_regrown W dq osq).mono HX.out.2))
             clear e0 e1 e2 e3 cA cC
             generalize grow (redrawn W dq) osq = w2 at HB2 ⊢
             go_wp2
             go_roundw
             case rel => exact ⟨k + 1, by go_num, by omega, HB2.out, HU2⟩
             case measure => simp [intOf]; omega
     · have hkn : k = n := by omega
       have HF : Hid (mayL l = true) := Lib.hid (by rw [HM.out, ← hkn, HU.out])
       go_wp2
       go_ret
       exact ⟨by rw [HF.out]; rfl, HB.out⟩
 · have HF : Hid (mayL l = false) := Lib.hid (by unfold mayL; rw [decide_eq_false h50]; rfl)
   obtain ⟨n, hn⟩ : ∃ n, n = l.length := ⟨_, rfl⟩
   rw [← hn] at h50 ⊢
   have hgt : 50 < n := by omega
   clear hr hs hn h50
   go_enter Tryz.func82, Tryz.ntmps82
   go_wp2
   go_ret
   exact ⟨by rw [HF.out]; rfl, Below.refl _ _⟩
end Go.Proofs.YtniaijgejljjbaaGreat
