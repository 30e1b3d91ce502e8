/- Which entries may be; are attributes more than is gone through? -/
import Derived.Test.YtidkpdoiblomjaaZ17
namespace Go.Proofs.Ytidkpdoiblomjaa
open Go.RowKit Go.Lib Go.Sort
set_option linter.unusedVariables false
set_option linter.unusedSimpArgs false
def mayE (name : List UInt8) (l : List At) : Bool := mayN name && mayL l
set_option maxHeartbeats 2000000 in
theorem mayEntry_any (name : List UInt8) (l : List At) (v : Value) (w : World) (hv : RdV w v l) (h1 : name.length ≤ 9223372036854775807) (hs : Sm l) (hl : l.length ≤ 1000000) :
   Calls Try.prog 68 #[.agg #[.string (sx name), v]] w fun e w' => e = .returned (.bool (mayE name l)) ∧ Below w.heap.size w w' := by
 have hb0 := (Below.refl w.heap.size w).alloc (Nat.le_refl _) (.cells #[.string (sx name), v] 47)
 have HN := Lib.hid fun W => mayName_any name W h1
 have HA := Lib.hid (mayAttrs_any l v (w.alloc (.cells #[.string (sx name), v] 47)) (hv.on hb0) hs hl)
 have HZ := Lib.hid (show w.heap.size ≤ (w.alloc (.cells #[.string (sx name), v] 47)).heap.size by rw [World.size_alloc]; omega)
 have HB := Lib.hid hb0
 have HE : Hid (mayE name l = (mayN name && mayL l)) := Lib.hid rfl
 obtain ⟨A, c, rfl, _, _⟩ := hv
 clear hb0 h1 hs hl
 generalize mayN name = r at HN HE
 generalize mayL l = r2 at HA HE
 generalize l.length = n at HA HB HZ ⊢
 cases r with
 | false =>
   go_enter Try.func68, Try.ntmps68
   go_wp2_with (go_at_call 77; (with_reducible refine (HN.out _).mono ?_); rintro e w1 ⟨rfl, rfl⟩)
   go_ret
   exact ⟨by rw [HE.out]; rfl, HB.out⟩
 | true =>
   rw [Bool.true_and] at HE
   go_enter Try.func68, Try.ntmps68
   go_wp2_with (first
     | (go_at_call 77; (with_reducible refine (HN.out _).mono ?_); rintro e w1 ⟨rfl, rfl⟩)
     | (go_at_call 78; (with_reducible refine HA.out.mono ?_); rintro e w2 ⟨rfl, hb2⟩))
   go_ret
   exact ⟨by rw [HE.out]; rfl, HB.out.trans (hb2.mono HZ.out)⟩
set_option maxHeartbeats 2000000 in
theorem refMayEntry_any (name : List UInt8) (l : List At) (v : Value) (w : World) (hv : RdV w v l) (h1 : name.length ≤ 9223372036854775807) (hs : Sm l) (hl : l.length ≤ 1000000) :
   Calls Try.prog 30 #[.agg #[.string (sx name), v]] w fun e w' => e = .returned (.bool (mayE name l)) ∧ Below w.heap.size w w' := by
 have hb0 := (Below.refl w.heap.size w).alloc (Nat.le_refl _) (.cells #[.string (sx name), v] 47)
 have hblk := Blk.new w 47 #[.string (sx name), v]
 have hv1 := hv.on hb0
 obtain ⟨A, c, rfl, _, _⟩ := hv
 have hz : w.heap.size ≤ (w.alloc (.cells #[.string (sx name), .slice A l.length c] 47)).heap.size := by rw [World.size_alloc]; omega
 have HN := Lib.hid fun W => refMayName_any name W h1
 have HE : Hid (mayE name l = (mayN name && mayL l)) := Lib.hid rfl
 obtain ⟨v, hvv⟩ : ∃ v, v = Value.slice A l.length c := ⟨_, rfl⟩
 rw [← hvv] at hv1 hb0 hblk hz ⊢
 have HA := Lib.hid fun W (hb : Below (w.alloc (.cells #[.string (sx name), v] 47)).heap.size (w.alloc (.cells #[.string (sx name), v] 47)) W) => refMayAttrs_any l v W (hv1.on hb) hs hl
 have HX := Lib.hid (And.intro hb0 (And.intro hz hblk))
 rw [hvv]
 rw [hvv] at HA HX
 clear hv1 h1 hs hl hb0 hblk hz hvv v
 generalize mayN name = r at HN HE
 generalize mayL l = r2 at HA HE
 generalize l.length = n at HA HX ⊢
 cases r with
 | false =>
   go_enter Try.func30, Try.ntmps30
   go_wp2_with (go_at_call 46; (with_reducible refine (HN.out _).mono ?_); rintro e w1 ⟨rfl, hb1⟩)
   go_ret
   exact ⟨by rw [HE.out]; rfl, HX.out.1.trans (hb1.mono HX.out.2.1)⟩
 | true =>
   rw [Bool.true_and] at HE
   go_enter Try.func30, Try.ntmps30
   go_wp2_with (first
     | (go_at_call 46; (with_reducible refine (HN.out _).mono ?_); rintro e w1 ⟨rfl, hb1⟩; have HB1 := Lib.hid hb1; have HA1 := Lib.hid (HA.out _ hb1); have e1 := (HX.out.2.2.on hb1).cell 1; clear hb1)
     | (go_at_call 47; (with_reducible refine HA1.out.mono ?_); rintro e w2 ⟨rfl, hb2⟩))
   go_ret
   exact ⟨by rw [HE.out]; rfl, HX.out.1.trans ((HB1.out.trans (hb2.mono HB1.out.size)).mono HX.out.2.1)⟩
def szA (x : At) : Nat := min x.t.length 20001 + min x.v.length 20001
def sumK (l : List At) (k : Nat) : Nat := ((List.range k).map fun i => szA (l.getD i default)).sum
def muchV (l : List At) : Bool := decide (120 < l.length) || decide (20000 < sumK l (min l.length 121))
theorem getD_at (l : List At) (k : Nat) (h : k < l.length) : l.getD k default = l[k] := by rw [List.getD_eq_getElem?_getD, List.getElem?_eq_getElem h]; rfl
theorem upL_iff {l : List At} : upL l l.length = true ↔ (∀ x ∈ l, mayA x = true) ∧ Rises l := by
 unfold upL
 rw [List.all_eq_true]
 constructor
 · intro h
   have hk : ∀ k (hk : k < l.length), okL l k = true := fun k hk => h k (List.mem_range.2 hk)
   refine ⟨fun x hx => ?_, ?_⟩
   · obtain ⟨k, hk1, rfl⟩ := List.mem_iff_getElem.1 hx
     have := hk k hk1
     unfold okL at this
     rw [getD_at l k hk1] at this
     exact (Bool.and_eq_true_iff.1 this).1
   · refine List.pairwise_iff_getElem.2 fun i j hi hj hij => ?_
     induction j with
     | zero => omega
     | succ j ih =>
       have h1 := hk (j + 1) hj
       unfold okL at h1
       rw [getD_at l _ hj, show j + 1 - 1 = j from rfl, getD_at l j (by omega)] at h1
       have h2 : ltA l[j] l[j + 1] = true := by simpa using (Bool.and_eq_true_iff.1 h1).2
       by_cases e : i = j
       · subst e; exact h2
       · exact ltA_trans (ih (by omega) (by omega)) h2
 · rintro ⟨h1, h2⟩ k hk
   have hk := List.mem_range.1 hk
   unfold okL
   rw [getD_at l k hk, h1 _ (List.getElem_mem hk), Bool.true_and]
   by_cases h0 : k = 0
   · subst h0; rfl
   · rw [getD_at l (k - 1) (by omega), (List.pairwise_iff_getElem.1 h2) (k - 1) k (by omega) hk (by omega), Bool.or_true]
theorem mayL_iff {l : List At} : mayL l = true ↔ l.length ≤ 50 ∧ (∀ x ∈ l, mayA x = true) ∧ Rises l := by
 unfold mayL
 rw [Bool.and_eq_true_iff, upL_iff, decide_eq_true_iff]
theorem ext_getD {a b : List At} (h : a.length = b.length) (h2 : ∀ j, j < a.length → a.getD j default = b.getD j default) : a = b := by
 refine List.ext_getElem h fun j h3 h4 => ?_
 have := h2 j h3
 rwa [getD_at a j h3, getD_at b j h4] at this
theorem ne_getD {a b : List At} {k : Nat} (h : a.getD k default ≠ b.getD k default) : a ≠ b := fun e => h (by rw [e])
set_option maxHeartbeats 2000000 in
theorem refSame_any (a b : List At) (va vb : Value) (w : World) (hva : RdV w va a) (hvb : RdV w vb b) (ha : a.length ≤ 9223372036854775807) (hb : b.length ≤ 9223372036854775807) :
   Calls Try.prog 51 #[va, vb] w fun e w' => e = .returned (.bool (decide (a = b))) ∧ Below w.heap.size w w' := by
 obtain ⟨A, c, rfl, _, hr⟩ := hva
 obtain ⟨B, d, rfl, _, hr2⟩ := hvb
 by_cases hlen : a.length = b.length
 · have HR := Lib.hid (And.intro hr hr2)
   rw [← hlen]
   obtain ⟨n, hn⟩ : ∃ n, n = a.length := ⟨_, rfl⟩
   rw [← hn] at ha ⊢
   have HN := Lib.hid (And.intro hn (hn.trans hlen))
   clear hr hr2 hn hlen hb
   go_enter Try.func51, Try.ntmps51
   go_wp2
   go_loopw [5] (fun i wr => ∃ k : Nat, i = .int .i64 k ∧ k ≤ n ∧ Hid (Below w.heap.size w wr) ∧ Hid (∀ j, j < k → a.getD j default = b.getD j default)) (fun i _ => n - (intOf i).toNat)
   case atStart => exact ⟨0, rfl, Nat.zero_le _, Lib.hid (Below.refl _ _), Lib.hid fun j hj => absurd hj (Nat.not_lt_zero _)⟩
   case round =>
     obtain ⟨k, rfl, hk, HB, HA⟩ := hrel
     by_cases hlt : k < n
     · obtain ⟨b1, o1, rfl, _, c0, c1⟩ := at_cells HR.out.1 HB.out (show k < a.length by have := HN.out; omega)
       obtain ⟨b2, o2, rfl, _, d0, d1⟩ := at_cells HR.out.2 HB.out (show k < b.length by have := HN.out; omega)
       have g1 := fun w => neqv (a.getD k default) (b.getD k default) w
       have g2 := fun op a' b' w => grd op a' b' (a.getD k default) (b.getD k default) w
       generalize hx : a.getD k default = x at c0 c1 g1 g2
       generalize hy : b.getD k default = y at d0 d1 g1 g2
       have HXY := Lib.hid (And.intro hx hy)
       clear hx hy
       generalize hxy : decide (x = y) = bb at g1
       cases bb with
       | true =>
         have HE := Lib.hid (of_decide_eq_true hxy)
         clear hxy
         simp only [Bool.not_true] at g1
         go_wp2_with fail
         go_region
         go_wp2
         go_roundw
         case rel => exact ⟨k + 1, by go_num, by omega, Lib.hid (below_drew HB.out), Lib.hid fun j hj => by
           by_cases e : j = k
           · subst e; rw [HXY.out.1, HXY.out.2]; exact HE.out
           · exact HA.out j (by omega)⟩
         case measure => simp [intOf]; omega
       | false =>
         have HF : Hid (decide (a = b) = false) := Lib.hid (decide_eq_false (ne_getD (k := k) (by rw [HXY.out.1, HXY.out.2]; exact of_decide_eq_false hxy)))
         clear hxy
         simp only [Bool.not_false] at g1
         go_wp2_with fail
         go_region
         go_wp2
         go_ret
         exact ⟨by rw [HF.out]; rfl, below_drew HB.out⟩
     · have hkn : k = n := by omega
       have HF : Hid (decide (a = b) = true) := Lib.hid (decide_eq_true (ext_getD (by rw [← HN.out.1, ← HN.out.2]) (by rw [← HN.out.1, ← hkn]; exact HA.out)))
       go_wp2
       go_ret
       exact ⟨by rw [HF.out]; rfl, HB.out⟩
 · have HF : Hid (decide (a = b) = false) := Lib.hid (decide_eq_false fun e => hlen (by rw [e]))
   obtain ⟨n, hn⟩ : ∃ n, n = a.length := ⟨_, rfl⟩
   obtain ⟨m, hm⟩ : ∃ m, m = b.length := ⟨_, rfl⟩
   rw [← hn] at ha hlen ⊢
   rw [← hm] at hb hlen ⊢
   clear hr hr2 hn hm
   go_enter Try.func51, Try.ntmps51
   go_wp2
   go_ret
   exact ⟨by rw [HF.out]; rfl, Below.refl _ _⟩
set_option maxHeartbeats 2000000 in
theorem equal_any (a b : List At) (va vb : Value) (w : World) (hva : RdV w va a) (hvb : RdV w vb b) (ha : a.length ≤ 9223372036854775807) (hb : b.length ≤ 9223372036854775807) :
   Calls Try.prog 61 #[va, vb] w fun e w' => e = .returned (.bool (decide (a = b))) ∧ Below w.heap.size w w' := by
 obtain ⟨A, c, rfl, _, hr⟩ := hva
 obtain ⟨B, d, rfl, _, hr2⟩ := hvb
 by_cases hlen : a.length = b.length
 · have HR := Lib.hid (And.intro hr hr2)
   rw [← hlen]
   obtain ⟨n, hn⟩ : ∃ n, n = a.length := ⟨_, rfl⟩
   rw [← hn] at ha ⊢
   have HN := Lib.hid (And.intro hn (hn.trans hlen))
   clear hr hr2 hn hlen hb
   go_enter Try.func61, Try.ntmps61
   go_wp2
   go_loopw [13] (fun i wr => ∃ k : Nat, i = .int .i64 k ∧ k ≤ n ∧ Hid (Below w.heap.size w wr) ∧ Hid (∀ j, j < k → a.getD j default = b.getD j default)) (fun i _ => n - (intOf i).toNat)
   case atStart => exact ⟨0, rfl, Nat.zero_le _, Lib.hid (Below.refl _ _), Lib.hid fun j hj => absurd hj (Nat.not_lt_zero _)⟩
   case round =>
     obtain ⟨k, rfl, hk, HB, HA⟩ := hrel
     by_cases hlt : k < n
     · obtain ⟨b1, o1, rfl, _, c0, c1⟩ := at_cells HR.out.1 HB.out (show k < a.length by have := HN.out; omega)
       obtain ⟨b2, o2, rfl, _, d0, d1⟩ := at_cells HR.out.2 HB.out (show k < b.length by have := HN.out; omega)
       have g1 := fun w => neqv (a.getD k default) (b.getD k default) w
       have g2 := fun op a' b' w => grd op a' b' (a.getD k default) (b.getD k default) w
       generalize hx : a.getD k default = x at c0 c1 g1 g2
       generalize hy : b.getD k default = y at d0 d1 g1 g2
       have HXY := Lib.hid (And.intro hx hy)
       clear hx hy
       generalize hxy : decide (x = y) = bb at g1
       cases bb with
       | true =>
         have HE := Lib.hid (of_decide_eq_true hxy)
         clear hxy
         simp only [Bool.not_true] at g1
         go_wp2_with fail
         go_region
         go_wp2
         go_roundw
         case rel => exact ⟨k + 1, by go_num, by omega, Lib.hid (below_drew HB.out), Lib.hid fun j hj => by
           by_cases e : j = k
           · subst e; rw [HXY.out.1, HXY.out.2]; exact HE.out
           · exact HA.out j (by omega)⟩
         case measure => simp [intOf]; omega
       | false =>
         have HF : Hid (decide (a = b) = false) := Lib.hid (decide_eq_false (ne_getD (k := k) (by rw [HXY.out.1, HXY.out.2]; exact of_decide_eq_false hxy)))
         clear hxy
         simp only [Bool.not_false] at g1
         go_wp2_with fail
         go_region
         go_wp2
         go_ret
         exact ⟨by rw [HF.out]; rfl, below_drew HB.out⟩
     · have hkn : k = n := by omega
       have HF : Hid (decide (a = b) = true) := Lib.hid (decide_eq_true (ext_getD (by rw [← HN.out.1, ← HN.out.2]) (by rw [← HN.out.1, ← hkn]; exact HA.out)))
       go_wp2
       go_ret
       exact ⟨by rw [HF.out]; rfl, HB.out⟩
 · have HF : Hid (decide (a = b) = false) := Lib.hid (decide_eq_false fun e => hlen (by rw [e]))
   obtain ⟨n, hn⟩ : ∃ n, n = a.length := ⟨_, rfl⟩
   obtain ⟨m, hm⟩ : ∃ m, m = b.length := ⟨_, rfl⟩
   rw [← hn] at ha hlen ⊢
   rw [← hm] at hb hlen ⊢
   clear hr hr2 hn hm
   go_enter Try.func61, Try.ntmps61
   go_wp2
   go_ret
   exact ⟨by rw [HF.out]; rfl, Below.refl _ _⟩
end Go.Proofs.Ytidkpdoiblomjaa
