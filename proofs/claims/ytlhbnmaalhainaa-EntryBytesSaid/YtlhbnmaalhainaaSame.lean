/- Are attributes the same; is one of them such; are entries the same. -/
import Derived.Test.YtlhbnmaalhainaaChg2
namespace Go.Proofs.Ytlhbnmaalhainaa
open Go.RowKit Go.Lib Go.Sort
set_option linter.unusedVariables false
set_option linter.unusedSimpArgs false

theorem ext_getD {a b : List At} (h : a.length = b.length) (h2 : ∀ j, j < a.length → a.getD j default = b.getD j default) : a = b := by
  refine List.ext_getElem h fun j h3 h4 => ?_
  have := h2 j h3
  rwa [getD_at a j h3, getD_at b j h4] at this
theorem ne_getD {a b : List At} {k : Nat} (h : a.getD k default ≠ b.getD k default) : a ≠ b := fun e => h (by rw [e])
set_option maxHeartbeats 2000000 in
theorem refSame_any (a b : List At) (va vb : Value) (w : World) (hva : RdV w va a) (hvb : RdV w vb b) (ha : a.length ≤ 9223372036854775807) (hb : b.length ≤ 9223372036854775807) :
    Calls Try.prog 30 #[va, vb] w fun e w' => e = .returned (.bool (decide (a = b))) ∧ Below w.heap.size w w' := by
  obtain ⟨A, c, rfl, _, hr⟩ := hva
  obtain ⟨B, d, rfl, _, hr2⟩ := hvb
  by_cases hlen : a.length = b.length
  · have HR := Lib.hid (And.intro hr hr2)
    rw [← hlen]
    obtain ⟨n, hn⟩ : ∃ n, n = a.length := ⟨_, rfl⟩
    rw [← hn] at ha ⊢
    have HN := Lib.hid (And.intro hn (hn.trans hlen))
    clear hr hr2 hn hlen hb
    go_enter Try.func30, Try.ntmps30
    go_wp2
    go_loopw [5] (fun i wr => ∃ k : Nat, i = .int .i64 k ∧ k ≤ n ∧ Hid (Below w.heap.size w wr) ∧ Hid (∀ j, j < k → a.getD j default = b.getD j default)) (fun i _ => n - (intOf i).toNat)
    case atStart => exact ⟨0, rfl, Nat.zero_le _, Lib.hid (Below.refl _ _), Lib.hid fun j hj => absurd hj (Nat.not_lt_zero _)⟩
    case round =>
      obtain ⟨k, rfl, hk, HB, HA⟩ := hrel
      by_cases hlt : k < n
      · obtain ⟨b1, o1, rfl, _, c0, c1⟩ := at_cells HR.out.1 HB.out (show k < a.length by have := HN.out; omega)
        obtain ⟨b2, o2, rfl, _, d0, d1⟩ := at_cells HR.out.2 HB.out (show k < b.length by have := HN.out; omega)
        have g1 := fun w => neqv (a.getD k default) (b.getD k default) w
        have g2 := fun op a' b' w => grd op a' b' (a.getD k default) (b.getD k default) w
        generalize hx : a.getD k default = x at c0 c1 g1 g2
        generalize hy : b.getD k default = y at d0 d1 g1 g2
        have HXY := Lib.hid (And.intro hx hy)
        clear hx hy
        generalize hxy : decide (x = y) = bb at g1
        cases bb with
        | true =>
          have HE := Lib.hid (of_decide_eq_true hxy)
          clear hxy
          simp only [Bool.not_true] at g1
          go_wp2_with fail
          go_region
          go_wp2
          go_roundw
          case rel => exact ⟨k + 1, by go_num, by omega, Lib.hid (below_drew HB.out), Lib.hid fun j hj => by
            by_cases e : j = k
            · subst e; rw [HXY.out.1, HXY.out.2]; exact HE.out
            · exact HA.out j (by omega)⟩
          case measure => simp [intOf]; omega
        | false =>
          have HF : Hid (decide (a = b) = false) := Lib.hid (decide_eq_false (ne_getD (k := k) (by rw [HXY.out.1, HXY.out.2]; exact of_decide_eq_false hxy)))
          clear hxy
          simp only [Bool.not_false] at g1
          go_wp2_with fail
          go_region
          go_wp2
          go_ret
          exact ⟨by rw [HF.out]; rfl, below_drew HB.out⟩
      · have hkn : k = n := by omega
        have HF : Hid (decide (a = b) = true) := Lib.hid (decide_eq_true (ext_getD (by rw [← HN.out.1, ← HN.out.2]) (by rw [← HN.out.1, ← hkn]; exact HA.out)))
        go_wp2
        go_ret
        exact ⟨by rw [HF.out]; rfl, HB.out⟩
  · have HF : Hid (decide (a = b) = false) := Lib.hid (decide_eq_false fun e => hlen (by rw [e]))
    obtain ⟨n, hn⟩ : ∃ n, n = a.length := ⟨_, rfl⟩
    obtain ⟨m, hm⟩ : ∃ m, m = b.length := ⟨_, rfl⟩
    rw [← hn] at ha hlen ⊢
    rw [← hm] at hb hlen ⊢
    clear hr hr2 hn hm
    go_enter Try.func30, Try.ntmps30
    go_wp2
    go_ret
    exact ⟨by rw [HF.out]; rfl, Below.refl _ _⟩
set_option maxHeartbeats 2000000 in
theorem equal_any (a b : List At) (va vb : Value) (w : World) (hva : RdV w va a) (hvb : RdV w vb b) (ha : a.length ≤ 9223372036854775807) (hb : b.length ≤ 9223372036854775807) :
    Calls Try.prog 69 #[va, vb] w fun e w' => e = .returned (.bool (decide (a = b))) ∧ Below w.heap.size w w' := by
  obtain ⟨A, c, rfl, _, hr⟩ := hva
  obtain ⟨B, d, rfl, _, hr2⟩ := hvb
  by_cases hlen : a.length = b.length
  · have HR := Lib.hid (And.intro hr hr2)
    rw [← hlen]
    obtain ⟨n, hn⟩ : ∃ n, n = a.length := ⟨_, rfl⟩
    rw [← hn] at ha ⊢
    have HN := Lib.hid (And.intro hn (hn.trans hlen))
    clear hr hr2 hn hlen hb
    go_enter Try.func69, Try.ntmps69
    go_wp2
    go_loopw [13] (fun i wr => ∃ k : Nat, i = .int .i64 k ∧ k ≤ n ∧ Hid (Below w.heap.size w wr) ∧ Hid (∀ j, j < k → a.getD j default = b.getD j default)) (fun i _ => n - (intOf i).toNat)
    case atStart => exact ⟨0, rfl, Nat.zero_le _, Lib.hid (Below.refl _ _), Lib.hid fun j hj => absurd hj (Nat.not_lt_zero _)⟩
    case round =>
      obtain ⟨k, rfl, hk, HB, HA⟩ := hrel
      by_cases hlt : k < n
      · obtain ⟨b1, o1, rfl, _, c0, c1⟩ := at_cells HR.out.1 HB.out (show k < a.length by have := HN.out; omega)
        obtain ⟨b2, o2, rfl, _, d0, d1⟩ := at_cells HR.out.2 HB.out (show k < b.length by have := HN.out; omega)
        have g1 := fun w => neqv (a.getD k default) (b.getD k default) w
        have g2 := fun op a' b' w => grd op a' b' (a.getD k default) (b.getD k default) w
        generalize hx : a.getD k default = x at c0 c1 g1 g2
        generalize hy : b.getD k default = y at d0 d1 g1 g2
        have HXY := Lib.hid (And.intro hx hy)
        clear hx hy
        generalize hxy : decide (x = y) = bb at g1
        cases bb with
        | true =>
          have HE := Lib.hid (of_decide_eq_true hxy)
          clear hxy
          simp only [Bool.not_true] at g1
          go_wp2_with fail
          go_region
          go_wp2
          go_roundw
          case rel => exact ⟨k + 1, by go_num, by omega, Lib.hid (below_drew HB.out), Lib.hid fun j hj => by
            by_cases e : j = k
            · subst e; rw [HXY.out.1, HXY.out.2]; exact HE.out
            · exact HA.out j (by omega)⟩
          case measure => simp [intOf]; omega
        | false =>
          have HF : Hid (decide (a = b) = false) := Lib.hid (decide_eq_false (ne_getD (k := k) (by rw [HXY.out.1, HXY.out.2]; exact of_decide_eq_false hxy)))
          clear hxy
          simp only [Bool.not_false] at g1
          go_wp2_with fail
          go_region
          go_wp2
          go_ret
          exact ⟨by rw [HF.out]; rfl, below_drew HB.out⟩
      · have hkn : k = n := by omega
        have HF : Hid (decide (a = b) = true) := Lib.hid (decide_eq_true (ext_getD (by rw [← HN.out.1, ← HN.out.2]) (by rw [← HN.out.1, ← hkn]; exact HA.out)))
        go_wp2
        go_ret
        exact ⟨by rw [HF.out]; rfl, HB.out⟩
  · have HF : Hid (decide (a = b) = false) := Lib.hid (decide_eq_false fun e => hlen (by rw [e]))
    obtain ⟨n, hn⟩ : ∃ n, n = a.length := ⟨_, rfl⟩
    obtain ⟨m, hm⟩ : ∃ m, m = b.length := ⟨_, rfl⟩
    rw [← hn] at ha hlen ⊢
    rw [← hm] at hb hlen ⊢
    clear hr hr2 hn hm
    go_enter Try.func69, Try.ntmps69
    go_wp2
    go_ret
    exact ⟨by rw [HF.out]; rfl, Below.refl _ _⟩
set_option maxHeartbeats 2000000 in
theorem lhas_any (l : List At) (x : At) (v : Value) (w : World) (hv : RdV w v l) (hl : l.length ≤ 9223372036854775807) :
    Calls Try.prog 39 #[v, x.val] w fun e w' => e = .returned (.bool (decide (x ∈ l))) ∧ Below w.heap.size w w' := by
  have hb0 := (Below.refl w.heap.size w).alloc (Nat.le_refl _) (.cells #[.string (sx x.t), .string (sx x.v)] 29)
  have hblk := Blk.new w 29 #[.string (sx x.t), .string (sx x.v)]
  obtain ⟨A, c, rfl, _, hr⟩ := hv
  have HR := Lib.hid hr
  have HX := Lib.hid hblk
  have HB0 := Lib.hid hb0
  have HZ := Lib.hid (show w.heap.size < (w.alloc (.cells #[.string (sx x.t), .string (sx x.v)] 29)).heap.size by rw [World.size_alloc]; omega)
  obtain ⟨n, hn⟩ : ∃ n, n = l.length := ⟨_, rfl⟩
  rw [← hn] at hl ⊢
  have HN := Lib.hid hn
  clear hr hn hblk hb0
  go_enter Try.func39, Try.ntmps39
  go_wp2
  generalize w.alloc (.cells #[.string (sx x.t), .string (sx x.v)] 29) = W at HX HB0 HZ ⊢
  go_loopw [5] (fun i wr => ∃ k : Nat, i = .int .i64 k ∧ k ≤ n ∧ Hid (Below W.heap.size W wr) ∧ Hid (∀ j, j < k → l.getD j default ≠ x)) (fun i _ => n - (intOf i).toNat)
  case atStart => exact ⟨0, rfl, Nat.zero_le _, Lib.hid (Below.refl _ _), Lib.hid fun j hj => absurd hj (Nat.not_lt_zero _)⟩
  case round =>
    obtain ⟨k, rfl, hk, HB, HA⟩ := hrel
    by_cases hlt : k < n
    · have hB := HB0.out.trans (HB.out.mono (Nat.le_of_lt HZ.out))
      obtain ⟨b1, o1, rfl, _, c0, c1⟩ := at_cells HR.out hB (show k < l.length by have := HN.out; omega)
      have d0 := (HX.out.on HB.out).cell 0
      have d1 := (HX.out.on HB.out).cell 1
      clear hB
      have g1 := fun w => eqv (l.getD k default) x w
      have g2 := fun op a' b' w => grd op a' b' (l.getD k default) x w
      have hmem : l.getD k default ∈ l := by rw [getD_at l k (by have := HN.out; omega)]; exact List.getElem_mem _
      have HM := Lib.hid hmem
      generalize hy : l.getD k default = y at c0 c1 g1 g2 HM
      have HXY := Lib.hid hy
      clear hy hmem
      generalize hxy : decide (y = x) = bb at g1
      cases bb with
      | false =>
        have HE := Lib.hid (of_decide_eq_false hxy)
        clear hxy
        go_wp2_with fail
        go_region
        go_wp2
        go_roundw
        case rel => exact ⟨k + 1, by go_num, by omega, Lib.hid (below_drew HB.out), Lib.hid fun j hj => by
          by_cases e : j = k
          · subst e; rw [HXY.out]; exact HE.out
          · exact HA.out j (by omega)⟩
        case measure => simp [intOf]; omega
      | true =>
        have HF : Hid (decide (x ∈ l) = true) := Lib.hid (decide_eq_true (by have e := of_decide_eq_true hxy; rw [← e]; exact HM.out))
        clear hxy
        go_wp2_with fail
        go_region
        go_wp2
        go_ret
        exact ⟨by rw [HF.out]; rfl, HB0.out.trans ((below_drew HB.out).mono (Nat.le_of_lt HZ.out))⟩
    · have hkn : k = n := by omega
      have HF : Hid (decide (x ∈ l) = false) := Lib.hid (decide_eq_false fun hm => by
        obtain ⟨j, hj, e⟩ := List.mem_iff_getElem.1 hm
        exact HA.out j (by have := HN.out; omega) (by rw [getD_at l j hj]; exact e))
      go_wp2
      go_ret
      exact ⟨by rw [HF.out]; rfl, HB0.out.trans (HB.out.mono (Nat.le_of_lt HZ.out))⟩
set_option maxHeartbeats 1000000 in
theorem idx_empty83 (a : Option Addr) (c : Nat) (x : At) (w : World) : Calls Try.prog 83 #[.slice a 0 c, x.val] w fun e w' => e = .returned (.int .i64 (-1)) ∧ Below w.heap.size w w' := by
  have hb := fun o => (Below.refl w.heap.size w).alloc (Nat.le_refl _) o
  go_enter Try.func83, Try.ntmps83
  go_wp2
  refine wp_loop_rounds 1 ?_
  rw [rounds_succ]
  go_wp2
  go_ret
  exact ⟨rfl, hb _⟩
set_option maxHeartbeats 1000000 in
theorem con_empty (a : Option Addr) (c : Nat) (x : At) (w : World) : Calls Try.prog 68 #[.slice a 0 c, x.val] w fun e w' => e = .returned (.bool false) ∧ Below w.heap.size w w' := by
  have HB := Lib.hid fun o => (Below.refl w.heap.size w).alloc (Nat.le_refl _) o
  have HZ := Lib.hid fun o => le_alloc (o := o) (Nat.le_refl w.heap.size)
  go_enter Try.func68, Try.ntmps68
  go_wp2_with (go_at_call 83; (with_reducible refine (idx_empty83 _ _ _ _).mono ?_); rintro e w' ⟨rfl, hb⟩)
  go_ret
  exact ⟨rfl, (HB.out _).trans (hb.mono (HZ.out _))⟩
theorem con_any (l : List At) (x : At) (v : Value) (w : World) (hv : RdV w v l) (hl : l.length ≤ 9223372036854775807) :
    Calls Try.prog 68 #[v, x.val] w fun e w' => e = .returned (.bool (decide (x ∈ l))) ∧ Below w.heap.size w w' := by
  obtain ⟨A, c, rfl, _, hr⟩ := hv
  by_cases h0 : l = []
  · subst h0
    exact con_empty A c x w
  · obtain ⟨b, off, e, hlt, _⟩ := hr (by simpa [List.length_pos_iff] using h0)
    subst e
    have h := AnyQ.slices_Contains Try.conAt 2 Try.isAgg29 Try.sizeOf29 At.cells (fun _ => rfl) (fun x y => decide (x = y)) eqA b off l.length c l x w (Nat.le_refl _) hl (by
      have := rd_hc (fun x : At => x) (zs := l) (by rw [List.map_id']; exact hr)
      exact this)
    rw [List.take_length] at h
    have e : (l.any fun y => decide (x = y)) = decide (x ∈ l) := by
      rw [Bool.eq_iff_iff, List.any_eq_true, decide_eq_true_iff]
      constructor
      · rintro ⟨y, hy, e⟩; rw [of_decide_eq_true e]; exact hy
      · intro h; exact ⟨x, h, by simp⟩
    rw [e] at h
    exact h
set_option maxHeartbeats 1000000 in
theorem has_any (l : List At) (x : At) (v : Value) (w : World) (hv : RdV w v l) (hl : l.length ≤ 9223372036854775807) :
    Calls Try.prog 38 #[v, x.val] w fun e w' => e = .returned (.bool (decide (x ∈ l))) ∧ Below w.heap.size w w' := by
  have hb0 := (Below.refl w.heap.size w).alloc (Nat.le_refl _) (.cells #[.string (sx x.t), .string (sx x.v)] 29)
  have hc := Lib.hid (con_any l x v _ (hv.on hb0) hl)
  have HB0 := Lib.hid hb0
  have HZ := Lib.hid (show w.heap.size ≤ (w.alloc (.cells #[.string (sx x.t), .string (sx x.v)] 29)).heap.size by rw [World.size_alloc]; omega)
  obtain ⟨A, c, rfl, _, hr⟩ := hv
  clear hr hb0 hl
  generalize l.length = n at hc ⊢
  generalize decide (x ∈ l) = r at hc ⊢
  go_enter Try.func38, Try.ntmps38
  go_wp2_with (go_at_call 68; (with_reducible refine hc.out.mono ?_); rintro e w' ⟨rfl, hb⟩)
  go_ret
  exact ⟨rfl, HB0.out.trans (hb.mono HZ.out)⟩
end Go.Proofs.Ytlhbnmaalhainaa
