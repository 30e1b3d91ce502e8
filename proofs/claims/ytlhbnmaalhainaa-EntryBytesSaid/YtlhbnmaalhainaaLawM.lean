/- The law on what may be. -/
import Derived.Test.YtlhbnmaalhainaaKnown
namespace Go.Proofs.Ytlhbnmaalhainaa
open Go.RowKit Go.Lib Go.Sort
set_option linter.unusedVariables false
set_option linter.unusedSimpArgs false

theorem much_len {l : List At} (h : muchV l = false) : l.length ≤ 120 := by
  unfold muchV at h
  rw [Bool.or_eq_false_iff] at h
  have := of_decide_eq_false h.1
  omega
set_option maxHeartbeats 4000000 in
theorem mayLaw_any (name : List UInt8) (l : List At) (v : Value) (w : World) (hv : RdV w v l) (hn : name.length ≤ 9223372036854775807) (hl : l.length ≤ 9223372036854775807) (hs : Sm l) :
    Calls Try.prog 3 #[.string (sx name), v] w fun e w' => e = .returned (.bool true) ∧ Below w.heap.size w w' := by
  have hsz := sx_size name
  have HK := Lib.hid fun W => known_any W
  by_cases hbig : 9000 < name.length
  · obtain ⟨A, c, rfl, _, _⟩ := hv
    clear hs hl
    go_enter Try.func3, Try.ntmps3
    go_wp2_with (go_at_call 10; (with_reducible refine (HK.out _).mono ?_); rintro e w1 ⟨rfl, hb1⟩)
    go_ret
    exact ⟨rfl, hb1⟩
  · have HM := Lib.hid (much_any l v w hv hs hl)
    cases hm : muchV l with
    | true =>
      rw [hm] at HM
      obtain ⟨A, c, rfl, _, _⟩ := hv
      clear hs hl hm
      go_enter Try.func3, Try.ntmps3
      go_wp2_with (first
        | (go_at_call 9; (with_reducible refine HM.out.mono ?_); rintro e w1 ⟨rfl, hb1⟩; have HB1 := Lib.hid hb1; clear hb1)
        | (go_at_call 10; (with_reducible refine (HK.out _).mono ?_); rintro e w2 ⟨rfl, hb2⟩))
      go_ret
      exact ⟨rfl, HB1.out.trans (hb2.mono HB1.out.size)⟩
    | false =>
      rw [hm] at HM
      have hl120 := much_len hm
      clear hm hl
      have HV := Lib.hid hv
      have HS := Lib.hid hs
      have HN := Lib.hid hn
      obtain ⟨A, c, rfl, _, hr⟩ := hv
      have HR := Lib.hid hr
      obtain ⟨n, hln⟩ : ∃ n, n = l.length := ⟨_, rfl⟩
      obtain ⟨v, hvv⟩ : ∃ v, v = Value.slice A l.length c := ⟨_, rfl⟩
      rw [← hvv] at HV HM
      have HL := Lib.hid hln
      have HVV := Lib.hid hvv
      rw [← hln] at hl120 ⊢
      have hvn : v = Value.slice A n c := by rw [hvv, hln]
      rw [hvn] at HM
      have HVN := Lib.hid hvn
      clear hs hr hln hvv hvn hn
      go_enter Try.func3, Try.ntmps3
      go_wp2_with (go_at_call 9; (with_reducible refine HM.out.mono ?_); rintro e w1 ⟨rfl, hb1⟩)
      have hbe := (Below.refl w1.heap.size w1).alloc (Nat.le_refl _) (.cells #[.string (sx name), .slice A n c] 26)
      have hblk := Blk.new w1 26 #[.string (sx name), .slice A n c]
      have HB1 := Lib.hid (hb1.trans (hbe.mono hb1.size))
      have HZ1 := Lib.hid hb1.size
      generalize hWe : w1.alloc (.cells #[.string (sx name), .slice A n c] 26) = We at hbe hblk HB1 ⊢
      have HBK := Lib.hid hblk
      have hwz : w.heap.size ≤ We.heap.size := HB1.out.size
      clear hWe hb1 hbe hblk
      go_loopw [6] (fun i wr => ∃ k : Nat, i = .int .i64 k ∧ k ≤ n ∧ Hid (Below We.heap.size We wr)) (fun i _ => n - (intOf i).toNat)
      case atStart => exact ⟨0, rfl, Nat.zero_le _, Lib.hid (Below.refl _ _)⟩
      case round =>
        obtain ⟨k, rfl, hk, HB⟩ := hrel
        have HBW := Lib.hid (HB1.out.trans (HB.out.mono hwz))
        by_cases hlt : k < n
        · obtain ⟨b, off, rfl, _, c0, c1⟩ := at_cells HR.out HBW.out (show k < l.length by have := HL.out; omega)
          have hx := sm_get HS.out k (by have := HL.out; omega)
          generalize l.getD k default = x at c0 c1 hx
          have h1 := fun W => mayAttr_any x W hx.1 hx.2
          have h2 := fun W => refMayAttr_any x W hx.1 hx.2
          clear hx
          generalize mayA x = r at h1 h2
          have e0 := cell_regrown c0
          have e1 := cell_regrown c1
          have cA := fun d os => Calls.regrown_of (h1 (grow (redrawn wr d) os))
          have cB := fun d os => Calls.regrown_of (h2 (grow (redrawn wr d) os))
          clear h1 h2 c0 c1
          go_wp2_with fail
          refine wp_region_quiet_below (by kernel_rfl) (by kernel_rfl) ?_
          repeat
            with_reducible refine wpQuiet_step (fun K hK => ?_)
            go_simp
            first
              | (with_reducible refine hK _ ?_; clear hK K)
              | (apply Exists.intro; refine ⟨fun _ => ?_, hK _ ?_⟩; (first | exact cA _ _ | exact cB _ _); clear hK K)
          with_reducible refine wpQuiet_nil ?_
          rintro _ ⟨⟨dq, osq⟩, rfl⟩
          have HB2 := Lib.hid (HB.out.trans ((below_regrown wr dq osq).mono HB.out.size))
          clear e0 e1 cA cB
          generalize grow (redrawn wr dq) osq = w2 at HB2 ⊢
          go_wp2
          go_roundw
          case rel => exact ⟨k + 1, by go_num, by omega, HB2⟩
          case measure => simp [intOf]; omega
        · have hkn : k = n := by omega
          have c0 := (HBK.out.on HB.out).cell 0
          have c1 := (HBK.out.on HB.out).cell 1
          have hvr := HV.out.on (HBW.out)
          have h13 := fun W => (mayName_any name W HN.out).mono fun e w' (h : _ ∧ W = w') => (⟨h.1, h.2 ▸ Below.refl _ _⟩ : e = .returned (.bool (mayN name)) ∧ Below W.heap.size W w')
          have h14 := fun W => refMayName_any name W HN.out
          have h15 := fun W (hb : Below wr.heap.size wr W) => mayAttrs_any l v W (hvr.on hb) HS.out (by have := HL.out; omega)
          have h16 := fun W (hb : Below wr.heap.size wr W) => refMayAttrs_any l v W (hvr.on hb) HS.out (by have := HL.out; omega)
          have h17 := fun W (hb : Below wr.heap.size wr W) => mayEntry_any name l v W (hvr.on hb) HN.out HS.out (by have := HL.out; omega)
          have h18 := fun W (hb : Below wr.heap.size wr W) => refMayEntry_any name l v W (hvr.on hb) HN.out HS.out (by have := HL.out; omega)
          rw [HVN.out] at h15 h16 h17 h18
          generalize mayN name = r1 at h13 h14
          generalize mayL l = r2 at h15 h16
          generalize mayE name l = r3 at h17 h18
          have e0 := cell_regrown c0
          have e1 := cell_regrown c1
          have c13 := fun d os => Calls.regrown_of (h13 (grow (redrawn wr d) os))
          have c14 := fun d os => Calls.regrown_of (h14 (grow (redrawn wr d) os))
          have c15 := fun d os => Calls.regrown_of (h15 (grow (redrawn wr d) os) (below_regrown _ _ _))
          have c16 := fun d os => Calls.regrown_of (h16 (grow (redrawn wr d) os) (below_regrown _ _ _))
          have c17 := fun d os => Calls.regrown_of (h17 (grow (redrawn wr d) os) (below_regrown _ _ _))
          have c18 := fun d os => Calls.regrown_of (h18 (grow (redrawn wr d) os) (below_regrown _ _ _))
          have c10 := fun d os => Calls.regrown_of (HK.out (grow (redrawn wr d) os))
          clear h13 h14 h15 h16 h17 h18 c0 c1 hvr
          go_wp2_with fail
          refine wp_region_quiet_below (by kernel_rfl) (by kernel_rfl) ?_
          repeat
            with_reducible refine wpQuiet_step (fun K hK => ?_)
            go_simp
            first
              | (with_reducible refine hK _ ?_; clear hK K)
              | (apply Exists.intro; refine ⟨fun _ => ?_, hK _ ?_⟩; (first | exact c13 _ _ | exact c14 _ _ | exact c15 _ _ | exact c16 _ _ | exact c17 _ _ | exact c18 _ _ | exact c10 _ _); clear hK K)
          with_reducible refine wpQuiet_nil ?_
          rintro _ ⟨⟨dq, osq⟩, rfl⟩
          have HB2 := Lib.hid (HBW.out.trans ((below_regrown wr dq osq).mono HBW.out.size))
          clear e0 e1 c13 c14 c15 c16 c17 c18 c10
          generalize grow (redrawn wr dq) osq = w2 at HB2 ⊢
          go_wp2
          go_ret
          exact ⟨rfl, HB2.out⟩
end Go.Proofs.Ytlhbnmaalhainaa
