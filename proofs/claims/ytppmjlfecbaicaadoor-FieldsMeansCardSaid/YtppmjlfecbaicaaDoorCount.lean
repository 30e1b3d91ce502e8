/- How many lines say something; the chapter's row. -/
import Derived.Test.YtppmjlfecbaicaaDoorOnce
namespace Go.Proofs.YtppmjlfecbaicaaDoor
open Go.RowKit Go.Shelf
set_option linter.unusedVariables false
set_option linter.unusedSimpArgs false
attribute [local go_sem] Oper.semAt_some
attribute [local go_sem] wide_fn

set_option maxRecDepth 100000 in
set_option maxHeartbeats 8000000 in
theorem count_any (l : List UInt8) (hl : l.length ≤ 1000000) (m : Int) (w : World) (hm : w.cell? ⟨0, 0, none⟩ = some (.int .i64 m)) (hw0 : 0 < w.heap.size) :
    Calls Tryd.prog 9 #[.string (mk l)] w fun e w' => e = .returned (.int .i64 (linesV l).length) ∧ Below w.heap.size w w' := by
  refine (callsIn_wide (n := 6)).1 ?_
  refine callsIn_of_wp_marks Tryd.func9 rfl trivial ?_ rfl
  refine wpIn_wide.2 ?_
  simp only [Tryd.ntmps9, List.size_toArray, List.length_cons, List.length_nil, Nat.reduceAdd, Nat.reduceSub, Array.replicate_succ, Array.replicate_zero, List.push_toArray, List.append_toArray, List.nil_append, List.cons_append]
  generalize hQ : bodyPostM _ _ _ _ _ = Q'
  have HQ := Lib.hid hQ
  clear hQ
  have HA := Lib.hid (lines_any l (w.alloc (.cells #[.int .i64 0] 3)))
  have HM := Lib.hid hm
  clear hm
  go_wp2_with fail
  refine HA.out.mono ?_
  clear HA
  rintro e w1 ⟨rfl, hbB, hb1⟩
  have h01 : Below w.heap.size w (w.alloc (.cells #[.int .i64 0] 3)) := (Below.refl _ _).alloc (Nat.le_refl _) _
  have hsz : (w.alloc (.cells #[.int .i64 0] 3)).heap.size = w.heap.size + 1 := by simp
  have hB1 : Below w.heap.size w w1 := h01.trans (hb1.mono (by omega))
  have bB := (Blk.new w 3 #[.int .i64 0]).on hb1
  rw [hsz] at hbB
  have hz1 := hb1.size
  have hm1 : w1.cell? ⟨0, 0, none⟩ = some (.int .i64 m) := (hB1.cell (p := ⟨0, 0, none⟩) hw0).trans HM.out
  clear hb1
  go_wp2_with fail
  refine (wpIn_wide (n := 6)).1 ?_
  refine range_T (pv := noT) (n₀ := w.heap.size) (ty := tyF) (by omega) (gf := 31) (lb := #[.pointer (some ⟨w.heap.size + 1, 0, none⟩)]) rfl (enters_of Tryd.func31 (by kernel_rfl) rfl)
    (lin_T w.heap.size l hl m _ (by omega) _ w1 hbB hm1 hw0 (by omega)) (Below.refl _ _) (by omega) (fun _ => rfl)
    (fun pre W => Blk W w.heap.size 3 #[.int .i64 (pre.length : Nat)] ∧ Below w.heap.size w W)
    (fun cd pre W => False)
    ?stI ?stX ⟨bB, hB1⟩
    (fun x a' W => a' = { tmps := #[.string (mk l), undef, .int .i64 0, .pointer (some ⟨w.heap.size, 0, none⟩), .string (mk l), .func (.func 31) #[] #[.pointer (some ⟨w.heap.size + 1, 0, none⟩)], .int .i64 (x.n : Int), .slice (some ⟨x.g, 0, none⟩) x.fs.length x.fs.length, undef, undef, undef], defers := [] })
    ?stA ?assign ?body ?done ?stop
  case stI =>
    intro pre X Y row hs' hg hr
    exact ⟨blk_stays (pv := noT) rfl hs'.1 hg hr, hs'.2.grown hg hs'.2.size (fun k hk => by have := (hr k hk).1; omega)⟩
  case stX =>
    intro cd pre X Y row hs' hg hr
    exact hs'
  case stA =>
    intro x a' _ X Y row hs' hg hr
    exact hs'
  case assign =>
    intro lb' pre x Wp K hI hG hK
    gi_wp2
    exact hK _ _ (KP.refl _) hI (by simp [Hand.enc])
  case body =>
    rintro lb' pre x a' Wp hlb' ⟨r, hr⟩ ⟨hI, hBx⟩ rfl ⟨rest, hpre⟩
    have c0 := hI.cell 0
    have f0 := hI.frozen 0
    have HI := Lib.hid hI
    have HB := Lib.hid hBx
    have hlen : Hid ((pre ++ [x]).length = pre.length + 1) := Lib.hid (by simp)
    have hlt : pre.length ≤ 1000001 := by
      have h1 := congrArg List.length hpre
      have h2 := LV_len 1 (partsL 10 l)
      have h3 := parts_len_le 10 l
      have h4 : (linesV l).length = (LV 1 (partsL 10 l)).length := rfl
      simp at h1
      omega
    clear hI hBx hpre
    gi_wp2
    exact ⟨KP.set (Nat.le_refl _) HI.out rfl 0 _, by rw [hlen.out]; simpa using HI.out.set_ 0 (.int .i64 ((pre.length : Int) + 1)), HB.out.setCell (p := ⟨w.heap.size, 0, none⟩) (Nat.le_refl _) _⟩
  case done =>
    rintro D ys Wp hD hys ⟨hI, hBx⟩ hK
    have hlen : Hid (ys.length = (linesV l).length) := Lib.hid (by
      have := congrArg List.length hys
      simpa using this)
    have c0 := hI.cell 0
    have HII := Lib.hid hI
    clear hI hys
    go_wp2_with fail
    rw [← HQ.out]
    refine ⟨by simp, .inl ⟨_, _, rfl, run_takeDeferred hK, ?_⟩⟩
    exact ⟨_, results_tmp (t := 2) rfl _ _ _, by rw [← hlen.out]; rfl, below_put hBx hBx.size (by omega) _⟩
  case stop =>
    rintro D cd pre Wp hD _ h hK
    exact h.elim
end Go.Proofs.YtppmjlfecbaicaaDoor
