/- WeighWalk, of elements that are not asked for. -/
import Derived.Test.YtlemiejmjdhcgaaLawW
namespace Go.Proofs.Ytlemiejmjdhcgaa
open Go.RowKit Go.Shelf
set_option linter.unusedVariables false
set_option linter.unusedSimpArgs false

/-- The world with the law's own variables. -/
abbrev wV (w : World) (sh : Bool) (lv leave : Int) (A : Option Addr) (n c : Nat) : World :=
  (((w.alloc (.cells #[.bool sh, .int .i64 lv] 23)).alloc (.cells #[.slice A n c] 24)).alloc (.cells #[.int .i64 leave] 3)).alloc (.cells #[.bool false] 4)

set_option maxHeartbeats 4000000 in
theorem weighWalk_out (A : Option Addr) (c : Nat) (l : List El) (sh : Bool) (lv leave : Int) (w : World) (hr : RdK kE w w.heap.size A l) (hl : l.length ≤ maxLen) (hs : soundL l = false) :
    Calls Try.prog 4 #[.agg #[.bool sh, .int .i64 lv], .slice A l.length c, .int .i64 leave] w fun e w' => e = .returned (.bool true) ∧ Below w.heap.size w w' := by
  have hB0 : Below w.heap.size w (wV w sh lv leave A l.length c) := ((((Below.refl _ w).alloc (Nat.le_refl _) _).alloc (by simp) _).alloc (by simp; omega) _).alloc (by simp; omega) _
  have b3 : Blk (wV w sh lv leave A l.length c) (w.heap.size + 1 + 1 + 1) 4 #[.bool false] := by
    have := Blk.new (((w.alloc (.cells #[.bool sh, .int .i64 lv] 23)).alloc (.cells #[.slice A l.length c] 24)).alloc (.cells #[.int .i64 leave] 3)) 4 #[.bool false]
    simpa only [World.size_alloc] using this
  have h := sound_any A c l (wV w sh lv leave A l.length c) ((hr.on hB0)) hl
  rw [hs] at h
  have HS := Lib.hid h
  have H := Lib.hid (And.intro hB0 b3)
  clear h hB0 b3 hr hs
  go_enter Try.func4, Try.ntmps4
  go_wp2_with fail
  refine HS.out.mono ?_
  clear HS
  rintro e w1 ⟨rfl, hb1⟩
  go_wp2_with fail
  refine (known_any _).mono ?_
  rintro e w2 ⟨rfl, hb2⟩
  obtain ⟨hB0, b3⟩ := H.out
  have hbb := (b3.on hb1).on hb2
  have c3 := hbb.cell 0
  have f3 := hbb.frozen 0
  have hB : Below w.heap.size w w2 := (hB0.trans (hb1.mono hB0.size)).trans (hb2.mono ((hB0.trans (hb1.mono hB0.size)).size))
  have hr : Blk (w2.setCell ⟨w.heap.size + 1 + 1 + 1, 0, none⟩ (.bool true)) (w.heap.size + 1 + 1 + 1) 4 #[.bool true] := by simpa using hbb.set_ 0 (.bool true)
  have hc5 := hr.cell 0
  have hB2 : Below w.heap.size w (w2.setCell ⟨w.heap.size + 1 + 1 + 1, 0, none⟩ (.bool true)) := hB.setCell (p := ⟨w.heap.size + 1 + 1 + 1, 0, none⟩) (by show w.heap.size ≤ w.heap.size + 1 + 1 + 1; omega) _
  have HH := Lib.hid hB2
  clear H hB0 b3 hbb hB hr hB2 hb1 hb2
  go_wp2_with fail
  refine bodyPost_ret (v := .bool true) (by simp [results, Try.f4, go_sem, hc5]) rfl ?_
  exact ⟨rfl, HH.out⟩
end Go.Proofs.Ytlemiejmjdhcgaa
