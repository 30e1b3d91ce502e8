/- A log of the chapter's requests: one more. -/
import Derived.Test.YtniaijgejljjbaaL7
import Derived.RegionTactic
import Derived.ChangeAlike
namespace Go.Proofs.Ytniaijgejljjbaa.Tlv
open Go.RowKit
set_option maxRecDepth 100000
set_option linter.unusedVariables false
set_option linter.unusedSimpArgs false

theorem own66 {w : World} {base : Nat} {v : Value} {l : List Int} (h : RowK kT w base v l) {g : Nat} {t : TypeId} {cs : Array Value} (hk : Blk w g t cs) (ht : t ≠ 66) : v.ownBlock ≠ some g := fun e => by
  rcases h.2 with ⟨e2, _⟩ | ⟨g', cap, cur, e2, _, hh, _⟩
  · rw [e2] at e; simp [Value.ownBlock] at e
  · rw [e2] at e
    have e3 : g' = g := by simpa [Value.ownBlock] using e
    subst e3
    unfold Blk at hk
    rw [hh] at hk
    injection hk with hk
    injection hk with _ hk
    exact ht hk.symm
theorem blk_ne {w : World} {g g' : Nat} {t t' : TypeId} {cs cs' : Array Value} (h : Blk w g t cs) (h' : Blk w g' t' cs') (hne : t ≠ t') : g ≠ g' := fun e => by
  subst e
  unfold Blk at h h'
  rw [h] at h'
  injection h' with h'
  injection h' with _ h'
  exact hne h'
theorem RowK.farB {W : World} {base g i : Nat} {v u : Value} {l : List Int} (h : RowK kT W base v l) (hne : v.ownBlock ≠ some g) : RowK kT (W.setCell ⟨g, i, none⟩ u) base v l := by
  refine ⟨h.1, ?_⟩
  rcases h.2 with h0 | ⟨g', cap, cur, hv, hg, hh, rest⟩
  · exact .inl h0
  · exact .inr ⟨g', cap, cur, hv, hg, (Below.heap_setCell W ⟨g, i, none⟩ u g' (fun e => hne (by rw [hv]; show some g' = some g; rw [e]))).trans hh, rest⟩
set_option maxHeartbeats 8000000 in
theorem put_ok (g base : Nat) (b n : Int) (v : Value) (l : List Int) (w : World) (hs : LogS w base g b v l) (hb : base ≤ g) (hl : l.length < 4096) :
    Calls Try.prog 27 #[.pointer (some ⟨g, 0, none⟩), itV n] w fun e w' => e = .returned (.int .i64 0) ∧ (∃ v', LogS w' base g b v' (l ++ [n])) ∧ Below base w w' ∧ ∀ b' cs, Blk w b' 42 cs → Blk w' b' 42 cs := by
  have hb1 := (Below.refl w.heap.size w).alloc (Nat.le_refl _) (.cells #[.int .u64 1, .int .u64 n, .int .i64 6, .string ⟨#[97]⟩, .string ⟨#[]⟩, .slice none 0 0, .slice none 0 0, .slice none 0 0, .int .i64 0, .int .i64 50] 66)
  have hs1 := hs.on hb1
  have hgl := hs.1.lt
  have k0 := Blk.new w 66 #[.int .u64 1, .int .u64 n, .int .i64 6, .string ⟨#[97]⟩, .string ⟨#[]⟩, .slice none 0 0, .slice none 0 0, .slice none 0 0, .int .i64 0, .int .i64 50]
  obtain ⟨hk, hr⟩ := hs1
  have hown := own66 hr hk (by decide)
  obtain ⟨A, c, rfl, _, _⟩ := hr.rd0
  obtain ⟨k, hkk⟩ : ∃ k, k = l.length := ⟨_, rfl⟩
  rw [← hkk] at hk hl hown
  have c2 : (w.alloc (.cells #[.int .u64 1, .int .u64 n, .int .i64 6, .string ⟨#[97]⟩, .string ⟨#[]⟩, .slice none 0 0, .slice none 0 0, .slice none 0 0, .int .i64 0, .int .i64 50] 66)).cell? ⟨g, 2, none⟩ = some (.slice A k c) := hk.cell 2
  obtain ⟨q, hq⟩ : ∃ q, q = 50 * k := ⟨_, rfl⟩
  have hq2 : q ≤ 204750 := by omega
  rw [← hq] at hk
  have c3 : (w.alloc (.cells #[.int .u64 1, .int .u64 n, .int .i64 6, .string ⟨#[97]⟩, .string ⟨#[]⟩, .slice none 0 0, .slice none 0 0, .slice none 0 0, .int .i64 0, .int .i64 50] 66)).cell? ⟨g, 3, none⟩ = some (.int .i64 q) := hk.cell 3
  have f2 := hk.frozen 2
  have d1 : ((k : Int) == 4096) = false := by simp; omega
  have d2 : decide ((2097152 : Int) < (q : Int) + 50) = false := by simp; omega
  have HQ := Lib.hid hq
  have HX := Lib.hid (And.intro hk (And.intro hr (And.intro k0 hkk)))
  have HB := Lib.hid hb1
  have hln : l.length + 1 ≤ 1000000000 := by omega
  have HO := Lib.hid hown
  have HKL := Lib.hid hkk
  have hbw : base ≤ (w.alloc (.cells #[.int .u64 1, .int .u64 n, .int .i64 6, .string ⟨#[97]⟩, .string ⟨#[]⟩, .slice none 0 0, .slice none 0 0, .slice none 0 0, .int .i64 0, .int .i64 50] 66)).heap.size := by simp; omega
  have hgw : base ≤ w.heap.size := by omega
  have HLT : Hid (∀ g', (Value.slice A k c).ownBlock = some g' → g' < w.heap.size) := Lib.hid (by
    intro g' hg'
    rw [hkk] at hg'
    exact (World.ownsRow.lt hs.2 g' hg').2)
  clear hs hk hr k0 hkk hb1 hown hq
  go_enter Try.func27, Try.ntmps27
  go_wp2_with fail
  go_quiet (fail)
  go_wp2_with fail
  obtain ⟨W1, hW1, hk1, hr1, kI, hbw1, hsz1⟩ : ∃ W1, W1 = (w.alloc (.cells #[.int .u64 1, .int .u64 n, .int .i64 6, .string ⟨#[97]⟩, .string ⟨#[]⟩, .slice none 0 0, .slice none 0 0, .slice none 0 0, .int .i64 0, .int .i64 50] 66)).drewN nq ∧ Blk W1 g 54 #[.bool true, .int .u64 b, .slice A k c, .int .i64 q] ∧ RowK kT W1 base (.slice A k c) l ∧ Blk W1 w.heap.size 66 #[.int .u64 1, .int .u64 n, .int .i64 6, .string ⟨#[97]⟩, .string ⟨#[]⟩, .slice none 0 0, .slice none 0 0, .slice none 0 0, .int .i64 0, .int .i64 50] ∧ Below w.heap.size w W1 ∧ W1.heap.size = w.heap.size + 1 := ⟨_, rfl, HX.out.1, by rw [HX.out.2.2.2]; exact HX.out.2.1, HX.out.2.2.1, below_drewN HB.out _, by show (w.alloc _).heap.size = _; simp⟩
  rw [← hW1]
  clear hW1 c2 c3 f2 HX HB
  have e2 := hk1.cell 2
  have e3 := hk1.cell 3
  have ge2 := hk1.frozen 2
  have i0 := kI.cell 0
  have i1 := kI.cell 1
  have i2 := kI.cell 2
  have i3 := kI.cell 3
  have i4 := kI.cell 4
  have i5 := kI.cell 5
  have i6 := kI.cell 6
  have i7 := kI.cell 7
  have i8 := kI.cell 8
  have i9 := kI.cell 9
  simp only [List.getElem?_toArray, List.getElem?_cons_zero, List.getElem?_cons_succ] at e2 e3 i0 i1 i2 i3 i4 i5 i6 i7 i8 i9
  have HK := Lib.hid (And.intro hk1 (And.intro hr1 (And.intro kI hbw1)))
  have hbW : base ≤ ((W1.alloc (.cells #[.int .u64 1, .int .u64 n, .int .i64 6, .string ⟨#[97]⟩, .string ⟨#[]⟩, .slice none 0 0, .slice none 0 0, .slice none 0 0, .int .i64 0, .int .i64 50] 66)).drew).heap.size := by show base ≤ (W1.alloc _).heap.size; simp; omega
  have hgne : w.heap.size ≠ g := by omega
  have hbW1 : base ≤ W1.heap.size := by omega
  clear hk1 hr1 kI hbw1 hsz1
  have e2' : (W1.alloc (.cells #[.int .u64 1, .int .u64 n, .int .i64 6, .string ⟨#[97]⟩, .string ⟨#[]⟩, .slice none 0 0, .slice none 0 0, .slice none 0 0, .int .i64 0, .int .i64 50] 66)).cell? ⟨g, 2, none⟩ = some (.slice A k c) := (HK.out.1.alloc _).cell 2
  have HRW : Hid (RowK kT ((W1.alloc (.cells #[.int .u64 1, .int .u64 n, .int .i64 6, .string ⟨#[97]⟩, .string ⟨#[]⟩, .slice none 0 0, .slice none 0 0, .slice none 0 0, .int .i64 0, .int .i64 50] 66)).drew) base (.slice A k c) l) := Lib.hid (RowK.drew (RowK.alloc HK.out.2.1 _))
  have HRD : Hid (RdK kT ((W1.alloc (.cells #[.int .u64 1, .int .u64 n, .int .i64 6, .string ⟨#[97]⟩, .string ⟨#[]⟩, .slice none 0 0, .slice none 0 0, .slice none 0 0, .int .i64 0, .int .i64 50] 66)).drew) (W1.alloc (.cells #[.int .u64 1, .int .u64 n, .int .i64 6, .string ⟨#[97]⟩, .string ⟨#[]⟩, .slice none 0 0, .slice none 0 0, .slice none 0 0, .int .i64 0, .int .i64 50] 66)).heap.size (some ⟨W1.heap.size, 0, none⟩) [n]) := Lib.hid (rd_block (K := kT) (l := [n]) (Blk.new W1 66 #[.int .u64 1, .int .u64 n, .int .i64 6, .string ⟨#[97]⟩, .string ⟨#[]⟩, .slice none 0 0, .slice none 0 0, .slice none 0 0, .int .i64 0, .int .i64 50]) rfl)
  go_region_law ((refine step_app kT (w := (W1.alloc (.cells #[.int .u64 1, .int .u64 n, .int .i64 6, .string ⟨#[97]⟩, .string ⟨#[]⟩, .slice none 0 0, .slice none 0 0, .slice none 0 0, .int .i64 0, .int .i64 50] 66)).drew) (base := base) (v := .slice A k c) (l := l) (A := some ⟨W1.heap.size, 0, none⟩) (c := 1) (by rfl) _ _ (by rfl) [n] (by rfl) HRW.out (by rfl) HRD.out (fun e => by cases e) hln hbW ?_; intro v8 w8 hrow8 hgr8; have k8 := Blk.grown (Blk.drew (HK.out.1.alloc (.cells #[.int .u64 1, .int .u64 n, .int .i64 6, .string ⟨#[97]⟩, .string ⟨#[]⟩, .slice none 0 0, .slice none 0 0, .slice none 0 0, .int .i64 0, .int .i64 50] 66))) hgr8 (fun e => HO.out e.symm); have e8 := k8.cell 2; have g8 := k8.frozen 2; have H8 := Lib.hid (And.intro hrow8 (And.intro hgr8 k8)); obtain ⟨A8, c8, n8, HN8, rfl, _, _⟩ := RowK.rdn hrow8; clear hrow8 hgr8 k8))
  all_goals
    have hkS : Blk (w8.setCell ⟨g, 2, none⟩ (.slice A8 n8 c8)) g 54 #[.bool true, .int .u64 b, .slice A8 n8 c8, .int .i64 q] := H8.out.2.2.set_ 2 (.slice A8 n8 c8)
    have hrowS := RowK.farB (g := g) (i := 2) (u := .slice A8 n8 c8) H8.out.1 (own66 H8.out.1 H8.out.2.2 (by decide))
    have kI8 := Blk.far (p := ⟨g, 2, none⟩) (Blk.grown (Blk.drew (HK.out.2.2.1.alloc (.cells #[.int .u64 1, .int .u64 n, .int .i64 6, .string ⟨#[97]⟩, .string ⟨#[]⟩, .slice none 0 0, .slice none 0 0, .slice none 0 0, .int .i64 0, .int .i64 50] 66))) H8.out.2.1 (fun e => absurd (HLT.out _ e.symm) (Nat.lt_irrefl _))) hgne (.slice A8 n8 c8)
    have hbS : Below base w (w8.setCell ⟨g, 2, none⟩ (.slice A8 n8 c8)) := ((HK.out.2.2.2.mono hgw).trans ((below_drew ((Below.refl base W1).alloc hbW1 (.cells #[.int .u64 1, .int .u64 n, .int .i64 6, .string ⟨#[97]⟩, .string ⟨#[]⟩, .slice none 0 0, .slice none 0 0, .slice none 0 0, .int .i64 0, .int .i64 50] 66))).trans (row_below (K := kT) HRW.out H8.out.2.1 hbW))).setCell (p := ⟨g, 2, none⟩) hb (.slice A8 n8 c8)
    have hkeep : ∀ b' cs, Blk w b' 42 cs → Blk ((w8.setCell ⟨g, 2, none⟩ (.slice A8 n8 c8)).setCell ⟨g, 3, none⟩ (.int .i64 (q + 50))) b' 42 cs := fun b' cs h => by
      have h2 : Blk ((W1.alloc (.cells #[.int .u64 1, .int .u64 n, .int .i64 6, .string ⟨#[97]⟩, .string ⟨#[]⟩, .slice none 0 0, .slice none 0 0, .slice none 0 0, .int .i64 0, .int .i64 50] 66)).drew) b' 42 cs := Blk.drew ((h.on HK.out.2.2.2).alloc _)
      have h3 := h2.grown H8.out.2.1 (fun e => own66 HRW.out h2 (by decide) e.symm)
      have hne := blk_ne h3 H8.out.2.2 (by decide)
      exact (h3.far (p := ⟨g, 2, none⟩) hne _).far (p := ⟨g, 3, none⟩) hne _
    generalize w8.setCell ⟨g, 2, none⟩ (.slice A8 n8 c8) = W2 at hkS hrowS kI8 hbS hkeep ⊢
    have s3 := hkS.cell 3
    have fs3 := hkS.frozen 3
    have j9 := kI8.cell 9
    simp only [List.getElem?_toArray, List.getElem?_cons_zero, List.getElem?_cons_succ] at s3 j9
    have hkE : Blk (W2.setCell ⟨g, 3, none⟩ (.int .i64 (q + 50))) g 54 #[.bool true, .int .u64 b, .slice A8 n8 c8, .int .i64 (q + 50)] := hkS.set_ 3 (.int .i64 (q + 50))
    have hrowE := RowK.farB (g := g) (i := 3) (u := .int .i64 (q + 50)) hrowS (own66 hrowS hkS (by decide))
    have hbE := hbS.setCell (p := ⟨g, 3, none⟩) hb (.int .i64 (q + 50))
    have HE : Hid (LogS ((W2.setCell ⟨g, 3, none⟩ (.int .i64 (q + 50)))).drew base g b (.slice A8 n8 c8) (l ++ [n]) ∧ Below base w ((W2.setCell ⟨g, 3, none⟩ (.int .i64 (q + 50)))).drew ∧ ∀ b' cs, Blk w b' 42 cs → Blk ((W2.setCell ⟨g, 3, none⟩ (.int .i64 (q + 50)))).drew b' 42 cs) := Lib.hid (by
      refine ⟨⟨?_, hrowE⟩, below_drew hbE, hkeep⟩
      have e : (((50 * (l ++ [n]).length : Nat)) : Int) = (q : Int) + 50 := by rw [List.length_append, HQ.out, HKL.out]; simp; omega
      rw [e]
      exact hkE)
    clear hkS hrowS kI8 hbS hkE hrowE hbE hkeep HRW HRD H8 HK
    go_wp2_with fail
    go_region
    all_goals
      go_wp2
      go_ret
      exact ⟨rfl, ⟨_, HE.out.1⟩, HE.out.2.1, HE.out.2.2⟩
end Go.Proofs.Ytniaijgejljjbaa.Tlv
