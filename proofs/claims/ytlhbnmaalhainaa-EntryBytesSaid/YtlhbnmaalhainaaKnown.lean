/- The chapter's row. -/
import Derived.Test.YtlhbnmaalhainaaSame
namespace Go.Proofs.Ytlhbnmaalhainaa
open Go.RowKit Go.Lib Go.Sort
set_option linter.unusedVariables false
set_option linter.unusedSimpArgs false

set_option maxHeartbeats 1000000 in
theorem num_any (x : Int) (w : World) : Calls Try.prog 23 #[.int .i64 x] w fun e w' => e = .returned (.int .i64 x) ∧ w = w' := by
  go_enter Try.func23, Try.ntmps23
  go_wp2
  go_ret
  exact ⟨rfl, rfl⟩
def kl : List At := [⟨[99, 110], [97]⟩, ⟨[115, 110], [98]⟩]
def kby : List At := [⟨[99, 110], [99]⟩, ⟨[115, 110], []⟩]
theorem known_is : mayC kl kby = true ∧ changeR kl kby = ([⟨[99, 110], [99]⟩], 0) := by decide +kernel
theorem sm_kl : Sm kl := fun x hx => by
  simp only [kl, List.mem_cons, List.not_mem_nil, or_false] at hx
  rcases hx with rfl | rfl <;> exact ⟨by decide, by decide⟩
theorem sm_kby : Sm kby := fun x hx => by
  simp only [kby, List.mem_cons, List.not_mem_nil, or_false] at hx
  rcases hx with rfl | rfl <;> exact ⟨by decide, by decide⟩
theorem rdv_new (w : World) (l : List At) (cs : Array Value) (n : Nat) (hn : n = l.length) (hm : n ≤ 1000000) (e : cs.toList = flatK kA l) : RdV (w.alloc (.cells cs 29)) (.slice (some ⟨w.heap.size, 0, none⟩) n n) l :=
  ⟨some ⟨w.heap.size, 0, none⟩, n, by rw [hn], ⟨(fun h => by cases h), by omega, by unfold maxLen; omega⟩, rd_block (K := kA) (Blk.new w 29 cs) e⟩
set_option maxRecDepth 100000 in
set_option maxHeartbeats 2000000 in
theorem known_any (w : World) : Calls Try.prog 10 #[] w fun e w' => e = .returned (.bool true) ∧ Below w.heap.size w w' := by
  have hb1 := (Below.refl w.heap.size w).alloc (Nat.le_refl _) (.cells #[.string ⟨#[99, 110]⟩, .string ⟨#[97]⟩, .string ⟨#[115, 110]⟩, .string ⟨#[98]⟩] 29)
  have r1 := rdv_new w kl #[.string ⟨#[99, 110]⟩, .string ⟨#[97]⟩, .string ⟨#[115, 110]⟩, .string ⟨#[98]⟩] 2 rfl (by decide) rfl
  generalize hW1 : w.alloc (.cells #[.string ⟨#[99, 110]⟩, .string ⟨#[97]⟩, .string ⟨#[115, 110]⟩, .string ⟨#[98]⟩] 29) = W1 at hb1 r1
  have hb2 := (Below.refl W1.heap.size W1).alloc (Nat.le_refl _) (.cells #[.string ⟨#[99, 110]⟩, .string ⟨#[99]⟩, .string ⟨#[115, 110]⟩, .string ⟨#[]⟩] 29)
  have r2 := rdv_new W1 kby #[.string ⟨#[99, 110]⟩, .string ⟨#[99]⟩, .string ⟨#[115, 110]⟩, .string ⟨#[]⟩] 2 rfl (by decide) rfl
  have hsz1 : W1.heap.size = w.heap.size + 1 := by rw [← hW1, World.size_alloc]
  have h := change_yes kl kby _ _ _ (r1.on hb2) r2 sm_kl sm_kby known_is.1
  rw [known_is.2] at h
  have HB := Lib.hid (hb1.trans (hb2.mono (by omega)))
  have HZ := Lib.hid (show w.heap.size ≤ (W1.alloc (.cells #[.string ⟨#[99, 110]⟩, .string ⟨#[99]⟩, .string ⟨#[115, 110]⟩, .string ⟨#[]⟩] 29)).heap.size by rw [World.size_alloc]; omega)
  subst hW1
  rw [hsz1] at h
  have HC := Lib.hid h
  clear h r1 r2 hb1 hb2 hsz1
  have g1 : ∀ w, Sem.run Try.prog (binOp .eql 29 (.agg #[.string ⟨#[99, 110]⟩, .string ⟨#[99]⟩]) (.agg #[.string ⟨#[99, 110]⟩, .string ⟨#[99]⟩])) w = .ok (.bool true) w := fun w => (eqv ⟨[99, 110], [99]⟩ ⟨[99, 110], [99]⟩ w).trans (by rw [decide_eq_true rfl])
  have g2 : ∀ op a' b' w, Sem.run Try.prog (eqGuard op 29 a' b' (.agg #[.string ⟨#[99, 110]⟩, .string ⟨#[99]⟩]) (.agg #[.string ⟨#[99, 110]⟩, .string ⟨#[99]⟩])) w = .ok () w := fun op a' b' w => grd op a' b' ⟨[99, 110], [99]⟩ ⟨[99, 110], [99]⟩ w
  go_enter Try.func10, Try.ntmps10
  go_wp2_with (first
    | (go_at_call 32; (with_reducible refine HC.out.mono ?_); rintro e w1 ⟨v1, rfl, hv1, hb1⟩; have HB1 := Lib.hid (HB.out.trans (hb1.mono HZ.out)); obtain ⟨A1, c1, rfl, _, hr1⟩ := hv1; obtain ⟨bk, off, rfl, _, d0, d1⟩ := at_cells hr1 (Below.refl _ _) (show 0 < 1 by decide); rw [show off + 0 * 2 = off from by omega] at d0 d1; have e0 : w1.cell? ⟨bk, off, none⟩ = some (.string ⟨#[99, 110]⟩) := d0; have e1 : w1.cell? ⟨bk, off + 1, none⟩ = some (.string ⟨#[99]⟩) := d1; clear hr1 hb1 d0 d1)
    | (go_at_call 23; (with_reducible refine (num_any _ _).mono ?_); rintro e w2 ⟨rfl, rfl⟩))
  go_ret
  exact ⟨rfl, HB1.out⟩
end Go.Proofs.Ytlhbnmaalhainaa
