/- With, of a map that is there. -/
import Derived.Test.YtpghnoadeamplaaCanon
import Derived.Test.YtpghnoadeamplaaWith
import Derived.Deep.RegionHeld3
import Derived.Deep.DrawnRows
namespace Go.Proofs.Ytpghnoadeamplaa
open Go.RowKit
set_option linter.unusedVariables false
set_option linter.unusedSimpArgs false

/-- What Of, and With, come to. -/
def OfRes (l : List Rg) (w : World) (q : Option Addr) (n : Int) (w' : World) : Prop :=
  Below w.heap.size w w' ∧ ((l.all goodB = false ∧ q = none ∧ n = 2) ∨ (l.all goodB = true ∧ ¬ Apart l ∧ q = none ∧ n = 9) ∨
    (l.all goodB = true ∧ Apart l ∧ n = 0 ∧ ∃ g v, q = some ⟨g, 0, none⟩ ∧ w.heap.size ≤ g ∧ MapG w' w.heap.size g v (ofL l)))
def OfEnd (l : List Rg) (w : World) (e : Ending) (w' : World) : Prop := ∃ q n, e = .returned (.tuple #[.pointer q, .int .i64 n]) ∧ OfRes l w q n w'
theorem OfPost.end_ {l : List Rg} {w : World} {e : Ending} {w' : World} (h : OfPost l w e w') : OfEnd l w e w' := by
  obtain ⟨h1, h2⟩ := h
  rcases h2 with ⟨h2, rfl⟩ | ⟨hg, d, hp, hs, h2⟩
  · exact ⟨_, _, rfl, h1, .inl ⟨h2, rfl, rfl⟩⟩
  · have ha := addAll_apart hg hp hs
    by_cases hl : Apart l
    · rcases h2 with ⟨h2, _⟩ | ⟨m, g, v, h2, rfl, h4, h5⟩
      · rw [ha.1 hl] at h2; cases h2
      · rw [ha.1 hl] at h2
        injection h2 with h2
        subst h2
        exact ⟨_, _, rfl, h1, .inr (.inr ⟨hg, hl, rfl, g, v, rfl, h4, h5⟩)⟩
    · rcases h2 with ⟨_, rfl⟩ | ⟨m, g, v, h2, _⟩
      · exact ⟨_, _, rfl, h1, .inr (.inl ⟨hg, hl, rfl, rfl⟩)⟩
      · rw [ha.2 hl] at h2; cases h2
theorem OfRes.from_ {l : List Rg} {w w1 : World} {q : Option Addr} {n : Int} {w' : World} (hb : Below w.heap.size w w1) (h : OfRes l w1 q n w') : OfRes l w q n w' := by
  obtain ⟨h1, h2⟩ := h
  refine ⟨hb.trans (h1.mono hb.size), ?_⟩
  rcases h2 with h2 | h2 | ⟨hg, hl, h0, g, v, h3, h4, h5⟩
  · exact .inl h2
  · exact .inr (.inl h2)
  · exact .inr (.inr ⟨hg, hl, h0, g, v, h3, Nat.le_trans hb.size h4, h5.less hb.size⟩)
theorem of_end (A : Option Addr) (c n : Nat) (l : List Rg) (w : World) (hn : n = l.length) (hr : RdR w w.heap.size A l) (hl : l.length ≤ 1000000) (h32 : In32 l) :
    Calls Try.prog 8 #[.slice A n c] w fun e w' => OfEnd l w e w' := by
  subst hn
  exact (of_any A c l w hr hl h32).mono fun _ _ h => h.end_

/-- A map that is there. -/
def MapV (w : World) (g : Nat) (l : List Rg) : Prop := ∃ A c, Blk w g 47 #[.bool true, .slice A l.length c] ∧ RdR w w.heap.size A l ∧ l.length ≤ c
theorem RowR.rd {w : World} {base : Nat} {v : Value} {l : List Rg} (h : RowR w base v l) : ∃ A c, v = .slice A l.length c ∧ RdR w w.heap.size A l := by
  rcases h.form with ⟨rfl, rfl⟩ | ⟨g, c, cur, rfl, _, _, _, hg, hc, _, _⟩
  · exact ⟨none, 0, rfl, fun h => by simp at h⟩
  · exact ⟨_, c, rfl, fun _ => ⟨g, 0, rfl, hg.lt, hc⟩⟩
theorem MapG.mapV {w : World} {base g : Nat} {v : Value} {l : List Rg} (h : MapG w base g v l) : MapV w g l := by
  obtain ⟨h1, h2⟩ := h
  rcases h2.form with ⟨rfl, rfl⟩ | ⟨g', c, cur, rfl, hc, _, _, hg, hcs, _, _⟩
  · exact ⟨none, 0, h1, fun h => by simp at h, Nat.le_refl _⟩
  · exact ⟨_, c, h1, fun _ => ⟨g', 0, rfl, hg.lt, hcs⟩, hc⟩
theorem RdR.more {w : World} {B B' : Nat} {A : Option Addr} {l : List Rg} (h : RdR w B A l) (hB : B ≤ B') : RdR w B' A l := fun hp => by
  obtain ⟨b, off, e, hlt, hc⟩ := h hp
  exact ⟨b, off, e, by omega, hc⟩
theorem RdR.on {w w' : World} {A : Option Addr} {l : List Rg} (h : RdR w w.heap.size A l) (hb : Below w.heap.size w w') : RdR w' w'.heap.size A l := (h.below hb).more hb.size
theorem MapV.on {w w' : World} {g : Nat} {l : List Rg} (h : MapV w g l) (hb : Below w.heap.size w w') : MapV w' g l := by
  obtain ⟨A, c, h1, h2, h3⟩ := h
  exact ⟨A, c, h1.below hb h1.lt, h2.on hb, h3⟩
theorem MapV.mapR {w : World} {g : Nat} {l : List Rg} (h : MapV w g l) : MapR w w.heap.size (some ⟨g, 0, none⟩) l := by
  obtain ⟨A, c, h1, h2, _⟩ := h
  exact .inr ⟨g, A, c, rfl, h1.lt, h1.cell 1, h2⟩

theorem le_alloc {n : Nat} {w : World} {o : Obj} (h : n ≤ w.heap.size) : n ≤ (w.alloc o).heap.size := by simp; omega
theorem blkB {w w2 : World} {X : Obj} {t : TypeId} {cs : Array Value} (hb2 : Below (((w.alloc X).alloc (.cells cs t)).drew).heap.size (((w.alloc X).alloc (.cells cs t)).drew) w2) : Blk w2 (w.heap.size + 1) t cs :=
  (Blk.new2 w X t cs).drew.below hb2 (by simp)
theorem row_below {w w' : World} {base : Nat} {v : Value} {l : List Rg} (h : RowR w base v l) (hg : w.grownBy w' v.ownBlock) (hb : base ≤ w.heap.size) : Below base w w' :=
  (Below.refl base w).grown hg hb (fun k hk => (World.ownsRow.lt h k hk).1)
theorem len_snoc (l : List Rg) (x : Rg) : l.length + 1 = (l ++ [x]).length := by simp
theorem RowR.rdS {w : World} {base : Nat} {A : Option Addr} {n c : Nat} {l : List Rg} (h : RowR w base (.slice A n c) l) : RdR w w.heap.size A l := by
  obtain ⟨A', c', e, hr⟩ := h.rd
  injection e with e1
  subst e1
  exact hr

set_option maxHeartbeats 4000000 in
theorem with_any (g : Nat) (l : List Rg) (x : Rg) (w : World) (hm : MapV w g l) (hl : l.length ≤ 900000) (h32 : In32 (l ++ [x])) :
    Calls Try.prog 17 #[.pointer (some ⟨g, 0, none⟩), .agg #[.int .i32 x.lo, .int .i32 x.hi, .int .i64 x.val]] w fun e w' => OfEnd (l ++ [x]) w e w' := by
  obtain ⟨A, c, hblk, hrd, _⟩ := hm
  have hlt := hblk.lt
  have c0 : w.cell? ⟨g, 0, none⟩ = some (.bool true) := hblk.cell 0
  have c1 : w.cell? ⟨g, 1, none⟩ = some (.slice A l.length c) := hblk.cell 1
  have hcl : ∀ W, Below w.heap.size w W → Calls Try.prog 19 #[.slice A l.length c] W fun e w' => ∃ v, e = .returned v ∧ RowR w' W.heap.size v l ∧ Below W.heap.size W w' := fun W hb => clone_any A c l W (hrd.on hb) (by omega)
  have Hcl := Lib.hid hcl
  have Hrd := Lib.hid hrd
  have H32 := Lib.hid h32
  have hle : l.length + 1 ≤ 1000000000000 := by omega
  have hle2 : (l ++ [x]).length ≤ 1000000 := by simp; omega
  clear hcl hrd h32 hblk
  go_enter Try.func17, Try.ntmps17
  go_wp2
  go_region_held3 (fun w' => w'.cell? ⟨g, 1, none⟩ = some (.slice A l.length c) ∧ w'.cell? ⟨w.heap.size, 0, none⟩ = some (.int .i32 x.lo) ∧ w'.cell? ⟨w.heap.size, 1, none⟩ = some (.int .i32 x.hi) ∧ w'.cell? ⟨w.heap.size, 2, none⟩ = some (.int .i64 x.val)) (first | go_keep | (go_split_ands; refine ⟨?_, ?_, ?_, ?_⟩ <;> (rw [hb4.cell (by simp <;> omega)]; assumption)) | (go_split_ands; refine ⟨?_, ?_, ?_, ?_⟩ <;> (rw [hb3.cell (by simp <;> omega)]; assumption)) | (go_split_ands; refine ⟨?_, ?_, ?_, ?_⟩ <;> (rw [hb2.cell (by simp <;> omega)]; assumption)))
    (first
      | (go_at_call 19; refine (Hcl.out _ ?_).mono ?_; (first | exact ((Below.refl _ _).alloc (Nat.le_refl _) _).drew | exact (((Below.refl _ _).alloc (Nat.le_refl _) _).alloc (by simp) _).drew); rintro e w2 ⟨v2, rfl, hrow2, hb2⟩; have hz2 : w.heap.size < w2.heap.size := by have := hb2.size; simp at this; omega)
      | (refine step_rdR (by rfl) _ _ (by rfl) x (by rfl) (hrow2.alloc _) (by rfl) (Blk.new _ _ _) hle (le_alloc hb2.size) ?_; intro g1 c1' w3 hrow3 hgr hat; have hb3 := row_below (hrow2.alloc _) hgr (le_alloc hb2.size); have hz3 : w.heap.size < w3.heap.size := by have := hgr.size; simp at this; omega)
      | (refine step_rdR (by rfl) _ _ (by rfl) x (by rfl) hrow2 (by rfl) (blkB hb2) hle hb2.size ?_; intro g1 c1' w3 hrow3 hgr hat; have hb3 := row_below hrow2 hgr hb2.size; have hz3 := Nat.lt_of_lt_of_le hz2 hgr.size)
      | (go_at_call 8; refine (of_end _ _ _ (l ++ [x]) _ (len_snoc l x) hrow3.rdS hle2 H32.out).mono ?_; rintro e w4 ⟨q, n, rfl, hres⟩; have hb4 := hres.1))
  all_goals
    go_wp2
    go_ret2
    refine ⟨q, n, rfl, hres.from_ ?_⟩
    first
    | exact (((Below.refl _ _).alloc (Nat.le_refl _) _).drew.trans (hb2.mono (by simp))).trans ((((Below.refl _ _).alloc (Nat.le_of_lt hz2) _).trans (hb3.mono (by simp))))
    | exact ((((Below.refl _ _).alloc (Nat.le_refl _) _).alloc (by simp) _).drew.trans (hb2.mono (by simp; omega))).trans (hb3.mono (by simp; omega))
end Go.Proofs.Ytpghnoadeamplaa
