/- A log of the chapter's requests: one more. -/
import Derived.Test.YtniaijgejljjbaaL6
namespace Go.Proofs.Ytniaijgejljjbaa.Tlv
open Go.RowKit
set_option maxRecDepth 100000
set_option linter.unusedVariables false
set_option linter.unusedSimpArgs false

theorem info66 : ∃ (i : TypeInfo) (z : Value), Try.prog.info? 66 = some i ∧ i.zero = some z ∧ i.size = 10 ∧ i.bytes = 144 ∧ z.cells.size = 10 := by
  have h : (Try.prog.info? 66).map (fun i => (i.zero, i.size, i.bytes)) = some (some (.agg #[.int .u64 0, .int .u64 0, .int .i64 0, .string ⟨#[]⟩, .string ⟨#[]⟩, .slice none 0 0, .slice none 0 0, .slice none 0 0, .int .i64 0, .int .i64 0]), 10, 144) := by kernel_rfl
  obtain ⟨i, hi, h0, h1, h2⟩ := info_parts h
  exact ⟨i, _, hi, h0, h1, h2, rfl⟩
def itC (n : Int) : List Value := [.int .u64 1, .int .u64 n, .int .i64 6, .string ⟨#[97]⟩, .string ⟨#[]⟩, .slice none 0 0, .slice none 0 0, .slice none 0 0, .int .i64 0, .int .i64 50]
def kT : Kind Int where
  e := 66
  st := 52
  size := 10
  bytes := 144
  cs := itC
  len := fun _ => rfl
  one := fun x u hu => by simp [itC] at hu; rcases hu with rfl | rfl | rfl | rfl | rfl | rfl | rfl | rfl | rfl <;> rfl
  pos := by decide
  sl := Try.underlying52
  zero := info66
  small := by decide
/-- A log of a base, and of the chapter's requests of such numbers. -/
def LogS (W : World) (base g : Nat) (b : Int) (v : Value) (l : List Int) : Prop := Blk W g 54 #[.bool true, .int .u64 b, v, .int .i64 (50 * l.length : Nat)] ∧ RowK kT W base v l
theorem RowK.onB {W W' : World} {base : Nat} {v : Value} {l : List Int} (h : RowK kT W base v l) (hb : Below W.heap.size W W') : RowK kT W' base v l := by
  refine ⟨h.1, ?_⟩
  rcases h.2 with h0 | ⟨g, cap, cur, hv, hg, hh, rest⟩
  · exact .inl h0
  · exact .inr ⟨g, cap, cur, hv, hg, (hb.block g (Array.getElem?_eq_some_iff.1 hh).1).trans hh, rest⟩
theorem LogS.on {W W' : World} {base g : Nat} {b : Int} {v : Value} {l : List Int} (h : LogS W base g b v l) (hb : Below W.heap.size W W') : LogS W' base g b v l := ⟨h.1.on hb, h.2.onB hb⟩
set_option maxHeartbeats 8000000 in
theorem put_full (g base : Nat) (b n : Int) (v : Value) (l : List Int) (w : World) (hs : LogS w base g b v l) (hl : l.length = 4096) :
    Calls Try.prog 27 #[.pointer (some ⟨g, 0, none⟩), itV n] w fun e w' => e = .returned (.int .i64 10) ∧ Below w.heap.size w w' := by
  have hb1 := (Below.refl w.heap.size w).alloc (Nat.le_refl _) (.cells #[.int .u64 1, .int .u64 n, .int .i64 6, .string ⟨#[97]⟩, .string ⟨#[]⟩, .slice none 0 0, .slice none 0 0, .slice none 0 0, .int .i64 0, .int .i64 50] 66)
  have hs1 := hs.on hb1
  obtain ⟨hk, hr⟩ := hs1
  obtain ⟨A, c, rfl, _, _⟩ := hr.rd0
  have c2 : (w.alloc (.cells #[.int .u64 1, .int .u64 n, .int .i64 6, .string ⟨#[97]⟩, .string ⟨#[]⟩, .slice none 0 0, .slice none 0 0, .slice none 0 0, .int .i64 0, .int .i64 50] 66)).cell? ⟨g, 2, none⟩ = some (.slice A 4096 c) := by rw [← hl]; exact hk.cell 2
  clear hs hk hr hl
  go_enter Try.func27, Try.ntmps27
  go_wp2_with fail
  go_quiet (fail)
  go_wp2
  go_ret
  exact ⟨rfl, below_drewN hb1 _⟩
end Go.Proofs.Ytniaijgejljjbaa.Tlv
