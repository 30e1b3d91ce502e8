/- Get of a map that is there. -/
import Derived.Test.YtpghnoadeamplaaMapFns
import Derived.Deep.MidRow
namespace Go.Proofs.Ytpghnoadeamplaa
open Go.RowKit
set_option linter.unusedVariables false
set_option linter.unusedSimpArgs false

/-- A slice of ranges, below block B, that reads as l. -/
def RdR (w : World) (B : Nat) (A : Option Addr) (l : List Rg) : Prop :=
  0 < l.length → ∃ b off, A = some ⟨b, off, none⟩ ∧ b < B ∧ ∀ j, j < l.length → w.rangeAt b (off + j * 3) (l.getD j default).cells

/-- Rising, none with a number in common. -/
def Rises (l : List Rg) : Prop := ∀ i j, i < j → j < l.length → (l.getD i default).hi < (l.getD j default).lo

theorem info24 : (Try.prog.info? 24).map (·.size) = some 3 := by kernel_rfl

set_option maxHeartbeats 2000000 in
theorem get_any (p off c : Nat) (rb : Nat) (l : List Rg) (r : Int) (w : World) (hp : p < w.heap.size) (hrb : rb < w.heap.size) (hm : w.cell? ⟨p, 1, none⟩ = some (.slice (some ⟨rb, off, none⟩) l.length c))
    (hr : ∀ j, j < l.length → w.rangeAt rb (off + j * 3) (l.getD j default).cells) (hn : l.length ≤ 1000000000000) (hc : l.length ≤ c)
    (hs : Rises l) (hw : ∀ j, j < l.length → (l.getD j default).lo ≤ (l.getD j default).hi) :
    Calls Try.prog 11 #[.pointer (some ⟨p, 0, none⟩), .int .i32 r] w fun e w' => ∃ (v : Int) (is : Bool), e = .returned (.tuple #[.int .i64 v, .bool is]) ∧ Below w.heap.size w w' ∧
      ((is = false ∧ v = 0 ∧ ∀ j, j < l.length → r < (l.getD j default).lo ∨ (l.getD j default).hi < r) ∨ (is = true ∧ ∃ j, j < l.length ∧ (l.getD j default).lo ≤ r ∧ r ≤ (l.getD j default).hi ∧ v = (l.getD j default).val)) := by
  have Hs := Lib.hid hs
  have Hw := Lib.hid hw
  clear hs hw
  go_enter Try.func11, Try.ntmps11
  go_wp2
  refine wp_scope_jumps 0 (fun _ _ => False) (fun _ _ => 0) rfl ?_ ?_
  rotate_left
  · exact fun _ _ h => h.elim
  · go_wp2
    go_quiet (fail)
    go_wp2
    have hq : Below w.heap.size w (w.drewN nq) := ⟨rfl, rfl, rfl, Nat.le_refl _, fun _ _ => rfl⟩
    go_step3
    rename_i hK
    refine hK _ _ ?_
    clear hK
    go_wp2
    go_loopw [6, 7] (fun f t wr => ∃ k m : Nat, f = .int .i64 k ∧ t = .int .i64 m ∧ k ≤ m ∧ m ≤ l.length ∧ Hid ((∀ j, j < k → (l.getD j default).hi < r) ∧ ∀ j, m ≤ j → j < l.length → r < (l.getD j default).lo) ∧ Below w.heap.size w wr) (fun f t _ => (intOf t).toNat - (intOf f).toNat)
    case atStart => exact ⟨0, l.length, rfl, rfl, Nat.zero_le _, Nat.le_refl _, Lib.hid ⟨fun j h => by omega, fun j h h' => by omega⟩, hq⟩
    case round =>
      obtain ⟨k, m, rfl, rfl, hk, hml, Hi, hb⟩ := hrel
      by_cases hlt : k < m
      · have hat : k + (m - k) / 2 < l.length := by omega
        have ht : ((m : Int) - k).tdiv 2 = ((m - k) / 2 : Nat) := by rw [Int.tdiv_eq_ediv_of_nonneg (by omega)]; omega
        have hm2 := (hb.cell (p := ⟨p, 1, none⟩) hp).trans hm
        have hr2 : wr.rangeAt rb (off + (k + (m - k) / 2) * 3) (l.getD (k + (m - k) / 2) default).cells := fun j v hj => (hb.cell (p := ⟨rb, _, none⟩) hrb).trans (hr _ hat j v hj)
        have c0 := hr2 0 _ rfl
        have c1 := hr2 1 _ rfl
        have c2 := hr2 2 _ rfl
        rw [Nat.add_zero] at c0
        have hlow : r < (l.getD (k + (m - k) / 2) default).lo → Hid ((∀ j, j < k → (l.getD j default).hi < r) ∧ ∀ j, k + (m - k) / 2 ≤ j → j < l.length → r < (l.getD j default).lo) := fun h1 => Lib.hid ⟨Hi.out.1, fun j hj hjl => by
          rcases Nat.lt_or_ge (k + (m - k) / 2) j with h | h
          · have a1 := Hs.out _ _ h hjl
            have a2 := Hw.out _ hat
            omega
          · have : j = k + (m - k) / 2 := by omega
            subst this; exact h1⟩
        have hhigh : (l.getD (k + (m - k) / 2) default).hi < r → Hid ((∀ j, j < k + (m - k) / 2 + 1 → (l.getD j default).hi < r) ∧ ∀ j, m ≤ j → j < l.length → r < (l.getD j default).lo) := fun h1 => Lib.hid ⟨fun j hj => by
          rcases Nat.lt_or_ge j (k + (m - k) / 2) with h | h
          · have a1 := Hs.out _ _ h hat
            have a2 := Hw.out _ hat
            omega
          · have : j = k + (m - k) / 2 := by omega
            subst this; exact h1, Hi.out.2⟩
        have heq : Hid (∃ j, j < l.length ∧ l.getD j default = l.getD (k + (m - k) / 2) default) := Lib.hid ⟨_, hat, rfl⟩
        clear hr2
        have hbo := fun o => hb.alloc (Nat.le_trans (Nat.le_refl _) hb.size) o
        generalize l.getD (k + (m - k) / 2) default = x at *
        have hb2 : Below w.heap.size w (wr.alloc (.cells #[.int .i32 x.lo, .int .i32 x.hi, .int .i64 x.val] 24)) := hbo _
        by_cases h1 : r < x.lo
        · have Hj := hlow h1
          clear hlow hhigh hbo
          go_wp2
          go_roundw
          case rel => exact ⟨k, k + (m - k) / 2, rfl, by go_num, by omega, by omega, Hj, hb2⟩
          case measure => simp [intOf]; omega
        by_cases h2 : x.hi < r
        · have Hj := hhigh h2
          clear hlow hhigh hbo
          go_wp2
          go_roundw
          case rel => exact ⟨k + (m - k) / 2 + 1, m, by go_num, rfl, by omega, by omega, Hj, hb2⟩
          case measure => simp [intOf]; omega
        · have d1 : (wr.alloc (.cells #[.int .i32 x.lo, .int .i32 x.hi, .int .i64 x.val] 24)).cell? ⟨p, 1, none⟩ = some (.slice (some ⟨rb, off, none⟩) l.length c) := (hb2.cell (p := ⟨p, 1, none⟩) hp).trans hm
          have d2 : (wr.alloc (.cells #[.int .i32 x.lo, .int .i32 x.hi, .int .i64 x.val] 24)).cell? ⟨rb, off + (k + (m - k) / 2) * 3 + 2, none⟩ = some (.int .i64 x.val) := by
            have e1 := hb2.cell (p := ⟨rb, off + (k + (m - k) / 2) * 3 + 2, none⟩) hrb
            have e2 := hb.cell (p := ⟨rb, off + (k + (m - k) / 2) * 3 + 2, none⟩) hrb
            rw [e1, ← e2]; exact c2
          clear hlow hhigh hbo
          go_wp2
          simp only [Exit.jump]
          go_ret2
          exact ⟨_, _, rfl, hb2, .inr ⟨rfl, by obtain ⟨j, hj, rfl⟩ := heq.out; exact ⟨j, hj, by omega, by omega, rfl⟩⟩⟩
      · have hkm : k = m := by omega
        subst hkm
        clear hr
        go_wp2
        simp only [Exit.jump]
        go_ret2
        exact ⟨_, _, rfl, hb, .inl ⟨rfl, rfl, fun j hj => by
          rcases Nat.lt_or_ge j k with h | h
          · exact .inr (Hi.out.1 j h)
          · exact .inl (Hi.out.2 j h hj)⟩⟩
end Go.Proofs.Ytpghnoadeamplaa
