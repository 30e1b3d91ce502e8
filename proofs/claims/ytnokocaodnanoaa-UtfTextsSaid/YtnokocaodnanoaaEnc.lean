/- utf.Encode: the text of runes. -/
import Derived.Test.YtnokocaodnanoaaUPut
import Derived.Test.YtnokocaodnanoaaHits
namespace Go.Proofs.Ytnokocaodnanoaa
open Go.RowKit
set_option linter.unusedVariables false

/-- The bytes of runes, one behind the other. -/
def encI (zs : List Int) : List Int := zs.flatMap putI
theorem encI_snoc (zs : List Int) (r : Int) : encI (zs ++ [r]) = encI zs ++ putI r := by simp [encI]
theorem putI_len4 (r : Int) : (putI r).length ≤ 4 := by unfold putI; (repeat' split) <;> simp
theorem encI_len (zs : List Int) : (encI zs).length ≤ 4 * zs.length := by
  induction zs with
  | nil => simp [encI]
  | cons z t ih => have := putI_len4 z; simp [encI] at *; omega
theorem take_snoc (zs : List Int) (k : Nat) (hk : k < zs.length) : zs.take (k + 1) = zs.take k ++ [zs.getD k 0] := by
  rw [List.take_add_one, List.getElem?_eq_getElem hk]; simp [List.getD, List.getElem?_eq_getElem hk]

theorem getD_mem (zs : List Int) (k : Nat) (h : k < zs.length) : zs.getD k 0 ∈ zs := by
  rw [List.getD_eq_getElem?_getD, List.getElem?_eq_getElem h]; exact List.getElem_mem h

/-- A slice of runes that came in. -/
def In32 (w : World) (B : Nat) (A : Option Addr) (zs : List Int) : Prop :=
  0 < zs.length → ∃ b off, A = some ⟨b, off, none⟩ ∧ b < B ∧ ∀ j, j < zs.length → w.cell? ⟨b, off + j, none⟩ = some (.int .i32 (zs.getD j 0))

theorem conv_row {w : World} {base : Nat} {v : Value} {l : List Int} (h : Row w base v l) : (convert 29 9 v).run Try.prog w = .ok (.string (mkS l)) w := by
  obtain ⟨h1, h2⟩ := h
  rcases h2 with ⟨rfl, hl⟩ | ⟨g, cap, cur, rfl, h3, h4, h5, h6, h7, h8⟩
  · have : l = [] := List.eq_nil_of_length_eq_zero hl
    subst this
    rw [run_convert_bytes_string (P := Try.prog) w 29 9 5 none _ _ Try.underlying29 Try.underlying5 Try.underlying9]
    simp [Conv.bytesToString, mkS, Sem.run_pure]
  · refine conv_of w ⟨g, 0, none⟩ cap l fun j u hj => ?_
    exact World.ownsRow.cells (w := w) (base := base) (e := 5) (size := 1) (v := .slice (some ⟨g, 0, none⟩) l.length cap) (n := l.length) (xs := l.map (Value.int .u8))
      ⟨h1, .inr ⟨g, cap, cur, rfl, h3, h4, h5, h6, h7, h8⟩⟩ (g := g) rfl j u hj

def Frm25 (a : Act) : Prop := a.defers = [] ∧ a.tmps.size = 25
theorem none_end23 {w' : World} {R : Ending → World → Prop} {t : Array Value} (ht : t.size = 25)
    (h : R (.returned (.tuple #[.string ByteArray.empty, .int .i64 2])) w') :
    bodyPost Try.prog Try.f23 R Exit.ret { tmps := (t.setIfInBounds 2 (Value.string ⟨#[]⟩)).setIfInBounds 3 (Value.int IntKind.i64 2), defers := [] } w' := by
  refine bodyPost_ret (v := .tuple #[.string ByteArray.empty, .int .i64 2]) ?_ rfl h
  simp [results, Try.results23, Array.getD, ht]
  rfl

set_option maxHeartbeats 1000000 in
theorem enc_ok (zs : List Int) (A : Option Addr) (cap : Nat) (w : World) (hin : In32 w w.heap.size A zs) (hn : zs.length ≤ 9000) (hm : ∀ z ∈ zs, mayB z = true) :
    Calls Try.prog 23 #[.slice A zs.length cap] w fun e w' => e = .returned (.tuple #[.string (mkS (encI zs)), .int .i64 0]) ∧ Below w.heap.size w w' := by
  obtain ⟨i0, hi, hz0, hz1, hz2⟩ := info_parts info5
  go_enter Try.func23, Try.ntmps23
  go_wp2
  refine wp_scope_jumps 0 (fun _ _ => False) (fun _ _ => 0) rfl ?_ ?_
  rotate_left
  · exact fun _ _ h => h.elim
  go_wp2_with (at_make; refine wpList_make_own _ rfl _ _ 29 rfl w.heap.size 5 i0 (.int .u8 0) 1 Try.underlying29 hi hz0 hz1 .i64 .i64 zs.length zs.length rfl rfl rfl (by rw [hz2]; omega) (by unfold maxLen; omega) (Nat.le_refl _) ?_; intro w1 hrow1 hg1)
  have hB1 : Below w.heap.size w w1 := (Below.refl _ _).grown hg1 (Nat.le_refl _) (fun k hk => by cases hk)
  have hR1 : Row w1 w.heap.size (Value.slice (some ⟨w.heap.size, 0, none⟩) 0 zs.length) [] := hrow1
  clear hrow1 hg1
  go_loopw [4, 12] (fun v i wr => ∃ k : Nat, i = .int .i64 k ∧ k ≤ zs.length ∧ Row wr w.heap.size v (encI (zs.take k)) ∧ Below w.heap.size w wr) (fun _ i _ => zs.length - (intOf i).toNat)
  case atStart => exact ⟨0, rfl, Nat.zero_le _, hR1, hB1⟩
  case round =>
    obtain ⟨k, rfl, hk, hrow, hb⟩ := hrel
    clear hR1 hB1
    by_cases hlt : k < zs.length
    · obtain ⟨b, off, rfl, hbB, hc⟩ := hin (by omega)
      have hc' := (hb.cell (p := ⟨b, off + k, none⟩) hbB).trans (hc k hlt)
      have hmk : mayB (zs.getD k 0) = true := hm _ (getD_mem zs k hlt)
      have hmm := fun W => may_any (zs.getD k 0) W
      rw [hmk] at hmm
      have Hm := Lib.hid hmm
      have hlen := encI_len (zs.take k)
      have hlk : (zs.take k).length ≤ k := List.length_take_le _ _
      have hpp := uput_any (zs.getD k 0) wr w.heap.size _ _ hmk hrow (by omega) hb.size
      have HE := Lib.hid (take_snoc zs k hlt)
      have Hp := Lib.hid hpp
      generalize zs.getD k 0 = z at *
      clear hc hmm hmk hpp hm
      go_wp2_with (first
        | (go_at_call 14; refine (Hm.out _).mono ?_; rintro e w' ⟨rfl, rfl⟩)
        | (go_at_call 27; refine Hp.out.mono ?_; rintro e w2 ⟨v2, rfl, hrow2, hb2⟩))
      go_roundw
      case rel => exact ⟨k + 1, by go_num, by omega, by rw [HE.out, encI_snoc]; exact hrow2, hb.trans hb2⟩
      case measure => simp [intOf]; omega
    · have e : k = zs.length := by omega
      subst e
      have hcv := conv_row hrow
      go_wp2
      simp only [Exit.jump]
      go_ret2
      exact ⟨rfl, hb⟩
theorem all_snoc {l : List Int} {z : Int} (h : ∀ x ∈ l, mayB x = true) (hz : mayB z = true) : ∀ x ∈ l ++ [z], mayB x = true := by
  intro x hx
  rcases List.mem_append.1 hx with h1 | h1
  · exact h x h1
  · simp at h1; subst h1; exact hz

set_option maxHeartbeats 1000000 in
theorem enc_no (zs : List Int) (A : Option Addr) (cap : Nat) (w : World) (hin : In32 w w.heap.size A zs) (hn : zs.length ≤ 9000) (hm : ¬ ∀ z ∈ zs, mayB z = true) :
    Calls Try.prog 23 #[.slice A zs.length cap] w fun e w' => e = .returned (.tuple #[.string ByteArray.empty, .int .i64 2]) ∧ Below w.heap.size w w' := by
  obtain ⟨i0, hi, hz0, hz1, hz2⟩ := info_parts info5
  go_enter Try.func23, Try.ntmps23
  go_wp2
  refine wp_scope_jumps 0 (fun a' w' => Below w.heap.size w w' ∧ Frm25 a') (fun _ _ => 0) rfl ?_ ?_
  rotate_left
  · rintro ⟨t, d⟩ w' ⟨hB, rfl, ht⟩
    go_wp2
    simp only [Exit.jump]
    exact none_end23 ht ⟨rfl, hB⟩
  go_wp2_with (at_make; refine wpList_make_own _ rfl _ _ 29 rfl w.heap.size 5 i0 (.int .u8 0) 1 Try.underlying29 hi hz0 hz1 .i64 .i64 zs.length zs.length rfl rfl rfl (by rw [hz2]; omega) (by unfold maxLen; omega) (Nat.le_refl _) ?_; intro w1 hrow1 hg1)
  have hB1 : Below w.heap.size w w1 := (Below.refl _ _).grown hg1 (Nat.le_refl _) (fun k hk => by cases hk)
  have hR1 : Row w1 w.heap.size (Value.slice (some ⟨w.heap.size, 0, none⟩) 0 zs.length) [] := hrow1
  clear hrow1 hg1
  go_loopw [4, 12] (fun v i wr => ∃ k : Nat, i = .int .i64 k ∧ k ≤ zs.length ∧ (∀ z ∈ zs.take k, mayB z = true) ∧ Row wr w.heap.size v (encI (zs.take k)) ∧ Below w.heap.size w wr) (fun _ i _ => zs.length - (intOf i).toNat)
  case atStart => exact ⟨0, rfl, Nat.zero_le _, by simp, hR1, hB1⟩
  case round =>
    obtain ⟨k, rfl, hk, hall, hrow, hb⟩ := hrel
    clear hR1 hB1
    by_cases hlt : k < zs.length
    · obtain ⟨b, off, rfl, hbB, hc⟩ := hin (by omega)
      have hc' := (hb.cell (p := ⟨b, off + k, none⟩) hbB).trans (hc k hlt)
      have hmm := fun W => may_any (zs.getD k 0) W
      have hlen := encI_len (zs.take k)
      have hlk : (zs.take k).length ≤ k := List.length_take_le _ _
      have HE := Lib.hid (take_snoc zs k hlt)
      have Hall := Lib.hid hall
      have Hm0 := Lib.hid hm
      cases hmk : mayB (zs.getD k 0)
      · rw [hmk] at hmm
        have Hm := Lib.hid hmm
        generalize zs.getD k 0 = z at *
        clear hc hmm hmk hm hall
        go_wp2_with (go_at_call 14; refine (Hm.out _).mono ?_; rintro e w' ⟨rfl, rfl⟩)
        go_step3
        exact ⟨rfl, hb, rfl, rfl⟩
      · rw [hmk] at hmm
        have Hm := Lib.hid hmm
        have Hmk := Lib.hid hmk
        have Hp := Lib.hid (uput_any (zs.getD k 0) wr w.heap.size _ _ hmk hrow (by omega) hb.size)
        generalize zs.getD k 0 = z at *
        clear hc hmm hmk hm hall
        go_wp2_with (first
          | (go_at_call 14; refine (Hm.out _).mono ?_; rintro e w' ⟨rfl, rfl⟩)
          | (go_at_call 27; refine Hp.out.mono ?_; rintro e w2 ⟨v2, rfl, hrow2, hb2⟩))
        go_roundw
        case rel => exact ⟨k + 1, by go_num, by omega, by rw [HE.out]; exact all_snoc Hall.out Hmk.out, by rw [HE.out, encI_snoc]; exact hrow2, hb.trans hb2⟩
        case measure => simp [intOf]; omega
    · exact absurd (by have e : k = zs.length := by omega
                       subst e; rwa [List.take_length] at hall) hm
end Go.Proofs.Ytnokocaodnanoaa
