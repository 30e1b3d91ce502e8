/- TlvGoes: its walk. -/
import Derived.Test.YtiakfdfpikheaaaOnce
namespace Go.Proofs.Ytiakfdfpikheaaa
open Go.RowKit Go.Shelf
set_option linter.unusedVariables false
set_option linter.unusedSimpArgs false

set_option maxHeartbeats 4000000 in
theorem book_zero (x : Addr) (w : World) :
    Calls Try.prog 13 #[.slice (some x) 0 0] w fun e w' => ∃ (v : Value) (hs : List Hand) (k : Nat), e = .returned (.tuple #[v, .int .i64 k]) ∧ hs.map Hand.it = items [] ∧ RowK kI w' w.heap.size v hs ∧ Good w' w.heap.size hs ∧ Below w.heap.size w w' := by
  go_enter Try.func13, Try.ntmps13
  go_wp2
  go_loopw [4, 5] (fun i j wr => i = .slice none 0 0 ∧ j = .int .i64 0 ∧ wr = w) (fun _ _ _ => 0)
  case atStart => exact ⟨rfl, rfl, rfl⟩
  case round =>
    obtain ⟨rfl, rfl, rfl⟩ := hrel
    have HF := Lib.hid (fst_short (some x) 0 [] wr (by simp))
    go_wp2_with fail
    refine Calls.mono (HF.out) ?_
    rintro e w1 ⟨rfl, m, rfl⟩
    go_wp2_with fail
    go_ret2
    exact ⟨_, [], 0, rfl, by rw [items_no (l := []) rfl]; rfl, nil_row _ _ _, fun x hx => by simp at hx, below_drewN (Below.refl _ _) m⟩

theorem items_len : ∀ (n : Nat) (l : List Int), l.length ≤ n → (items l).length ≤ l.length := by
  intro n
  induction n with
  | zero => intro l hl; rw [items_no (by simp [stands]; omega)]; simp
  | succ n ih =>
    intro l hl
    cases hs : stands l with
    | false => rw [items_no hs]; simp
    | true =>
      obtain ⟨h1, h2, h3, h4⟩ := stands_parts hs
      have := ih (l.drop (5 + nv l)) (by rw [List.length_drop]; omega)
      rw [items_yes hs, List.length_cons]
      rw [List.length_drop] at this
      omega

theorem goes_long (A : Option Addr) (c n : Nat) (leave : Int) (w : World) (hl : 9000 < n) (hm : n ≤ 9223372036854775807) :
    Calls Try.prog 4 #[.slice A n c, .int .i64 leave] w fun e w' => e = .returned (.bool true) ∧ Below w.heap.size w w' := by
  go_enter Try.func4, Try.ntmps4
  go_wp2_with fail
  refine (known_any w).mono ?_
  rintro e w1 ⟨rfl, hb⟩
  go_wp2_with fail
  go_ret
  exact ⟨rfl, hb⟩

set_option maxHeartbeats 4000000 in
theorem goes_ok (A : Option Addr) (c : Nat) (l : List Int) (leave : Int) (w : World) (hr : Rd w w.heap.size A l) (hby : Byt l) (hl : l.length ≤ 9000)
    (hbook : Calls Try.prog 13 #[.slice A l.length c] w fun e w' => ∃ (v : Value) (hs : List Hand) (k : Nat), e = .returned (.tuple #[v, .int .i64 k]) ∧ hs.map Hand.it = items l ∧ RowK kI w' w.heap.size v hs ∧ Good w' w.heap.size hs ∧ Below w.heap.size w w') :
    Calls Try.prog 4 #[.slice A l.length c, .int .i64 leave] w fun e w' => e = .returned (.bool true) ∧ Below w.heap.size w w' := by
  have HB := Lib.hid hbook
  have HR := Lib.hid hr
  clear hbook hr
  go_enter Try.func4, Try.ntmps4
  go_wp2_with fail
  refine HB.out.mono ?_
  clear HB
  rintro e w1 ⟨v, hs, k, rfl, hit, hrow, hgood, hb⟩
  obtain ⟨Aw, cw, rfl, _, hrd⟩ := hrow.rd0
  have hn : hs.length ≤ 1000000 := by
    have h1 := congrArg List.length hit
    have h2 := items_len _ l (Nat.le_refl _)
    simp at h1
    omega
  have hgood1 : Good w1 w1.heap.size hs := fun x hx => (hgood x hx).more hb.size
  have hr1 := (HR.out.below hb).more hb.size
  have H1 := fun m => Lib.hid (once_any A c l Aw cw hs m w1 hr1 (by omega) hn hby hrd hit hgood1)
  have H2 := fun (w2 : World) (h : Below w1.heap.size w1 w2) m => Lib.hid (once_any A c l Aw cw hs m w2 ((hr1.below h).more h.size) (by omega) hn hby (hrd.on h) hit (fun x hx => ((hgood1 x hx).below h).more h.size))
  have Hb := Lib.hid hb
  clear hrow hrd hgood hgood1 hit hr1 hb
  go_wp2_with fail
  refine (H1 _).out.mono ?_
  clear H1
  rintro e w2 ⟨rfl, hb2⟩
  have H3 := H2 w2 hb2
  have Hb2 := Lib.hid hb2
  clear H2 hb2
  go_wp2_with fail
  refine (H3 _).out.mono ?_
  clear H3
  rintro e w3 ⟨rfl, hb3⟩
  have Hb3 := Lib.hid hb3
  clear hb3
  go_wp2_with fail
  refine (known_any w3).mono ?_
  rintro e w4 ⟨rfl, hb4⟩
  go_wp2_with fail
  go_ret
  have z1 := Hb.out.size
  have z2 := Hb2.out.size
  have z3 := Hb3.out.size
  exact ⟨rfl, ((Hb.out.trans (Hb2.out.mono z1)).trans (Hb3.out.mono (by omega))).trans (hb4.mono (by omega))⟩
end Go.Proofs.Ytiakfdfpikheaaa
