/- RangesMean: the walk. -/
import Derived.Test.YtpghnoadeamplaaInts
import Derived.Test.YtpghnoadeamplaaBounds
import Derived.Test.YtpghnoadeamplaaNil
import Derived.Test.YtpghnoadeamplaaMakes
import Derived.Deep.Cut
import Derived.Deep.RegionHeld3
namespace Go.Proofs.Ytpghnoadeamplaa
open Go.RowKit
set_option linter.unusedVariables false
set_option linter.unusedSimpArgs false

theorem in32_take {l : List Rg} (h : In32 l) (k : Nat) : In32 (l.take k) := in32_mem.2 fun z hz => in32_mem.1 h z (List.mem_of_mem_take hz)
theorem RdR.take {w : World} {B : Nat} {A : Option Addr} {l : List Rg} (h : RdR w B A l) (k : Nat) : RdR w B A (l.take k) := fun hp => by
  rw [List.length_take] at hp
  obtain ⟨b, off, e, hlt, hc⟩ := h (by omega)
  refine ⟨b, off, e, hlt, fun j hj i v hv => ?_⟩
  rw [List.length_take] at hj
  refine hc j (by omega) i v ?_
  rw [List.getD_eq_getElem?_getD, List.getElem?_take_of_lt (by omega)] at hv
  rwa [List.getD_eq_getElem?_getD]

set_option maxHeartbeats 8000000 in
set_option maxRecDepth 100000 in
theorem mean_out (A : Option Addr) (c : Nat) (l : List Rg) (r : Int) (w : World) (hr : RdR w w.heap.size A l) (hA : A = none → c = 0) (hlm : l.length ≤ maxLen) (hcap : l.length ≤ c) (h32 : In32 l) (h : ¬ (l.length ≤ 200 ∧ l.all goodB = true ∧ Apart l)) :
    Calls Try.prog 4 #[.slice A l.length c, .int .i32 r] w fun e w' => e = .returned (.bool true) ∧ Below w.heap.size w w' := by
  have HR := Lib.hid hr
  have H32 := Lib.hid h32
  clear hr h32
  have hmin : ∃ n : Nat, n = min l.length 200 := ⟨_, rfl⟩
  obtain ⟨nm, hnm⟩ := hmin
  have hnl : nm ≤ l.length := by omega
  have hn2 : nm ≤ 200 := by omega
  have hlen : Hid ((l.take nm).length = nm) := Lib.hid (by rw [List.length_take]; omega)
  rcases Nat.lt_or_ge 200 l.length with hl | hl
  · obtain ⟨b, off, rfl, hbl, _⟩ := HR.out (by omega)
    have hc2 : 200 ≤ c := by omega
    have d1 : decide ((200 : Int) < l.length) = true := by simp only [decide_eq_true_eq]; omega
    have e1 : min (l.length : Int) 200 = 200 := by omega
    obtain rfl : nm = 200 := by omega
    have Hh := Lib.hid h
    clear hnm h hnl hn2
    go_enter Try.func4, Try.ntmps4
    go_wp2_with fail
    refine (known_any _).mono ?_
    rintro e w1 ⟨rfl, hb1⟩
    go_wp2_with fail
    refine (of_end (some ⟨b, off, none⟩) c 200 (l.take 200) w1 hlen.out.symm ((HR.out.on hb1).take 200) (by rw [hlen.out]; decide) (in32_take H32.out 200)).mono ?_
    rintro e w2 ⟨q, n, rfl, hof⟩
    go_wp2_with fail
    go_ret
    exact ⟨rfl, hb1.trans (hof.1.mono hb1.size)⟩
  · have d1 : decide ((200 : Int) < l.length) = false := by simp only [decide_eq_false_iff_not]; omega
    have e1 : min (l.length : Int) 200 = l.length := by omega
    have hbad : Hid (∀ w1 q n w2, OfRes l w1 q n w2 → n = 2 ∨ n = 9) := Lib.hid fun w1 q n w2 hof => by
      rcases hof.2 with ⟨_, _, h1⟩ | ⟨_, _, _, h1⟩ | ⟨h1, h2, _⟩
      · exact .inl h1
      · exact .inr h1
      · exact absurd ⟨hl, h1, h2⟩ h
    clear hnm hnl hn2 hlen hlm h
    cases A with
    | none =>
      obtain rfl : l = [] := by
        cases l with
        | nil => rfl
        | cons x t => obtain ⟨b, off, e, _⟩ := HR.out (by simp); cases e
      obtain rfl : c = 0 := hA rfl
      go_enter Try.func4, Try.ntmps4
      go_wp2_with fail
      refine (known_any _).mono ?_
      rintro e w1 ⟨rfl, hb1⟩
      go_wp2_with fail
      refine (of_end none 0 0 [] w1 rfl (HR.out.on hb1) (by simp) H32.out).mono ?_
      rintro e w2 ⟨q, n, rfl, hof⟩
      rcases hbad.out _ _ _ _ hof with rfl | rfl
      all_goals
        go_wp2_with fail
        refine (num_any _ _).mono ?_
        rintro e w2 ⟨rfl, rfl⟩
        go_wp2_with fail
        go_ret
        exact ⟨rfl, hb1.trans (hof.1.mono hb1.size)⟩
    | some a =>
      go_enter Try.func4, Try.ntmps4
      go_wp2_with fail
      refine (known_any _).mono ?_
      rintro e w1 ⟨rfl, hb1⟩
      go_wp2_with fail
      refine (of_end (some a) c l.length l w1 rfl (HR.out.on hb1) (by omega) H32.out).mono ?_
      rintro e w2 ⟨q, n, rfl, hof⟩
      rcases hbad.out _ _ _ _ hof with rfl | rfl
      all_goals
        go_wp2_with fail
        refine (num_any _ _).mono ?_
        rintro e w2 ⟨rfl, rfl⟩
        go_wp2_with fail
        go_ret
        exact ⟨rfl, hb1.trans (hof.1.mono hb1.size)⟩
end Go.Proofs.Ytpghnoadeamplaa
