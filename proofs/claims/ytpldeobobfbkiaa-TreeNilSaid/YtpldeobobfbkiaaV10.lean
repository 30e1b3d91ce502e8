/- Put at a full root. -/
import Derived.Test.YtpldeobobfbkiaaV9
namespace Go.Proofs.Ytpldeobobfbkiaa.Tlv
open Go.RowKit
set_option maxRecDepth 100000
set_option linter.unusedVariables false
set_option linter.unusedSimpArgs false

structure NewRoot (T N P gC : Nat) (cnt : Int) (w w1 : World) : Prop where
  fr : Fr (fun k => k = T) w w1
  t : Blk w1 T 24 #[.int .i64 2, .int .i64 cnt, .pointer (some ⟨P, 0, none⟩)]
  p : Blk w1 P 44 #[.slice none 0 0, .slice (some ⟨gC, 0, none⟩) 1 1]
  c : RowK kP w1 w.heap.size (.slice (some ⟨gC, 0, none⟩) 1 1) [N]
  hi : w.heap.size ≤ P
def PutQf (T N : Nat) (cnt cnt' t : Int) (w : World) (Q : World → Nat → Nat → World → Nat → Nat → Ending → World → Prop) (e : Ending) (w' : World) : Prop :=
  e = .returned (.tuple #[.int .i64 0, .bool false]) ∧ ∃ w1 P gC X b c wb, NewRoot T N P gC cnt w w1 ∧ Below w1.heap.size w1 X ∧ Key X b t ∧ Q w1 P gC X b c (.returned (.tuple #[.int .i64 0, .bool false])) wb ∧ w' = wb.setCell ⟨T, 1, none⟩ (.int .i64 cnt')
set_option maxHeartbeats 8000000 in
theorem Put_f (T N cN kb kc : Nat) (A : Option Addr) (cnt cnt' v t : Int) (z : Value) (w : World) (Qf : World → Nat → Nat → World → Nat → Nat → Ending → World → Prop)
    (hQf : ∀ w1 P gC X b c e w', Qf w1 P gC X b c e w' → e = .returned (.tuple #[.int .i64 0, .bool false]) ∧ Blk w' T 24 #[.int .i64 2, .int .i64 cnt, .pointer (some ⟨P, 0, none⟩)])
    (hT : Blk w T 24 #[.int .i64 2, .int .i64 cnt, .pointer (some ⟨N, 0, none⟩)]) (hN : Blk w N 44 #[.slice A 3 cN, z]) (hc : IntKind.i64.wrap (cnt + 1) = cnt') (hk : Key w kb t)
    (hP : ∀ w1 P gC, NewRoot T N P gC cnt w w1 → ∀ X b c, Below w1.heap.size w1 X → Key X b t → Calls Try.prog 16 #[.pointer (some ⟨T, 0, none⟩), .pointer (some ⟨P, 0, none⟩), .agg #[keyV b c, .int .i64 v]] X (Qf w1 P gC X b c)) :
    Calls Try.prog 4 #[.pointer (some ⟨T, 0, none⟩), keyV kb kc, .int .i64 v] w (PutQf T N cnt cnt' t w Qf) := by
  have t2 := hT.cell 2
  simp only [List.getElem?_toArray, List.getElem?_cons_zero, List.getElem?_cons_succ] at t2
  have hn : (((3 : Nat) : Int) == 3) = true := rfl
  have HT0 := Lib.hid hT
  have HN0 := Lib.hid hN
  have HK0 := Lib.hid hk
  have HP0 := Lib.hid hP
  clear hT hN hk hP
  go_enter Try.func4, Try.ntmps4
  go_upto_region 4 with (first
    | (go_at_call 14; (with_reducible refine (none_tree _ _ _ _ _ HT0.out).mono ?_); rintro e wx ⟨rfl, rfl⟩; dsimp only)
    | (go_at_call 15; (with_reducible refine (full_any _ _ _ _ _ _ _ _ _ HT0.out HN0.out).mono ?_); rintro e wx ⟨rfl, m, rfl⟩; dsimp only; rw [hn]))
  have hbm : Below w.heap.size w (w.drewN m) := below_drewN (Below.refl _ _) m
  have hsz : (w.drewN m).heap.size = w.heap.size := rfl
  have HT1 := Lib.hid (HT0.out.drewN m)
  have HK1 := Lib.hid (HK0.out.on hbm)
  have HBm := Lib.hid (And.intro hbm hsz)
  clear hbm t2 HT0 HN0 HK0 hn hsz
  generalize w.drewN m = W at HT1 HK1 HBm ⊢
  have t2 := HT1.out.cell 2
  have t2f := HT1.out.frozen 2
  simp only [List.getElem?_toArray, List.getElem?_cons_zero, List.getElem?_cons_succ] at t2
  have ta : ∀ o, (W.alloc o).cell? ⟨T, 2, none⟩ = some (.pointer (some ⟨N, 0, none⟩)) := fun o => (HT1.out.alloc o).cell 2
  have tb : ∀ o o', ((W.alloc o).alloc o').cell? ⟨T, 2, none⟩ = some (.pointer (some ⟨N, 0, none⟩)) := fun o o' => ((HT1.out.alloc o).alloc o').cell 2
  have tbf : ∀ o o', ((W.alloc o).alloc o').frozen? ⟨T, 2, none⟩ = false := fun o o' => ((HT1.out.alloc o).alloc o').frozen 2
  go_upto_region 5 with fail
  clear t2 t2f ta tb tbf
  have kT : Blk (((W.alloc (.cells #[.pointer (some ⟨N, 0, none⟩)] 22)).alloc (.cells #[.slice none 0 0, .slice (some ⟨W.heap.size, 0, none⟩) 1 1] 44)).setCell ⟨T, 2, none⟩ (.pointer (some ⟨W.heap.size + 1, 0, none⟩))) T 24 #[.int .i64 2, .int .i64 cnt, .pointer (some ⟨W.heap.size + 1, 0, none⟩)] := by simpa using ((HT1.out.alloc (.cells #[.pointer (some ⟨N, 0, none⟩)] 22)).alloc (.cells #[.slice none 0 0, .slice (some ⟨W.heap.size, 0, none⟩) 1 1] 44)).set_ 2 (.pointer (some ⟨W.heap.size + 1, 0, none⟩))
  have hTlt : T < W.heap.size := HT1.out.lt
  have kPb : Blk (((W.alloc (.cells #[.pointer (some ⟨N, 0, none⟩)] 22)).alloc (.cells #[.slice none 0 0, .slice (some ⟨W.heap.size, 0, none⟩) 1 1] 44)).setCell ⟨T, 2, none⟩ (.pointer (some ⟨W.heap.size + 1, 0, none⟩))) (W.heap.size + 1) 44 #[.slice none 0 0, .slice (some ⟨W.heap.size, 0, none⟩) 1 1] := by
    have h := Blk.new (W.alloc (.cells #[.pointer (some ⟨N, 0, none⟩)] 22)) 44 #[.slice none 0 0, .slice (some ⟨W.heap.size, 0, none⟩) 1 1]
    rw [show (W.alloc (.cells #[.pointer (some ⟨N, 0, none⟩)] 22)).heap.size = W.heap.size + 1 from by simp] at h
    exact h.far (p := ⟨T, 2, none⟩) (by show W.heap.size + 1 ≠ T; omega) _
  have rC : RowK Tlv.kP (((W.alloc (.cells #[.pointer (some ⟨N, 0, none⟩)] 22)).alloc (.cells #[.slice none 0 0, .slice (some ⟨W.heap.size, 0, none⟩) 1 1] 44)).setCell ⟨T, 2, none⟩ (.pointer (some ⟨W.heap.size + 1, 0, none⟩))) w.heap.size (.slice (some ⟨W.heap.size, 0, none⟩) 1 1) [N] := by
    have h : RowK Tlv.kP (W.alloc (.cells #[.pointer (some ⟨N, 0, none⟩)] 22)) w.heap.size (.slice (some ⟨W.heap.size, 0, none⟩) 1 1) [N] := ⟨rfl, .inr ⟨W.heap.size, 1, #[.pointer (some ⟨N, 0, none⟩)], rfl, by rw [HBm.out.2]; exact Nat.le_refl _, heap_alloc_new W _, Nat.le_refl _, by simp [maxLen], rfl, rfl⟩⟩
    exact (h.alloc _).set (by simp [Value.ownBlock]; omega) _
  have hfr : Fr (fun k => k = T) w (((W.alloc (.cells #[.pointer (some ⟨N, 0, none⟩)] 22)).alloc (.cells #[.slice none 0 0, .slice (some ⟨W.heap.size, 0, none⟩) 1 1] 44)).setCell ⟨T, 2, none⟩ (.pointer (some ⟨W.heap.size + 1, 0, none⟩))) :=
    Fr.set (S := fun k => k = T) (Fr.of ((HBm.out.1.alloc (by rw [HBm.out.2]; exact Nat.le_refl _) _).alloc (by simp; rw [HBm.out.2]; omega) _)) rfl _
  have HK5 := Lib.hid (hfr.key (HK1.out.kept (by rw [HBm.out.1.block _ (by have := HK1.out.lt; rw [← HBm.out.2]; exact this)])) (fun h => HK1.out.ne HT1.out (by decide) h))
  have HNR := Lib.hid (show NewRoot T N (W.heap.size + 1) W.heap.size cnt w _ from ⟨hfr, kT, kPb, rC, by rw [HBm.out.2]; omega⟩)
  have HT5 := Lib.hid kT
  clear hTlt kPb rC hfr kT
  obtain ⟨P, hP1⟩ : ∃ P, P = W.heap.size + 1 := ⟨_, rfl⟩
  obtain ⟨gC, hg1⟩ : ∃ gC, gC = W.heap.size := ⟨_, rfl⟩
  rw [← hP1, ← hg1] at HT5 HK5 HNR ⊢
  clear hP1 hg1 HT1 HK1
  generalize ((W.alloc (.cells #[.pointer (some ⟨N, 0, none⟩)] 22)).alloc (.cells #[.slice none 0 0, .slice (some ⟨gC, 0, none⟩) 1 1] 44)).setCell ⟨T, 2, none⟩ (.pointer (some ⟨P, 0, none⟩)) = W1 at HT5 HK5 HNR ⊢
  have HPut := Lib.hid (HP0.out W1 P gC HNR.out)
  obtain ⟨Q, hQe⟩ : ∃ Q, Q = Qf W1 P gC := ⟨_, rfl⟩
  have hQ : ∀ X b c e w', Q X b c e w' → e = .returned (.tuple #[.int .i64 0, .bool false]) ∧ Blk w' T 24 #[.int .i64 2, .int .i64 cnt, .pointer (some ⟨P, 0, none⟩)] := by rw [hQe]; exact hQf W1 P gC
  have HQe := Lib.hid hQe
  rw [← hQe] at HPut
  clear hQe HP0 hQf
  have hC0 : Calls Try.prog 17 #[keyV kb kc] W1.drew fun e w' => ∃ v, e = .returned v ∧ Row w' W1.drew.heap.size v [t] ∧ Below W1.drew.heap.size W1.drew w' := clone_any (some ⟨kb, 0, none⟩) kc [t] W1.drew (show Rd W1.drew W1.drew.heap.size (some ⟨kb, 0, none⟩) [t] from HK5.out.rd) (by simp)
  have HCl := Lib.hid hC0
  clear hC0
  have t2 := HT5.out.cell 2
  simp only [List.getElem?_toArray, List.getElem?_cons_zero, List.getElem?_cons_succ] at t2
  go_cut [6, 7] (fun s6 s7 wx => s6 = .int .i64 0 ∧ s7 = .bool false ∧ ∃ X b c, Below W1.heap.size W1 X ∧ Key X b t ∧ Q X b c (.returned (.tuple #[.int .i64 0, .bool false])) wx)
  case first =>
    go_region_law (first
      | (go_simp; (with_reducible refine HCl.out.mono ?_); clear HCl t2; rintro e wx ⟨v', rfl, hr, hb⟩; dsimp only; obtain ⟨b', c', rfl, hk⟩ := key_of_row hr; have HX := Lib.hid (And.intro ((below_drew (Below.refl W1.heap.size W1)).trans hb) hk); have HP := Lib.hid (HPut.out wx b' c' HX.out.1 hk); have t2 := (HT5.out.on HX.out.1).cell 2; simp only [List.getElem?_toArray, List.getElem?_cons_zero, List.getElem?_cons_succ] at t2; clear hr hb hk)
      | (go_simp; (with_reducible refine HP.out.mono ?_); intro e wy hq; have he := (hQ _ _ _ _ _ hq).1; subst he; dsimp only; have HQ5 := Lib.hid hq; clear hq HP t2))
    all_goals
      go_wp2_with fail
      go_meet
      case rel => exact ⟨rfl, rfl, _, _, _, HX.out.1, HX.out.2, HQ5.out⟩
  case rest =>
  obtain ⟨wb, hwb⟩ : ∃ wb : World, wb = wc := ⟨_, rfl⟩
  subst hwb
  obtain ⟨rfl, rfl, X, b', c', hX, hkX, hq⟩ := hcut
  have k5 := (hQ _ _ _ _ _ hq).2
  have t1 := k5.cell 1
  have t1f := k5.frozen 1
  simp only [List.getElem?_toArray, List.getElem?_cons_zero, List.getElem?_cons_succ] at t1
  have HE := Lib.hid (And.intro hX (And.intro hkX (And.intro hq k5)))
  clear hX hkX hq k5 t2 HCl HPut HT5 HK5 hQ
  go_wp2
  go_ret2
  exact ⟨rfl, W1, P, gC, X, b', c', wb, HNR.out, HE.out.1, HE.out.2.1, HQe.out ▸ HE.out.2.2.1, rfl⟩
end Go.Proofs.Ytpldeobobfbkiaa.Tlv
