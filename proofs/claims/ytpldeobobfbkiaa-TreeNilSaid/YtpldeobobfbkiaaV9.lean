/- Put. -/
import Derived.Test.YtpldeobobfbkiaaV8
namespace Go.Proofs.Ytpldeobobfbkiaa.Tlv
open Go.RowKit
set_option maxRecDepth 100000
set_option linter.unusedVariables false
set_option linter.unusedSimpArgs false

def PutQ (T : Nat) (cnt' t : Int) (w : World) (Q : World → Nat → Nat → Ending → World → Prop) (e : Ending) (w' : World) : Prop :=
  e = .returned (.tuple #[.int .i64 0, .bool false]) ∧ ∃ X b c wb, Below w.heap.size w X ∧ Key X b t ∧ Q X b c (.returned (.tuple #[.int .i64 0, .bool false])) wb ∧ w' = wb.setCell ⟨T, 1, none⟩ (.int .i64 cnt')
set_option maxHeartbeats 8000000 in
theorem Put_nf (T N n cN kb kc : Nat) (A : Option Addr) (cnt cnt' v t : Int) (z : Value) (w : World) (Q : World → Nat → Nat → Ending → World → Prop)
    (hQ : ∀ X b c e w', Q X b c e w' → e = .returned (.tuple #[.int .i64 0, .bool false]) ∧ Blk w' T 24 #[.int .i64 2, .int .i64 cnt, .pointer (some ⟨N, 0, none⟩)])
    (hT : Blk w T 24 #[.int .i64 2, .int .i64 cnt, .pointer (some ⟨N, 0, none⟩)]) (hN : Blk w N 44 #[.slice A n cN, z]) (hn : ((n : Int) == 3) = false) (hc : IntKind.i64.wrap (cnt + 1) = cnt') (hk : Key w kb t)
    (hP : ∀ X b c, Below w.heap.size w X → Key X b t → Calls Try.prog 16 #[.pointer (some ⟨T, 0, none⟩), .pointer (some ⟨N, 0, none⟩), .agg #[keyV b c, .int .i64 v]] X (Q X b c)) :
    Calls Try.prog 4 #[.pointer (some ⟨T, 0, none⟩), keyV kb kc, .int .i64 v] w (PutQ T cnt' t w Q) := by
  have t2 := hT.cell 2
  simp only [List.getElem?_toArray, List.getElem?_cons_zero, List.getElem?_cons_succ] at t2
  have HT0 := Lib.hid hT
  have HN0 := Lib.hid hN
  have HK0 := Lib.hid hk
  have HP0 := Lib.hid hP
  clear hT hN hk hP
  go_enter Try.func4, Try.ntmps4
  go_upto_region 5 with (first
    | (go_at_call 14; (with_reducible refine (none_tree _ _ _ _ _ HT0.out).mono ?_); rintro e wx ⟨rfl, rfl⟩; dsimp only)
    | (go_at_call 15; (with_reducible refine (full_any _ _ _ _ _ _ _ _ _ HT0.out HN0.out).mono ?_); rintro e wx ⟨rfl, m, rfl⟩; dsimp only; rw [hn]))
  have hbm : Below w.heap.size w (w.drewN m) := below_drewN (Below.refl _ _) m
  have HT5 := Lib.hid (HT0.out.drewN m)
  have HK5 := Lib.hid (HK0.out.on hbm)
  have HPut := Lib.hid fun X b c (h : Below (w.drewN m).heap.size (w.drewN m) X) (hk : Key X b t) => HP0.out X b c (hbm.trans h) hk
  have HBm := Lib.hid hbm
  clear hbm t2 HT0 HN0 HK0 HP0
  generalize w.drewN m = W at HT5 HK5 HPut HBm ⊢
  have hC0 : Calls Try.prog 17 #[keyV kb kc] W.drew fun e w' => ∃ v, e = .returned v ∧ Row w' W.drew.heap.size v [t] ∧ Below W.drew.heap.size W.drew w' := clone_any (some ⟨kb, 0, none⟩) kc [t] W.drew (show Rd W.drew W.drew.heap.size (some ⟨kb, 0, none⟩) [t] from HK5.out.rd) (by simp)
  have HCl := Lib.hid hC0
  clear hC0
  have t2 := HT5.out.cell 2
  simp only [List.getElem?_toArray, List.getElem?_cons_zero, List.getElem?_cons_succ] at t2
  go_cut [6, 7] (fun s6 s7 wx => s6 = .int .i64 0 ∧ s7 = .bool false ∧ ∃ X b c, Below W.heap.size W X ∧ Key X b t ∧ Q X b c (.returned (.tuple #[.int .i64 0, .bool false])) wx)
  case first =>
    go_region_law (first
      | (go_simp; (with_reducible refine HCl.out.mono ?_); clear HCl t2; rintro e wx ⟨v', rfl, hr, hb⟩; dsimp only; obtain ⟨b', c', rfl, hk⟩ := key_of_row hr; have HX := Lib.hid (And.intro ((below_drew (Below.refl W.heap.size W)).trans hb) hk); have HP := Lib.hid (HPut.out wx b' c' HX.out.1 hk); have t2 := (HT5.out.on HX.out.1).cell 2; simp only [List.getElem?_toArray, List.getElem?_cons_zero, List.getElem?_cons_succ] at t2; clear hr hb hk)
      | (go_simp; (with_reducible refine HP.out.mono ?_); intro e wy hq; have he := (hQ _ _ _ _ _ hq).1; subst he; dsimp only; have HQ5 := Lib.hid hq; clear hq HP t2))
    all_goals
      go_wp2_with fail
      go_meet
      case rel => exact ⟨rfl, rfl, _, _, _, HX.out.1, HX.out.2, HQ5.out⟩
  case rest =>
  obtain ⟨wb, hwb⟩ : ∃ wb : World, wb = wc := ⟨_, rfl⟩
  subst hwb
  obtain ⟨rfl, rfl, X, b', c', hX, hkX, hq⟩ := hcut
  have k5 := (hQ _ _ _ _ _ hq).2
  have t1 := k5.cell 1
  have t1f := k5.frozen 1
  simp only [List.getElem?_toArray, List.getElem?_cons_zero, List.getElem?_cons_succ] at t1
  have HE := Lib.hid (And.intro hX (And.intro hkX (And.intro hq k5)))
  clear hX hkX hq k5 t2 HCl HPut HT5 HK5 hQ
  go_wp2
  go_ret2
  exact ⟨rfl, X, b', c', wb, HBm.out.trans (HE.out.1.mono HBm.out.size), HE.out.2.1, HE.out.2.2.1, rfl⟩
end Go.Proofs.Ytpldeobobfbkiaa.Tlv
