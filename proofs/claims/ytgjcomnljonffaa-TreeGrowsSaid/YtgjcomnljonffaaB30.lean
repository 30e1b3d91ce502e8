/- Get. -/
import Derived.Test.YtgjcomnljonffaaB19
namespace Go.Proofs.Ytgjcomnljonffaa.Tlv
open Go.RowKit
set_option maxRecDepth 100000
set_option linter.unusedVariables false
set_option linter.unusedSimpArgs false
theorem get_kid {t h : Nat} {w : World} {d c : Nd} {i1 i2 : List It} {k1 k2 : List Nd} {key : Key} (pl : Place d i1 i2 k1 c k2) (a : TS t (h + 1) w d) (h1 : ∀ x ∈ i1, klt x.k key) (h2 : ∀ x ∈ i2, klt key x.k) : getL key (kvs (flat (h + 1) d)) = getL key (kvs (flat h c)) := by
  obtain ⟨lo, hi⟩ := pl.lohi a h1 h2
  rw [flat_mid (h := h) pl.its pl.kids pl.len]
  simp only [kvs, List.map_append]
  exact getL_mid lo hi
theorem get_here {t h : Nat} {w : World} {d : Nd} {i1 i2 : List It} {x : It} (a : TS t h w d) (hi : d.its = i1 ++ x :: i2) : getL x.k (kvs (flat h d)) = some x.v := by
  obtain ⟨A, B, f1, _⟩ := flat_item a hi
  have hs := a.srt
  rw [f1] at hs ⊢
  have e1 : kvs (A ++ x :: B) = kvs A ++ (x.k, x.v) :: kvs B := by simp [It.kv]
  rw [e1] at hs ⊢
  have hm := srt_mid hs
  exact getL_at hm.1 hm.2
def GetOut (l : List KV) (key : Key) (w : World) (e : Ending) (w' : World) : Prop :=
  ∃ v is, e = .returned (.tuple #[.int .i64 v, .bool is]) ∧ (is = true → getL key l = some v) ∧ (is = false → getL key l = none ∧ v = 0) ∧ Below w.heap.size w w'
set_option maxHeartbeats 4000000 in
theorem get_tree (T s n c : Nat) (l : List KV) (F : Nat → Prop) (KA : Option Addr) (key : Key) (w : World) (a : TreeAt w T s l F) (hk : KAt w KA key) (hn : n = key.length) :
    Calls Try.prog 20 #[.pointer (some ⟨T, 0, none⟩), .slice KA n c] w (GetOut l key w) := by
  obtain ⟨h0, d0, a⟩ := a
  have HN := Lib.hid (none_tree T d0.n _ _ w a.blk)
  have t2 := a.blk.cell 2
  simp only [List.getElem?_toArray, List.getElem?_cons_zero, List.getElem?_cons_succ] at t2
  have HA := Lib.hid (And.intro a (And.intro hk hn))
  clear a hk hn
  go_enter Try.func20, Try.ntmps20
  go_upto_region 4 with (go_at_call 25; (with_reducible refine HN.out.mono ?_); rintro e w1 ⟨rfl, rfl⟩; dsimp only)
  go_loopg [4, 6] h0 (fun g s4 s6 wr => ∃ (h : Nat) (d : Nd), s4 = .int .i64 0 ∧ s6 = .pointer (some ⟨d.n, 0, none⟩) ∧ h ≤ g ∧ Hid (TS (s + 1) h wr d ∧ Below w.heap.size w wr ∧ getL key (kvs (flat h d)) = getL key l ∧ KAt wr KA key))
  case atStart => exact ⟨h0, d0, rfl, rfl, Nat.le_refl _, Lib.hid ⟨HA.out.1.ts, Below.refl _ _, by rw [HA.out.1.kvs], HA.out.2.1⟩⟩
  case round =>
    obtain ⟨h, d, rfl, rfl, hg, HI⟩ := hrel
    obtain ⟨A, c1, B, e, e1, e2⟩ := HI.out.1.at'.node.form
    have HV := Lib.hid (And.intro e1 e2)
    have hN := HI.out.1.at'.node.blk
    rw [e1, e2] at hN
    have hri := HI.out.1.at'.node.its
    rw [e1] at hri
    obtain ⟨A', c', e3, _, hrd⟩ := hri.rd0
    have e4 : A' = A := by injection e3 with e3 _ _; exact e3.symm
    rw [e4] at hrd
    have HF := Lib.hid (find_any d.n A KA d.its.length c1 n c (.slice B d.kids.length e) d.its key wr hN hrd rfl (by have := HI.out.1.bal.most; have := HA.out.1.deg; omega) HI.out.1.rise HI.out.1.itsKeys HI.out.2.2.2 HA.out.2.2)
    clear hri hrd e3 e4 e1 e2 hN t2
    go_upto_region 5 with (go_at_call 35; (with_reducible refine HF.out.mono ?_); rintro e w1 ⟨i, is, rfl, hf, hb1⟩; dsimp only)
    clear HF
    have HW := Lib.hid (And.intro (HI.out.1.on hb1) (And.intro (HI.out.2.1.trans (hb1.mono HI.out.2.1.size)) (And.intro (HI.out.2.2.2.on hb1) hf)))
    have hN := HW.out.1.at'.node.blk
    rw [HV.out.1, HV.out.2] at hN
    have hri := HW.out.1.at'.node.its
    rw [HV.out.1] at hri
    have hrk := HW.out.1.at'.node.kids
    rw [HV.out.2] at hrk
    have hlf := leaf_any d.n d.kids.length e _ B w1 hN
    have p0 := hN.cell 0
    have p1 := hN.cell 1
    simp only [List.getElem?_toArray, List.getElem?_cons_zero, List.getElem?_cons_succ] at p0 p1
    clear hf hb1 hN
    cases is with
    | true =>
      obtain ⟨hil, hkk⟩ := HW.out.2.2.2.yes rfl
      obtain ⟨g, rfl, _, cv⟩ := hri.cellI hil
      have hcut := cut_at hil
      have hii : (i : Int) < (d.its.length : Int) := by omega
      generalize hx : d.its.getD i default = x at cv hkk hcut
      have HX := Lib.hid (And.intro hcut hkk)
      clear hcut hkk hx hri hrk hlf p1
      go_wp2
      go_ret2
      refine ⟨x.v, true, rfl, fun _ => ?_, (fun h => by cases h), HW.out.2.1⟩
      rw [← HI.out.2.2.1, ← HX.out.2]
      exact get_here HW.out.1 HX.out.1
    | false =>
      have hlo := HW.out.2.2.2.lo
      have hhi := HW.out.2.2.2.no rfl
      have hle := HW.out.2.2.2.le
      cases h with
      | zero =>
        have hk0 : d.kids = [] := HW.out.1.bal.1
        rw [show decide (d.kids.length = 0) = true by rw [hk0]; rfl] at hlf
        have HLF := Lib.hid hlf
        have hno : getL key (kvs (flat 0 d)) = none := by
          show getL key (kvs d.its) = none
          rw [← List.take_append_drop i d.its]
          simp only [kvs, List.map_append]
          exact getL_no (fun x hx => by obtain ⟨y, hy, rfl⟩ := List.mem_map.1 hx; exact hlo y hy) (fun x hx => by obtain ⟨y, hy, rfl⟩ := List.mem_map.1 hx; exact hhi y hy)
        have HNO := Lib.hid hno
        clear hlf hk0 hri hrk hlo hhi hle p0 p1 hno
        go_wp2_with (go_at_call 30; (with_reducible refine HLF.out.mono ?_); rintro e w2 ⟨rfl, rfl⟩; dsimp only)
        go_ret2
        exact ⟨0, false, rfl, (fun h => by cases h), fun _ => ⟨by rw [← HI.out.2.2.1]; exact HNO.out, rfl⟩, HW.out.2.1⟩
      | succ h =>
        have hbal : d.kids.length = d.its.length + 1 := HW.out.1.bal.1
        rw [show decide (d.kids.length = 0) = false from decide_eq_false (by omega)] at hlf
        have HLF := Lib.hid hlf
        obtain ⟨ch, k2, hpl, hki⟩ := place_at HW.out.1.bal hle
        obtain ⟨gK, rfl, ck0⟩ := hrk.cellP (j := i) (by omega)
        rw [show (d.kids.map Nd.n).getD i 0 = ch.n by rw [List.getD_eq_getElem?_getD, List.getElem?_map, hki]; rfl] at ck0
        have hik : i < d.kids.length := by omega
        have hii : (i : Int) < (d.kids.length : Int) := by omega
        have HPL := Lib.hid (And.intro hpl (And.intro hlo hhi))
        clear hlf hbal hri hrk hlo hhi hpl hki p0
        go_wp2_with (go_at_call 30; (with_reducible refine HLF.out.mono ?_); rintro e w2 ⟨rfl, rfl⟩; dsimp only)
        go_roundg h
        case measure => omega
        case rel =>
          have ac := HW.out.1.kid HPL.out.1.its HPL.out.1.kids HPL.out.1.len
          refine ⟨h, ch, rfl, rfl, Nat.le_refl _, Lib.hid ⟨ac, HW.out.2.1, ?_, HW.out.2.2.1⟩⟩
          rw [← get_kid HPL.out.1 HW.out.1 HPL.out.2.1 HPL.out.2.2]
          exact HI.out.2.2.1
end Go.Proofs.Ytgjcomnljonffaa.Tlv
