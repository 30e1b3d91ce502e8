/- Delete. -/
import Derived.Test.YtgjcomnljonffaaB29
import Derived.Test.YtgjcomnljonffaaB30
namespace Go.Proofs.Ytgjcomnljonffaa.Tlv
open Go.RowKit
set_option maxRecDepth 100000
set_option linter.unusedVariables false
set_option linter.unusedSimpArgs false
def DelTOut (T s : Nat) (l : List KV) (F : Nat → Prop) (key : Key) (w : World) (e : Ending) (w' : World) : Prop :=
  ∃ old was F', e = .returned (.tuple #[.int .i64 old, .bool was]) ∧ (was = true → getL key l = some old) ∧ (was = false → getL key l = none ∧ old = 0) ∧ TChg w T s F (dropL key l) w' F'
theorem drop_none {l : List KV} {key : Key} (hs : Srt l) (hg : getL key l = none) : dropL key l = l := (get_none hs hg).symm
/-- Behind a key's removal: the root stays, or its one child takes its place. -/
theorem del_end {T s h : Nat} {l : List KV} {F : Nat → Prop} {d d' dn : Nd} {hn : Nat} {w W W4 : World} {key : Key} (a : TreeIn w T s l F h d) (hb : Below w.heap.size w W) (p : RemPost (s + 1) h d key W W4 d') {W5 : World} (f : Fr (fun k => k = T) W4 W5)
    (hblk : Blk W5 T 61 #[.int .i64 (s + 1 : Nat), .int .i64 (dropL key l).length, .pointer (some ⟨dn.n, 0, none⟩)]) (ts : TS (s + 1) hn W4 dn) (hfl : flat hn dn = flat h d') (ho : ∀ k, occ hn dn k ≤ occ h d' k) (hr : 0 < hn → 1 ≤ dn.its.length) :
    TChg w T s F (dropL key l) W5 (fun k => k = T ∨ 0 < occ hn dn k) := by
  have hT4 : Blk W4 T 61 _ := p.chg.blk (a.ts.on hb).at' (a.blk.on hb) (by decide) (by decide) (by decide)
  refine ⟨⟨hn, dn, hblk, ts.frT f hT4, hr, by rw [hfl, p.drop, a.kvs], fun k => Iff.rfl, a.deg⟩, ?_, ?_⟩
  · refine ((Fr.of hb).trans' p.chg.fr fun k _ h1 => (a.own k).2 (.inr h1)).trans' f fun k _ h1 => by rw [h1]; exact (a.own T).2 (.inl rfl)
  · rintro k hk (rfl | h1)
    · exact (a.own k).2 (.inl rfl)
    · have h2 := ho k
      have h3 := p.chg.old k (Nat.lt_of_lt_of_le hk hb.size)
      exact (a.own k).2 (.inr (by omega))
set_option maxHeartbeats 8000000 in
theorem del_tree (T s n c : Nat) (l : List KV) (F : Nat → Prop) (KA : Option Addr) (key : Key) (w : World) (a : TreeAt w T s l F) (hk : KAt w KA key) (hn : n = key.length) (hl : l.length ≤ 1000000) :
    Calls Try.prog 15 #[.pointer (some ⟨T, 0, none⟩), .slice KA n c] w (DelTOut T s l F key w) := by
  have HG := Lib.hid (get_tree T s n c l F KA key w a hk hn)
  have hsrt := a.srt
  have HAT := Lib.hid a
  obtain ⟨h, d, a⟩ := a
  have HA := Lib.hid (And.intro a (And.intro hk (And.intro hn (And.intro hl hsrt))))
  clear a hk hn hsrt
  go_enter Try.func15, Try.ntmps15
  go_upto_region 2 with (go_at_call 20; (with_reducible refine HG.out.mono ?_); rintro e w1 ⟨old, is, rfl, hy, hno, hb1⟩; dsimp only)
  cases is with
  | false =>
    have HE := Lib.hid (And.intro (hno rfl) hb1)
    clear hy hno hb1
    obtain ⟨_, rfl⟩ := HE.out.1
    go_wp2
    go_ret2
    refine ⟨0, false, F, rfl, (fun h => by cases h), fun _ => ⟨HE.out.1.1, rfl⟩, ?_⟩
    rw [drop_none HA.out.2.2.2.2 HE.out.1.1]
    exact ⟨HAT.out.on HE.out.2, Fr.of HE.out.2, fun k _ h => h⟩
  | true =>
    have hgt := hy rfl
    have HE := Lib.hid (And.intro hgt hb1)
    have hbl := HA.out.1.blk.on hb1
    have t2 := hbl.cell 2
    simp only [List.getElem?_toArray, List.getElem?_cons_zero, List.getElem?_cons_succ] at t2
    have hrm := remove_any T h s _ _ d KA n c key w1 hbl (HA.out.1.ts.on hb1) HA.out.1.deg (by rw [HA.out.1.kvs, hgt]; simp) HA.out.1.root (HA.out.2.1.on hb1) HA.out.2.2.1
    have HRM := Lib.hid hrm
    have HBL := Lib.hid hbl
    clear hy hno hb1 hgt hbl hrm
    go_upto_region 5 with (go_at_call 29; (with_reducible refine HRM.out.mono ?_); rintro e w4 ⟨rfl, d', p⟩; dsimp only)
    have hT4 : Blk w4 T 61 _ := p.chg.blk (HA.out.1.ts.on HE.out.2).at' HBL.out (by decide) (by decide) (by decide)
    obtain ⟨A1, c1, B1, e1, f1, f2⟩ := p.chg.ts.at'.node.form
    have hcb := p.chg.ts.at'.node.blk
    rw [f1, f2, p.chg.n] at hcb
    have hlf := leaf_any d.n d'.kids.length e1 _ B1 w4 hcb
    have hkr := p.chg.ts.at'.node.kids
    rw [f2] at hkr
    have t1 := hT4.cell 1
    have t1f := hT4.frozen 1
    have t2 := hT4.cell 2
    have t2f := hT4.frozen 2
    have p0 := hcb.cell 0
    have p1 := hcb.cell 1
    simp only [List.getElem?_toArray, List.getElem?_cons_zero, List.getElem?_cons_succ] at t1 t2 p0 p1
    have hll : (dropL key l).length + 1 = l.length := drop_length HA.out.2.2.2.2 (by rw [HE.out.1]; simp)
    obtain ⟨n1, hn1⟩ : ∃ n1, n1 = (dropL key l).length := ⟨_, rfl⟩
    have hw1 : IntKind.i64.wrap ((l.length : Int) - 1) = (n1 : Int) := by rw [IntKind.wrap_i64]; omega
    have HP := Lib.hid (And.intro p (And.intro hT4 (And.intro hll (And.intro hn1 (And.intro hcb hkr)))))
    have hTN : T ≠ d.n := fun e => absurd (blk_ty hT4 (e ▸ hcb)) (by decide)
    by_cases hz : d'.its.length = 0
    · cases h with
      | zero =>
        have hk0 : d'.kids = [] := p.chg.ts.bal.1
        rw [show decide (d'.kids.length = 0) = true by rw [hk0]; rfl] at hlf
        have HLF := Lib.hid hlf
        rw [hz] at p0
        clear p hT4 hll hn1 hcb hkr hlf f1 f2 hk0 hz
        go_wp2_with (go_at_call 30; (with_reducible refine HLF.out.mono ?_); rintro e w5 ⟨rfl, rfl⟩; dsimp only)
        go_ret2
        have hset := HP.out.2.1.set_ 1 (.int .i64 n1)
        refine ⟨old, true, _, rfl, fun _ => HE.out.1, (fun h => by cases h), del_end (dn := d') (hn := 0) HA.out.1 HE.out.2 HP.out.1 (Fr.set (S := fun k => k = T) (Fr.refl _) rfl _) ?_ HP.out.1.chg.ts rfl (fun k => Nat.le_refl _) (fun h => absurd h (by simp))⟩
        rw [HP.out.1.chg.n, ← HP.out.2.2.2.1]
        simpa using hset
      | succ h =>
        have hb : d'.kids.length = d'.its.length + 1 := p.chg.ts.bal.1
        rw [show decide (d'.kids.length = 0) = false from decide_eq_false (by omega)] at hlf
        have HLF := Lib.hid hlf
        obtain ⟨ch, k2, hpl, hki⟩ := place_at p.chg.ts.bal (i := 0) (Nat.zero_le _)
        obtain ⟨gK, rfl, x0⟩ := hkr.cellP (j := 0) (by omega)
        rw [show (d'.kids.map Nd.n).getD 0 0 = ch.n by rw [List.getD_eq_getElem?_getD, List.getElem?_map, hki]; rfl] at x0
        have hk2 : k2 = [] := by
          have h1 := congrArg List.length hpl.kids
          simp at h1
          exact List.eq_nil_of_length_eq_zero (by omega)
        have hi0 : d'.its = [] := List.eq_nil_of_length_eq_zero hz
        have hkk : d'.kids = [ch] := by have := hpl.kids; rw [hk2] at this; simpa using this
        rw [hz] at p0
        rw [show d'.kids.length = 1 by omega] at p1
        have HK := Lib.hid (And.intro hkk hi0)
        have ac := p.chg.ts.at'.2 ch (by rw [hkk]; simp)
        have hcl := (p.chg.ts.bal.2.2 ch (by rw [hkk]; simp)).2
        have tsc : TS (s + 1) h w4 ch := p.chg.ts.kid hpl.its hpl.kids hpl.len
        have HC := Lib.hid (And.intro tsc hcl)
        have hT5 := HP.out.2.1.set_ 2 (.pointer (some ⟨ch.n, 0, none⟩))
        have t1b := hT5.cell 1
        have t1bf := hT5.frozen 1
        simp at t1b
        clear p hT4 hll hn1 hcb hkr hlf f1 f2 hz hb hpl hki hk2 hi0 hkk ac hcl tsc hT5
        go_wp2_with (go_at_call 30; (with_reducible refine HLF.out.mono ?_); rintro e w5 ⟨rfl, rfl⟩; dsimp only)
        go_ret2
        have hset := (HP.out.2.1.set_ 2 (.pointer (some ⟨ch.n, 0, none⟩))).set_ 1 (.int .i64 n1)
        refine ⟨old, true, _, rfl, fun _ => HE.out.1, (fun h => by cases h), del_end (dn := ch) (hn := h) HA.out.1 HE.out.2 HP.out.1 (Fr.set (S := fun k => k = T) (Fr.set (S := fun k => k = T) (Fr.refl _) rfl _) rfl _) ?_ HC.out.1 ?_ (fun k => ?_) (fun _ => by have := HC.out.2; have := HA.out.1.deg; omega)⟩
        · rw [← HP.out.2.2.2.1]
          simpa using hset
        · show _ = inter d'.its (d'.kids.map (flat h))
          rw [HK.out.1, HK.out.2]
          simp [inter, sufL]
        · rw [occ_succ, HK.out.1]
          simp
    · have hz' : ¬ ((d'.its.length : Int) = 0) := by omega
      have hz2 : ((d'.its.length : Int) == 0) = false := by simpa using hz
      clear p hT4 hll hn1 hcb hkr hlf f1 f2
      go_wp2
      go_ret2
      have hset := HP.out.2.1.set_ 1 (.int .i64 n1)
      refine ⟨old, true, _, rfl, fun _ => HE.out.1, (fun h => by cases h), del_end (dn := d') (hn := h) HA.out.1 HE.out.2 HP.out.1 (Fr.set (S := fun k => k = T) (Fr.refl _) rfl _) ?_ HP.out.1.chg.ts rfl (fun k => Nat.le_refl _) (fun _ => by omega)⟩
      rw [HP.out.1.chg.n, ← HP.out.2.2.2.1]
      simpa using hset
end Go.Proofs.Ytgjcomnljonffaa.Tlv
