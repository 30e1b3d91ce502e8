/- The stage's law. -/
import Derived.Test.YtlhbnmaalhainaaTMeanA
namespace Go.Proofs.Ytlhbnmaalhainaa.Tlv
open Go.RowKit Go.Lib Go.Sort
set_option maxRecDepth 100000
set_option linter.unusedVariables false
set_option linter.unusedSimpArgs false

def AskM (n1 : List UInt8) (l1 : List At) (n2 : List UInt8) (l2 : List At) (cb : List Int) : Prop := n1.length ≤ 9000 ∧ n2.length ≤ 9000 ∧ muchV l1 = false ∧ muchV l2 = false ∧ cb.length ≤ 20000
abbrev KnownM (w : World) (args : Array Value) : Prop := Calls Try.prog 6 args w fun e w' => e = .returned (.bool true) ∧ Below w.heap.size w w'
set_option maxHeartbeats 8000000 in
theorem means_out (n1 : List UInt8) (l1 : List At) (va : Value) (n2 : List UInt8) (l2 : List At) (vb : Value) (A : Option Addr) (cc : Nat) (cb : List Int) (w : World) (hva : RdV w va l1) (hvb : RdV w vb l2) (hs1 : Sm l1) (hs2 : Sm l2) (hl1 : l1.length ≤ 9223372036854775807) (hl2 : l2.length ≤ 9223372036854775807) (hn1 : n1.length ≤ 9223372036854775807) (hn2 : n2.length ≤ 9223372036854775807) (hr : Rd w w.heap.size A cb) (hby : Byt cb) (hcl : cb.length ≤ 9223372036854775807) (h : ¬ AskM n1 l1 n2 l2 cb) :
    KnownM w #[.agg #[.string (sx n1), va], .agg #[.string (sx n2), vb], .slice A cb.length cc] := by
  have hb1 := (Below.refl w.heap.size w).alloc (Nat.le_refl _) (.cells #[.string (sx n1), va] 26)
  have hb2 := hb1.alloc hb1.size (.cells #[.string (sx n2), vb] 26)
  have kA0 := (Blk.new w 26 #[.string (sx n1), va]).alloc (.cells #[.string (sx n2), vb] 26)
  have kB0 := Blk.new (w.alloc (.cells #[.string (sx n1), va] 26)) 26 #[.string (sx n2), vb]
  rw [World.size_alloc] at kB0
  have hzW : ((w.alloc (.cells #[.string (sx n1), va] 26)).alloc (.cells #[.string (sx n2), vb] 26)).heap.size = w.heap.size + 2 := by simp
  generalize hW : (w.alloc (.cells #[.string (sx n1), va] 26)).alloc (.cells #[.string (sx n2), vb] 26) = W at hb2 kA0 kB0 hzW
  have HX := Lib.hid fun W' (hb : Below W.heap.size W W') => And.intro ((kA0.on hb).cell 0) (And.intro ((kA0.on hb).cell 1) (And.intro ((kB0.on hb).cell 0) ((kB0.on hb).cell 1)))
  have HK := Lib.hid fun W => known_any W
  have HB := Lib.hid hb2
  have HZ := Lib.hid hzW
  have HM1 := Lib.hid fun W' (hb : Below W.heap.size W W') => much_any l1 va W' ((hva.on hb2).on hb) hs1 hl1
  have HM2 := Lib.hid fun W' (hb : Below W.heap.size W W') => much_any l2 vb W' ((hvb.on hb2).on hb) hs2 hl2
  have z1 := sx_size n1
  have z2 := sx_size n2
  have hcases : 9000 < n1.length ∨ (n1.length ≤ 9000 ∧ 9000 < n2.length) ∨ (n1.length ≤ 9000 ∧ n2.length ≤ 9000 ∧ muchV l1 = true) ∨ (n1.length ≤ 9000 ∧ n2.length ≤ 9000 ∧ muchV l1 = false ∧ muchV l2 = true) ∨ (n1.length ≤ 9000 ∧ n2.length ≤ 9000 ∧ muchV l1 = false ∧ muchV l2 = false ∧ 20000 < cb.length) := by
    unfold AskM at h
    rcases Nat.lt_or_ge 9000 n1.length with h1 | h1
    · exact .inl h1
    · rcases Nat.lt_or_ge 9000 n2.length with h2 | h2
      · exact .inr (.inl ⟨h1, h2⟩)
      · cases h3 : muchV l1 with
        | true => exact .inr (.inr (.inl ⟨h1, h2, rfl⟩))
        | false =>
          cases h4 : muchV l2 with
          | true => exact .inr (.inr (.inr (.inl ⟨h1, h2, rfl, rfl⟩)))
          | false =>
            rcases Nat.lt_or_ge 20000 cb.length with h5 | h5
            · exact .inr (.inr (.inr (.inr ⟨h1, h2, rfl, rfl, h5⟩)))
            · exact absurd ⟨h1, h2, h3, h4, h5⟩ h
  subst hW
  obtain ⟨Aa, ca, rfl, _, _⟩ := hva
  obtain ⟨Ab, cv, rfl, _, _⟩ := hvb
  clear h hb1 hb2 kA0 kB0 hs1 hs2 hr hby hzW
  generalize muchV l1 = r1 at HM1 hcases
  generalize muchV l2 = r2 at HM2 hcases
  generalize l1.length = na at HM1 HM2 HX HB HZ hl1 ⊢
  generalize l2.length = nb at HM1 HM2 HX HB HZ hl2 ⊢
  generalize n1.length = t1 at z1 hn1 hcases
  generalize n2.length = t2 at z2 hn2 hcases
  generalize cb.length = tc at hcl hcases ⊢
  rcases hcases with hc | ⟨hc1, hc⟩ | ⟨hc1, hc, rfl⟩ | ⟨hc1, hc, rfl, rfl⟩ | ⟨hc1, hc, rfl, rfl, hc3⟩
  · go_enter Try.func6, Try.ntmps6
    go_wp2_with (first
      | (go_at_call 10; (with_reducible refine (HK.out _).mono ?_); rintro e w1 ⟨rfl, hb1'⟩; have HB1 := Lib.hid hb1'; clear hb1'; obtain ⟨a0, a1, b0, b1⟩ := HX.out _ HB1.out; simp only [List.getElem?_toArray, List.getElem?_cons_zero, List.getElem?_cons_succ] at a0 a1 b0 b1))
    go_ret
    exact ⟨rfl, HB.out.trans (HB1.out.mono HB.out.size)⟩
  · go_enter Try.func6, Try.ntmps6
    go_wp2_with (first
      | (go_at_call 10; (with_reducible refine (HK.out _).mono ?_); rintro e w1 ⟨rfl, hb1'⟩; have HB1 := Lib.hid hb1'; clear hb1'; obtain ⟨a0, a1, b0, b1⟩ := HX.out _ HB1.out; simp only [List.getElem?_toArray, List.getElem?_cons_zero, List.getElem?_cons_succ] at a0 a1 b0 b1))
    go_ret
    exact ⟨rfl, HB.out.trans (HB1.out.mono HB.out.size)⟩
  · go_enter Try.func6, Try.ntmps6
    go_wp2_with (first
      | (go_at_call 10; (with_reducible refine (HK.out _).mono ?_); rintro e w1 ⟨rfl, hb1'⟩; have HB1 := Lib.hid hb1'; clear hb1'; obtain ⟨a0, a1, b0, b1⟩ := HX.out _ HB1.out; simp only [List.getElem?_toArray, List.getElem?_cons_zero, List.getElem?_cons_succ] at a0 a1 b0 b1)
      | (go_at_call 9; (with_reducible refine (HM1.out _ HB1.out).mono ?_); clear HM1 a0 a1 b0 b1; rintro e w2 ⟨rfl, hbx⟩; have HB2 := Lib.hid (HB1.out.trans (hbx.mono HB1.out.size)); clear hbx; obtain ⟨a0, a1, b0, b1⟩ := HX.out _ HB2.out; simp only [List.getElem?_toArray, List.getElem?_cons_zero, List.getElem?_cons_succ] at a0 a1 b0 b1))
    go_ret
    exact ⟨rfl, HB.out.trans (HB2.out.mono HB.out.size)⟩
  · go_enter Try.func6, Try.ntmps6
    go_wp2_with (first
      | (go_at_call 10; (with_reducible refine (HK.out _).mono ?_); rintro e w1 ⟨rfl, hb1'⟩; have HB1 := Lib.hid hb1'; clear hb1'; obtain ⟨a0, a1, b0, b1⟩ := HX.out _ HB1.out; simp only [List.getElem?_toArray, List.getElem?_cons_zero, List.getElem?_cons_succ] at a0 a1 b0 b1)
      | (go_at_call 9; (with_reducible refine (HM1.out _ HB1.out).mono ?_); clear HM1 a0 a1 b0 b1; rintro e w2 ⟨rfl, hbx⟩; have HB2 := Lib.hid (HB1.out.trans (hbx.mono HB1.out.size)); clear hbx; obtain ⟨a0, a1, b0, b1⟩ := HX.out _ HB2.out; simp only [List.getElem?_toArray, List.getElem?_cons_zero, List.getElem?_cons_succ] at a0 a1 b0 b1)
      | (go_at_call 9; (with_reducible refine (HM2.out _ HB2.out).mono ?_); clear HM2 a0 a1 b0 b1; rintro e w3 ⟨rfl, hbx⟩; have HB3 := Lib.hid (HB2.out.trans (hbx.mono HB2.out.size)); clear hbx; obtain ⟨a0, a1, b0, b1⟩ := HX.out _ HB3.out; simp only [List.getElem?_toArray, List.getElem?_cons_zero, List.getElem?_cons_succ] at a0 a1 b0 b1))
    go_ret
    exact ⟨rfl, HB.out.trans (HB3.out.mono HB.out.size)⟩
  · go_enter Try.func6, Try.ntmps6
    go_wp2_with (first
      | (go_at_call 10; (with_reducible refine (HK.out _).mono ?_); rintro e w1 ⟨rfl, hb1'⟩; have HB1 := Lib.hid hb1'; clear hb1'; obtain ⟨a0, a1, b0, b1⟩ := HX.out _ HB1.out; simp only [List.getElem?_toArray, List.getElem?_cons_zero, List.getElem?_cons_succ] at a0 a1 b0 b1)
      | (go_at_call 9; (with_reducible refine (HM1.out _ HB1.out).mono ?_); clear HM1 a0 a1 b0 b1; rintro e w2 ⟨rfl, hbx⟩; have HB2 := Lib.hid (HB1.out.trans (hbx.mono HB1.out.size)); clear hbx; obtain ⟨a0, a1, b0, b1⟩ := HX.out _ HB2.out; simp only [List.getElem?_toArray, List.getElem?_cons_zero, List.getElem?_cons_succ] at a0 a1 b0 b1)
      | (go_at_call 9; (with_reducible refine (HM2.out _ HB2.out).mono ?_); clear HM2 a0 a1 b0 b1; rintro e w3 ⟨rfl, hbx⟩; have HB3 := Lib.hid (HB2.out.trans (hbx.mono HB2.out.size)); clear hbx; obtain ⟨a0, a1, b0, b1⟩ := HX.out _ HB3.out; simp only [List.getElem?_toArray, List.getElem?_cons_zero, List.getElem?_cons_succ] at a0 a1 b0 b1))
    go_ret
    exact ⟨rfl, HB.out.trans (HB3.out.mono HB.out.size)⟩
theorem Row.rdX {w : World} {base n c : Nat} {A : Option Addr} {l : List Int} (h : Row w base (.slice A n c) l) : Rd w w.heap.size A l := by
  obtain ⟨A', c', e, _, hr⟩ := h.rd
  injection e with e1 e2 e3
  subst e1
  exact hr
theorem bytes_ex (name : List UInt8) (l : List At) (v : Value) (w : World) (hv : RdV w v l) (h1 : name.length ≤ 9223372036854775807) (hs : Sm l) (hl : l.length ≤ 1000000) :
    Calls Try.prog 19 #[.agg #[.string (sx name), v]] w fun e w' => ∃ A n c code, e = .returned (.tuple #[.slice A n c, .int .i64 code]) ∧ Below w.heap.size w w' := by
  refine (bytesE_any name l v w hv h1 hs hl).mono fun e w' h => ?_
  rcases h with ⟨_, v', he, hr, hb⟩ | ⟨_, he, hb⟩
  · obtain ⟨A, c, e1, _, _⟩ := hr.rd
    subst e1
    exact ⟨A, _, c, 0, he, hb⟩
  · exact ⟨none, 0, 0, 2, he, hb⟩
end Go.Proofs.Ytlhbnmaalhainaa.Tlv
