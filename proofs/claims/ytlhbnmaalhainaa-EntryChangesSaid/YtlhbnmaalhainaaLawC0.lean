/- The law on changes. -/
import Derived.Test.YtlhbnmaalhainaaEnt
namespace Go.Proofs.Ytlhbnmaalhainaa
open Go.RowKit Go.Lib Go.Sort
set_option linter.unusedVariables false
set_option linter.unusedSimpArgs false

/-- The law is about these alone. -/
def AskC (l by' : List At) (a : At) : Prop := muchV l = false ∧ muchV by' = false ∧ l.length ≤ 40 ∧ mayL l = true ∧ a.v.length ≤ 9000 ∧ a.t.length ≤ 100
abbrev Known (w : World) (f : FuncId) (args : Array Value) : Prop := Calls Try.prog f args w fun e w' => e = .returned (.bool true) ∧ Below w.heap.size w w'
set_option maxRecDepth 100000 in
set_option maxHeartbeats 8000000 in
theorem changes_out (l by' : List At) (a : At) (v vb : Value) (w : World) (hv : RdV w v l) (hvb : RdV w vb by') (hs : Sm l) (hsb : Sm by') (hl : l.length ≤ 9223372036854775807) (hlb : by'.length ≤ 9223372036854775807) (ht : a.t.length ≤ 9223372036854775807) (hx : a.v.length ≤ 9223372036854775807) (h : ¬ AskC l by' a) :
    Known w 8 #[v, vb, a.val] := by
  have hb0 := (Below.refl w.heap.size w).alloc (Nat.le_refl _) (.cells #[.string (sx a.t), .string (sx a.v)] 29)
  have HX := Lib.hid (Blk.new w 29 #[.string (sx a.t), .string (sx a.v)])
  have HZ := Lib.hid hb0.size
  generalize hW : w.alloc (.cells #[.string (sx a.t), .string (sx a.v)] 29) = W at hb0 HX HZ
  have HM1 := Lib.hid (much_any l v W (hv.on hb0) hs hl)
  have HM2 := Lib.hid fun W' (hb : Below W.heap.size W W') => much_any by' vb W' ((hvb.on hb0).on hb) hsb hlb
  have HM3 := Lib.hid fun (h1 : l.length ≤ 40) W' (hb : Below W.heap.size W W') => refMayAttrs_any l v W' ((hv.on hb0).on hb) hs (by omega)
  have HK := Lib.hid fun W => known_any W
  have HB := Lib.hid hb0
  subst hW
  have z1 := sx_size a.t
  have z2 := sx_size a.v
  have hcases : muchV l = true ∨ (muchV l = false ∧ muchV by' = true) ∨ (muchV l = false ∧ muchV by' = false ∧ 40 < l.length) ∨ (muchV l = false ∧ muchV by' = false ∧ l.length ≤ 40 ∧ mayL l = false) ∨ (muchV l = false ∧ muchV by' = false ∧ l.length ≤ 40 ∧ mayL l = true ∧ 9000 < a.v.length) ∨ (muchV l = false ∧ muchV by' = false ∧ l.length ≤ 40 ∧ mayL l = true ∧ a.v.length ≤ 9000 ∧ 100 < a.t.length) := by
    unfold AskC at h
    cases h1 : muchV l <;> cases h2 : muchV by' <;> simp [h1, h2] at h ⊢
    rcases Nat.lt_or_ge 40 l.length with h3 | h3
    · exact .inl h3
    · cases h4 : mayL l <;> simp [h4] at h ⊢
      · omega
      · rcases Nat.lt_or_ge 9000 a.v.length with h5 | h5
        · omega
        · have := h h3 h5; omega
  obtain ⟨A, c, rfl, _, _⟩ := hv
  obtain ⟨B, d, rfl, _, _⟩ := hvb
  clear h hb0 hs hsb
  generalize a.t.length = ta at z1 hcases ht
  generalize a.v.length = tv at z2 hcases hx
  generalize muchV l = r1 at HM1 hcases
  generalize muchV by' = r2 at HM2 hcases
  generalize mayL l = r3 at HM3 hcases
  generalize l.length = n at HM1 HM2 HM3 HB HX HZ hcases hl ⊢
  generalize by'.length = m at HM1 HM2 HM3 HB HX HZ hlb ⊢
  rcases hcases with rfl | ⟨rfl, rfl⟩ | ⟨rfl, rfl, hc⟩ | ⟨rfl, rfl, hc, rfl⟩ | ⟨rfl, rfl, hc, rfl, hc2⟩ | ⟨rfl, rfl, hc, rfl, hc2, hc3⟩
  · go_enter Try.func8, Try.ntmps8
    go_wp2_with (first
      | (go_at_call 9; (with_reducible refine HM1.out.mono ?_); rintro e w1 ⟨rfl, hb1⟩; have HB1 := Lib.hid hb1; clear hb1 HM1)
      | (go_at_call 10; (with_reducible refine (HK.out _).mono ?_); rintro e w9 ⟨rfl, hb9⟩; have HB9 := Lib.hid (HB1.out.trans (hb9.mono HB1.out.size))))
    go_ret
    exact ⟨rfl, HB.out.trans (HB9.out.mono HZ.out)⟩
  · go_enter Try.func8, Try.ntmps8
    go_wp2_with (first
      | (go_at_call 9; (with_reducible refine HM1.out.mono ?_); rintro e w1 ⟨rfl, hb1⟩; have HB1 := Lib.hid hb1; clear hb1 HM1)
      | (go_at_call 9; (with_reducible refine (HM2.out _ HB1.out).mono ?_); rintro e w2 ⟨rfl, hb2⟩; have HB2 := Lib.hid (HB1.out.trans (hb2.mono HB1.out.size)); clear hb2 HM2)
      | (go_at_call 10; (with_reducible refine (HK.out _).mono ?_); rintro e w9 ⟨rfl, hb9⟩; have HB9 := Lib.hid (HB2.out.trans (hb9.mono HB2.out.size))))
    go_ret
    exact ⟨rfl, HB.out.trans (HB9.out.mono HZ.out)⟩
  · go_enter Try.func8, Try.ntmps8
    go_wp2_with (first
      | (go_at_call 9; (with_reducible refine HM1.out.mono ?_); rintro e w1 ⟨rfl, hb1⟩; have HB1 := Lib.hid hb1; clear hb1 HM1)
      | (go_at_call 9; (with_reducible refine (HM2.out _ HB1.out).mono ?_); rintro e w2 ⟨rfl, hb2⟩; have HB2 := Lib.hid (HB1.out.trans (hb2.mono HB1.out.size)); clear hb2 HM2)
      | (go_at_call 10; (with_reducible refine (HK.out _).mono ?_); rintro e w9 ⟨rfl, hb9⟩; have HB9 := Lib.hid (HB2.out.trans (hb9.mono HB2.out.size))))
    go_ret
    exact ⟨rfl, HB.out.trans (HB9.out.mono HZ.out)⟩
  · go_enter Try.func8, Try.ntmps8
    go_wp2_with (first
      | (go_at_call 9; (with_reducible refine HM1.out.mono ?_); rintro e w1 ⟨rfl, hb1⟩; have HB1 := Lib.hid hb1; clear hb1 HM1)
      | (go_at_call 9; (with_reducible refine (HM2.out _ HB1.out).mono ?_); rintro e w2 ⟨rfl, hb2⟩; have HB2 := Lib.hid (HB1.out.trans (hb2.mono HB1.out.size)); clear hb2 HM2)
      | (go_at_call 16; (with_reducible refine (HM3.out hc _ HB2.out).mono ?_); rintro e w3 ⟨rfl, hb3⟩; have HB3 := Lib.hid (HB2.out.trans (hb3.mono HB2.out.size)); clear hb3 HM3)
      | (go_at_call 10; (with_reducible refine (HK.out _).mono ?_); rintro e w9 ⟨rfl, hb9⟩; have HB9 := Lib.hid (HB3.out.trans (hb9.mono HB3.out.size))))
    go_ret
    exact ⟨rfl, HB.out.trans (HB9.out.mono HZ.out)⟩
  · go_enter Try.func8, Try.ntmps8
    go_wp2_with (first
      | (go_at_call 9; (with_reducible refine HM1.out.mono ?_); rintro e w1 ⟨rfl, hb1⟩; have HB1 := Lib.hid hb1; clear hb1 HM1)
      | (go_at_call 9; (with_reducible refine (HM2.out _ HB1.out).mono ?_); rintro e w2 ⟨rfl, hb2⟩; have HB2 := Lib.hid (HB1.out.trans (hb2.mono HB1.out.size)); clear hb2 HM2)
      | (go_at_call 16; (with_reducible refine (HM3.out hc _ HB2.out).mono ?_); rintro e w3 ⟨rfl, hb3⟩; have HB3 := Lib.hid (HB2.out.trans (hb3.mono HB2.out.size)); clear hb3 HM3; have c0 := (HX.out.on HB3.out).cell 0; have c1 := (HX.out.on HB3.out).cell 1)
      | (go_at_call 10; (with_reducible refine (HK.out _).mono ?_); rintro e w9 ⟨rfl, hb9⟩; have HB9 := Lib.hid (HB3.out.trans (hb9.mono HB3.out.size))))
    go_ret
    exact ⟨rfl, HB.out.trans (HB9.out.mono HZ.out)⟩
  · go_enter Try.func8, Try.ntmps8
    go_wp2_with (first
      | (go_at_call 9; (with_reducible refine HM1.out.mono ?_); rintro e w1 ⟨rfl, hb1⟩; have HB1 := Lib.hid hb1; clear hb1 HM1)
      | (go_at_call 9; (with_reducible refine (HM2.out _ HB1.out).mono ?_); rintro e w2 ⟨rfl, hb2⟩; have HB2 := Lib.hid (HB1.out.trans (hb2.mono HB1.out.size)); clear hb2 HM2)
      | (go_at_call 16; (with_reducible refine (HM3.out hc _ HB2.out).mono ?_); rintro e w3 ⟨rfl, hb3⟩; have HB3 := Lib.hid (HB2.out.trans (hb3.mono HB2.out.size)); clear hb3 HM3; have c0 := (HX.out.on HB3.out).cell 0; have c1 := (HX.out.on HB3.out).cell 1)
      | (go_at_call 10; (with_reducible refine (HK.out _).mono ?_); rintro e w9 ⟨rfl, hb9⟩; have HB9 := Lib.hid (HB3.out.trans (hb9.mono HB3.out.size))))
    go_ret
    exact ⟨rfl, HB.out.trans (HB9.out.mono HZ.out)⟩
end Go.Proofs.Ytlhbnmaalhainaa
