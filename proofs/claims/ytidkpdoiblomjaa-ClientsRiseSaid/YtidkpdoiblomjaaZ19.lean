/- Attributes sorted, and changed by others, by the document. -/
import Derived.Test.YtidkpdoiblomjaaZ18
namespace Go.Proofs.Ytidkpdoiblomjaa
open Go.RowKit Go.Lib Go.Sort
set_option linter.unusedVariables false
set_option linter.unusedSimpArgs false
theorem take_snoc (l : List At) (k : Nat) (h : k < l.length) : l.take (k + 1) = l.take k ++ [l.getD k default] := by
 rw [List.take_add_one, List.getElem?_eq_getElem h, List.getD_eq_getElem?_getD, List.getElem?_eq_getElem h]
 rfl
set_option maxHeartbeats 2000000 in
theorem refSameE_any (n1 n2 : List UInt8) (a b : List At) (va vb : Value) (w : World) (hva : RdV w va a) (hvb : RdV w vb b) (ha : a.length ≤ 9223372036854775807) (hb : b.length ≤ 9223372036854775807) :
   Calls Try.prog 38 #[.agg #[.string (sx n1), va], .agg #[.string (sx n2), vb]] w fun e w' => e = .returned (.bool (decide (n1 = n2) && decide (a = b))) ∧ Below w.heap.size w w' := by
 have hb0 := (Below.refl w.heap.size w).alloc (Nat.le_refl _) (.cells #[.string (sx n1), va] 47)
 have hb1 := hb0.alloc (show w.heap.size ≤ (w.alloc (.cells #[.string (sx n1), va] 47)).heap.size by simp) (.cells #[.string (sx n2), vb] 47)
 have HC := Lib.hid (refSame_any a b va vb _ (hva.on hb1) (hvb.on hb1) ha hb)
 have HB := Lib.hid hb1
 have HZ := Lib.hid hb1.size
 have e1 := sx_beq n1 n2
 obtain ⟨A, c, rfl, _, _⟩ := hva
 obtain ⟨B, d, rfl, _, _⟩ := hvb
 clear hb0 hb1 ha hb
 generalize a.length = na at HC HB HZ ⊢
 generalize b.length = nb at HC HB HZ ⊢
 generalize decide (a = b) = r2 at HC ⊢
 generalize decide (n1 = n2) = r1 at e1 ⊢
 cases r1 with
 | false =>
   go_enter Try.func38, Try.ntmps38
   go_wp2
   go_ret
   exact ⟨rfl, HB.out⟩
 | true =>
   go_enter Try.func38, Try.ntmps38
   go_wp2_with (go_at_call 51; (with_reducible refine HC.out.mono ?_); rintro e w' ⟨rfl, hb2⟩)
   go_ret
   exact ⟨by simp, HB.out.trans (hb2.mono HZ.out)⟩
set_option maxHeartbeats 2000000 in
theorem sameE_any (n1 n2 : List UInt8) (a b : List At) (va vb : Value) (w : World) (hva : RdV w va a) (hvb : RdV w vb b) (ha : a.length ≤ 9223372036854775807) (hb : b.length ≤ 9223372036854775807) :
   Calls Try.prog 44 #[.agg #[.string (sx n1), va], .agg #[.string (sx n2), vb]] w fun e w' => e = .returned (.bool (decide (n1 = n2) && decide (a = b))) ∧ Below w.heap.size w w' := by
 have hb0 := (Below.refl w.heap.size w).alloc (Nat.le_refl _) (.cells #[.string (sx n1), va] 47)
 have hb1 := hb0.alloc (show w.heap.size ≤ (w.alloc (.cells #[.string (sx n1), va] 47)).heap.size by simp) (.cells #[.string (sx n2), vb] 47)
 have HC := Lib.hid (equal_any a b va vb _ (hva.on hb1) (hvb.on hb1) ha hb)
 have HB := Lib.hid hb1
 have HZ := Lib.hid hb1.size
 have e1 := sx_beq n1 n2
 obtain ⟨A, c, rfl, _, _⟩ := hva
 obtain ⟨B, d, rfl, _, _⟩ := hvb
 clear hb0 hb1 ha hb
 generalize a.length = na at HC HB HZ ⊢
 generalize b.length = nb at HC HB HZ ⊢
 generalize decide (a = b) = r2 at HC ⊢
 generalize decide (n1 = n2) = r1 at e1 ⊢
 cases r1 with
 | false =>
   go_enter Try.func44, Try.ntmps44
   go_wp2
   go_ret
   exact ⟨rfl, HB.out⟩
 | true =>
   go_enter Try.func44, Try.ntmps44
   go_wp2_with (go_at_call 61; (with_reducible refine HC.out.mono ?_); rintro e w' ⟨rfl, hb2⟩)
   go_ret
   exact ⟨by simp, HB.out.trans (hb2.mono HZ.out)⟩
theorem row_far {w : World} {base b i : Nat} {v : Value} {l : List At} (h : RowK kA w base v l) (hb : b < base) (u : Value) : RowK kA (w.setCell ⟨b, i, none⟩ u) base v l := by
 refine World.ownsRow.kept h (row := some b) ⟨rfl, rfl, rfl, by simp [World.setCell], fun k _ hk => Below.heap_setCell w ⟨b, i, none⟩ u k (fun e => hk (by rw [e]))⟩ ?_
 cases hv : v.ownBlock with
 | none => exact .inl rfl
 | some k =>
   refine .inr fun e => ?_
   injection e with e
   have := (World.ownsRow.lt h k hv).1
   omega
set_option maxRecDepth 100000 in
set_option maxHeartbeats 4000000 in
theorem copy_any (name : List UInt8) (l : List At) (v : Value) (w : World) (hv : RdV w v l) (hl : l.length ≤ 1000000) :
   Calls Try.prog 41 #[.agg #[.string (sx name), v]] w fun e w' => ∃ v', e = .returned (.agg #[.string (sx name), v']) ∧ RowK kA w' w.heap.size v' l ∧ Below w.heap.size w w' := by
 have hb1 := (Below.refl w.heap.size w).alloc (Nat.le_refl _) (.cells #[.string (sx name), v] 47)
 have hb2 := hb1.alloc hb1.size (.cells #[.string ⟨#[]⟩, .slice none 0 0] 47)
 have k0 := (Blk.new w 47 #[.string (sx name), v]).alloc (.cells #[.string ⟨#[]⟩, .slice none 0 0] 47)
 have k1 := Blk.new (w.alloc (.cells #[.string (sx name), v] 47)) 47 #[.string ⟨#[]⟩, .slice none 0 0]
 rw [World.size_alloc] at k1
 generalize hW : (w.alloc (.cells #[.string (sx name), v] 47)).alloc (.cells #[.string ⟨#[]⟩, .slice none 0 0] 47) = W at hb2 k0 k1
 have HC : Hid (∀ W', Below W.heap.size W W' → Calls Try.prog 60 #[v] W' fun e w' => ∃ v', e = .returned v' ∧ RowK kA w' W.heap.size v' l ∧ Below W.heap.size W w') := Lib.hid fun W' hb =>
   (clone_any v l W' ((hv.on hb2).on hb) hl).mono fun e w' ⟨v', h1, h2, h3⟩ => ⟨v', h1, h2.low hb.size, hb.trans (h3.mono hb.size)⟩
 have HK := Lib.hid (And.intro k0 (And.intro k1 hb2))
 have hsz : W.heap.size = w.heap.size + 2 := by rw [← hW]; simp
 have HSZ := Lib.hid hsz
 obtain ⟨A, c, rfl, _, _⟩ := hv
 clear hb1 hb2 hl
 generalize hn : l.length = n at HC HK k0 k1 hsz HSZ hW ⊢
 subst hW
 go_enter Try.func41, Try.ntmps41
 go_wp2_with fail
 generalize hW : (w.alloc (.cells #[.string (sx name), .slice A n c] 47)).alloc (.cells #[.string ⟨#[]⟩, .slice none 0 0] 47) = W at HC HK k0 k1 hsz HSZ ⊢
 clear hW
 have HS : Hid (∀ W', Below W.heap.size W W' → Below W.heap.size W W' ∧ W'.cell? ⟨w.heap.size, 0, none⟩ = some (.string (sx name)) ∧ W'.cell? ⟨w.heap.size, 1, none⟩ = some (.slice A n c) ∧ W'.cell? ⟨w.heap.size + 1, 0, none⟩ = some (.string ⟨#[]⟩) ∧ W'.cell? ⟨w.heap.size + 1, 1, none⟩ = some (.slice none 0 0) ∧ W'.frozen? ⟨w.heap.size + 1, 0, none⟩ = false ∧ W'.frozen? ⟨w.heap.size + 1, 1, none⟩ = false) :=
   Lib.hid fun W' h => ⟨h, (HK.out.1.on h).cell 0, (HK.out.1.on h).cell 1, (HK.out.2.1.on h).cell 0, (HK.out.2.1.on h).cell 1, (HK.out.2.1.on h).frozen 0, (HK.out.2.1.on h).frozen 1⟩
 obtain ⟨hq0, hq1, hq2, hq3, hq4, hq5, hq6⟩ := HS.out W (Below.refl _ _)
 clear k0 k1 hsz
 have hwd : Below W.heap.size W W.drew := below_drew (Below.refl _ _)
 obtain ⟨hr0, hr1, hr2, hr3, hr4, hr5, hr6⟩ := HS.out W.drew hwd
 go_region_with (first
   | (go_at_call 60; (with_reducible refine (HC.out _ hwd).mono ?_); rintro e w2 ⟨v2, rfl, hrow2, hb2⟩; obtain ⟨A2, c2, e2, _, _⟩ := hrow2.rd0; subst e2; obtain ⟨hs0, hs1, hs2, hs3, hs4, hs5, hs6⟩ := HS.out _ hb2))
 all_goals
   have hkb := ((HK.out.2.1.on hb2).set_ 0 (.string (sx name))).set_ 1 (.slice A2 n c2)
   have t0 := hkb.cell 0
   have t1 := hkb.cell 1
   have hrw := RowK.low (row_far (i := 1) (row_far (i := 0) hrow2 (b := w.heap.size + 1) (by have := HSZ.out; omega) (.string (sx name))) (b := w.heap.size + 1) (by have := HSZ.out; omega) (.slice A2 n c2)) (show w.heap.size ≤ W.heap.size by have := HSZ.out; omega)
   have hbe := ((HK.out.2.2.trans (hb2.mono HK.out.2.2.size)).setCell (p := ⟨w.heap.size + 1, 0, none⟩) (show w.heap.size ≤ w.heap.size + 1 by omega) (.string (sx name))).setCell (p := ⟨w.heap.size + 1, 1, none⟩) (show w.heap.size ≤ w.heap.size + 1 by omega) (.slice A2 n c2)
   have HE := Lib.hid (And.intro hrw hbe)
   clear hkb hrw hbe
   generalize (w2.setCell { block := w.heap.size + 1, off := 0 } (Value.string (sx name))).setCell { block := w.heap.size + 1, off := 1 } (Value.slice A2 n c2) = w3 at t0 t1 HE ⊢
   go_wp2
   refine bodyPost_ret (v := .agg #[.string (sx name), .slice A2 n c2]) ?_ rfl ⟨_, rfl, by rw [← hn]; exact HE.out.1, HE.out.2⟩
   simp at t0 t1
   simp [results, Try.f41, go_sem, t0, t1]
end Go.Proofs.Ytidkpdoiblomjaa
