/- The law: which logs are beginnings of which. -/
import Derived.Test.YtniaijgejljjbaaGreatY53
import Derived.Test.YtniaijgejljjbaaGreatRows
import Derived.WalkKit
import Derived.ProofKit
import Derived.OpenShut
import Derived.ShutString
import Derived.ChangeOld
import Derived.Below
namespace Go.Proofs.YtniaijgejljjbaaGreat.Tlv
open Go.RowKit
set_option maxRecDepth 100000
set_option linter.unusedVariables false
set_option linter.unusedSimpArgs false
theorem okWide_spot {P : Program} {w : World} {r : Reach} {base : Nat} {t e : TypeId} {A : Option Addr} {n c : Nat} (ht : P.underlying t = some (.slice e)) (h : Value.okWide P w r base t (.slice A n c)) : ∀ a, A = some a → a.spot = none := fun a ea => by
 subst ea
 simp only [Value.okWide, ht, Cell.okWide, Cell.ok] at h
 exact h.2.2.2.1
theorem lawBegins (B : Nat) (v vb u : Value) (Q : List Rq) (L Lb : List Ac) (w : World) (hB : B < 18446744073709551616) (hQ : RqsAt w u Q) (hs : ∀ A n c, u = .slice A n c → ∀ a, A = some a → a.spot = none) (hL : AcsAt w v L) (hLb : AcsAt w vb Lb) : Calls Tryz.prog 3 #[.int .u64 B, u, v, vb] w fun e w' => e = .returned (.bool true) ∧ Below w.heap.size w w' := by
 obtain ⟨D, cD, rfl, hD, hrD, hiD⟩ := hQ
 have hsp := hs _ _ _ rfl
 have hQ : RqsAt w (.slice D Q.length cD) Q := ⟨D, cD, rfl, hD, hrD, hiD⟩
 by_cases h1 : ∃ m ∈ means Q, mayO m.o = false
 · refine law_err2 B v vb D cD Q L Lb w hQ hL hLb _ rfl (fun hs w1 hb => (of_law hs hrD hiD hb hB).mono fun e w' ⟨hb2, ho⟩ => ?_) (fun hs w1 hb => (rof_law hs hD hsp hrD hiD hb hB).mono fun e w' ⟨hb2, ho⟩ => ?_)
   · rcases ho with ⟨_, he⟩ | ⟨hg, _⟩ | ⟨hg, _⟩ | ⟨hg, _⟩
     · exact ⟨he, hb2⟩
     all_goals exact (not_good h1 hg).elim
   · rcases ho with ⟨_, he⟩ | ⟨hg, _⟩ | ⟨hg, _⟩ | ⟨hg, _⟩
     · exact ⟨he, hb2⟩
     all_goals exact (not_good h1 hg).elim
 by_cases h2 : 4611686018427387904 < B
 · refine law_err2 B v vb D cD Q L Lb w hQ hL hLb _ rfl (fun hs w1 hb => (of_law hs hrD hiD hb hB).mono fun e w' ⟨hb2, ho⟩ => ?_) (fun hs w1 hb => (rof_law hs hD hsp hrD hiD hb hB).mono fun e w' ⟨hb2, ho⟩ => ?_)
   · rcases ho with ⟨hb, _⟩ | ⟨hg, _, he⟩ | ⟨hg, h3, _⟩ | ⟨hg, h3, _⟩
     · exact (h1 hb).elim
     · exact ⟨he, hb2⟩
     all_goals omega
   · rcases ho with ⟨hb, _⟩ | ⟨hg, _, he⟩ | ⟨hg, h3, _⟩ | ⟨hg, h3, _⟩
     · exact (h1 hb).elim
     · exact ⟨he, hb2⟩
     all_goals omega
 by_cases h3 : 2097152 < sumM (means Q)
 · refine law_err10 B v vb D cD Q L Lb w hQ hL hLb _ rfl (fun hs w1 hb => (of_law hs hrD hiD hb hB).mono fun e w' ⟨hb2, ho⟩ => ?_) (fun hs w1 hb => (rof_law hs hD hsp hrD hiD hb hB).mono fun e w' ⟨hb2, ho⟩ => ?_)
   · rcases ho with ⟨hb, _⟩ | ⟨hg, h4, he⟩ | ⟨hg, _, _, he⟩ | ⟨hg, _, h4, _⟩
     · exact (h1 hb).elim
     · omega
     · exact ⟨he, hb2⟩
     · omega
   · rcases ho with ⟨hb, _⟩ | ⟨hg, h4, he⟩ | ⟨hg, _, _, he⟩ | ⟨hg, _, h4, _⟩
     · exact (h1 hb).elim
     · omega
     · exact ⟨he, hb2⟩
     · omega
 · refine law_ok B v vb D cD Q L Lb w hQ hL hLb (by omega) _ rfl (fun hs w1 hb => (of_law hs hrD hiD hb hB).mono fun e w' ⟨hb2, ho⟩ => ?_) (fun hs w1 hb => (rof_law hs hD hsp hrD hiD hb hB).mono fun e w' ⟨hb2, ho⟩ => ?_)
   · rcases ho with ⟨hb, _⟩ | ⟨hg, h4, he⟩ | ⟨hg, _, h4, _⟩ | ⟨hg, _, _, g, P, he, hm, hl⟩
     · exact (h1 hb).elim
     · omega
     · omega
     · exact ⟨g, P, he, hm, hl, hb2⟩
   · rcases ho with ⟨hb, _⟩ | ⟨hg, h4, he⟩ | ⟨hg, _, h4, _⟩ | ⟨hg, _, _, r, he, hl⟩
     · exact (h1 hb).elim
     · omega
     · omega
     · exact ⟨r, he, hl, hb2⟩
end Go.Proofs.YtniaijgejljjbaaGreat.Tlv
namespace Go.Proofs.YtniaijgejljjbaaGreat.logBegins
open Go.ChangeShapes Go.WideShapes Go.ChangeAt Go.RowKit
open Go.ChangeMaps (open_string shut_string)
set_option linter.unusedVariables false
theorem own : ownKnob Tryz.prog.godebug = none := by kernel_rfl
theorem laidOut : laidOutB Tryz.prog = true := by kernel_rfl
set_option maxRecDepth 100000 in
theorem lifted (os : Os) (started : os.Started) (H : Type) (enc : TypeId × Value → H) :
   ReturnsInHanded {} Tryz.checked os 3 .any (Rows.logBeginsSpec.pre6 enc Tryz.prog Tryz.f3 Rows.logBeginsRow.domain false) (Rows.logBeginsSpec.post enc Tryz.prog Tryz.f3 false true false false) := by
 refine returnsInHanded_of_change (C := Tryz.checked) own started (by kernel_rfl) Tryz.func3
   (ChangeSpec.witness6 (enc := enc) (C := Tryz.checked) false ⟨#[], #[.int .u64 0, .slice none 0 0, .slice none 0 0, .slice none 0 0], []⟩ 8 (by kernel_rfl) (by kernel_rfl) (by kernel_rfl) (by kernel_rfl)) ?_
 intro W base args ds gs before hval0 hW hcnd _
 have hval : ∀ (j : Nat) t v, Tryz.f3.params[j]? = some t → args[j]? = some v → Value.okWide Tryz.prog W .any base t v := hval0
 have hW' := hW
 obtain ⟨p, q, hA0, hV, rfl, hfz, hnd⟩ := hW
 have hA : DataW.TrodAll enc Tryz.prog W 0 (fun _ => true) true Tryz.f3.params.toList args.toList ds p := hA0
 rw [Tryz.params3] at hA hval
 obtain ⟨v0, vs0, d0, ds0, p0, q0, hargs, rfl, rfl, h0, r0⟩ := trodAll_cons hA
 obtain ⟨v1, vs1, d1, ds1, p1, q1, rfl, rfl, rfl, h1, r1⟩ := trodAll_cons r0
 obtain ⟨v2, vs2, d2, ds2, p2, q2, rfl, rfl, rfl, h2, r2⟩ := trodAll_cons r1
 obtain ⟨v3, vs3, d3, ds3, p3, q3, rfl, rfl, rfl, h3, r3⟩ := trodAll_cons r2
 obtain ⟨rfl, rfl, rfl⟩ := trodAll_nil r3
 obtain rfl : args = #[v0, v1, v2, v3] := by cases args; simp_all
 obtain ⟨rfl, rfl⟩ := trodVars_none hV
 have k1 := h1
 have lt1 : ∀ x ∈ p1, x.block < W.heap.size := by obtain ⟨m, hm⟩ := k1; exact DataW.trod_lt m _ _ _ hm
 have k2 := h2
 have lt2 : ∀ x ∈ p2, x.block < W.heap.size := by obtain ⟨m, hm⟩ := k2; exact DataW.trod_lt m _ _ _ hm
 have k3 := h3
 have lt3 : ∀ x ∈ p3, x.block < W.heap.size := by obtain ⟨m, hm⟩ := k3; exact DataW.trod_lt m _ _ _ hm
 obtain ⟨a0, rfl, rfl, rfl, w0⟩ := open_int Tryz.underlying22 (hval 0 22 v0 rfl rfl) h0
 have hsp1 : ∀ A n c, v1 = .slice A n c → ∀ a, A = some a → a.spot = none := fun A n c e => Tlv.okWide_spot Tryz.underlying23 (by rw [← e]; exact hval 1 23 v1 rfl rfl)
 obtain ⟨A1, n1, c1, rfl⟩ := okWide_slice Tryz.underlying23 (hval 1 23 v1 rfl rfl)
 obtain ⟨A2, n2, c2, rfl⟩ := okWide_slice Tryz.underlying24 (hval 2 24 v2 rfl rfl)
 obtain ⟨A3, n3, c3, rfl⟩ := okWide_slice Tryz.underlying24 (hval 3 24 v3 rfl rfl)
 obtain ⟨f1, hf1⟩ := h1
 obtain ⟨f2, hf2⟩ := h2
 obtain ⟨f3, hf3⟩ := h3
 obtain ⟨u1, Q, e1, qa⟩ := Tlv.open_rqsC hf1
 obtain ⟨u2, L, e2, la⟩ := Tlv.open_acsC hf2
 obtain ⟨u3, Lb, e3, lb⟩ := Tlv.open_acsC hf3
 simp [Value.cells] at e1 e2 e3
 subst e1 e2 e3
 clear hA0 hval0
 simp only [List.nil_append] at hW'
 have hw := Tlv.wfU w0
 obtain ⟨B, rfl⟩ : ∃ B : Nat, a0 = B := ⟨a0.toNat, by omega⟩
 refine (show Calls Tryz.prog 3 _ W fun e w' => e = .returned (.bool true) ∧ Below W.heap.size W w' from by exact Tlv.lawBegins B _ _ _ Q L Lb W (by omega) qa hsp1 la lb).mono fun e W' ⟨he, bel⟩ => ?_
 subst he
 exact ⟨_, rfl, _, _, _, [], _, [], hW', trodAll_mk1 (shut_bool Tryz.underlying4 _), (trodAll_cons_mk (shut_int Tryz.underlying22 w0) (trodAll_cons_mk (Below.trod laidOut (by kernel_rfl) (of_decide_eq_true (by kernel_rfl)) k1 bel lt1) (trodAll_cons_mk (Below.trod laidOut (by kernel_rfl) (of_decide_eq_true (by kernel_rfl)) k2 bel lt2) (trodAll_cons_mk (Below.trod laidOut (by kernel_rfl) (of_decide_eq_true (by kernel_rfl)) k3 bel lt3) trodAll_mk0)))), rfl, bel.frame _, fun h => by cases h⟩
theorem over : Rows.logBeginsRow.holds Tryz.pinned (OpenSpec.ofChange Rows.logBeginsSpec) :=
 OpenClaim.holds_of_wide 3 Tryz.f3 rfl rfl rfl rfl rfl rfl rfl ⟨rfl, rfl, rfl, rfl, rfl⟩ rfl rfl rfl rfl rfl (by kernel_rfl) Tryz.func3 (by kernel_rfl)
   (of_decide_eq_true (by kernel_rfl)) (by unfold Func.isWrapper; first | (rw [if_pos (by decide +kernel)]; kernel_rfl) | (rw [if_neg (by decide +kernel)]; exact ⟨rfl, rfl⟩))
   (fun os started H enc _ => lifted os started H enc)
theorem proved : Rows.LogBeginsSaid := over
#print axioms proved
end Go.Proofs.YtniaijgejljjbaaGreat.logBegins
