/- The law on operations: its walks. -/
import Derived.Test.YtcjiofhjognklaaGreatW52
import Derived.Test.YtcjiofhjognklaaGreatW53
import Derived.Test.YtcjiofhjognklaaGreatW51
import Derived.Test.YtcjiofhjognklaaGreatRows
import Derived.WalkKit
import Derived.ProofKit
import Derived.OpenShut
import Derived.ShutString
import Derived.ChangeOld
import Derived.Below

namespace Go.Proofs.YtcjiofhjognklaaGreat.Tlv
open Go.RowKit Go.Lib Go.Sort
set_option maxRecDepth 100000
set_option linter.unusedVariables false
set_option linter.unusedSimpArgs false

theorem lawOps_any (o p : Opn) (va vp vc xa xp xc : Value) (A : Option Addr) (c : Nat) (l : List Int) (w : World) (ho : OpAt w o va vp vc) (hp : OpAt w p xa xp xc) (hlo : Lim0 o) (hlp : Lim0 p)
    (hr : Rd w w.heap.size A l) (hby : Byt l) (hn : l.length ≤ 9223372036854775807) (hc : l.length ≤ c) (hcm : c ≤ 9223372036854775807) :
    Calls Tryz.prog 3 #[opVal o va vp vc, opVal p xa xp xc, .slice A l.length c] w fun e w' => e = .returned (.bool true) ∧ Below w.heap.size w w' := by
  by_cases h : bigO o = false ∧ bigO p = false ∧ l.length ≤ 20000
  · obtain ⟨h1, h2, h3⟩ := h
    by_cases hy : ∃ ob, mayO ob = true ∧ l = opB ob
    · obtain ⟨ob, h4, h5⟩ := hy
      cases hm : mayO o with
      | true => exact lawOps_my o p ob va vp vc xa xp xc A c l w ho hp (hlo.lim h1) (hlp.lim h2) h1 h2 hr hby h3 hc hcm hm h4 h5
      | false => exact lawOps_ny o p ob va vp vc xa xp xc A c l w ho hp (hlo.lim h1) (hlp.lim h2) h1 h2 hr hby h3 hc hcm hm h4 h5
    · have hno : ∀ o, mayO o = true → l ≠ opB o := fun q h4 h5 => hy ⟨q, h4, h5⟩
      cases hm : mayO o with
      | true => exact lawOps_mn o p va vp vc xa xp xc A c l w ho hp (hlo.lim h1) (hlp.lim h2) h1 h2 hr hby h3 hc hcm hm hno
      | false => exact lawOps_nn o p va vp vc xa xp xc A c l w ho hp (hlo.lim h1) (hlp.lim h2) h1 h2 hr hby h3 hc hcm hm hno
  · exact lawOps_out o p va vp vc xa xp xc A c l.length w ho hp hlo hlp hn h
end Go.Proofs.YtcjiofhjognklaaGreat.Tlv

namespace Go.Proofs.YtcjiofhjognklaaGreat.messageOps
open Go.ChangeShapes Go.WideShapes Go.ChangeAt Go.RowKit
open Go.ChangeMaps (open_string shut_string)
set_option linter.unusedVariables false

theorem own : ownKnob Tryz.prog.godebug = none := by kernel_rfl
theorem laidOut : laidOutB Tryz.prog = true := by kernel_rfl

set_option maxRecDepth 100000 in
theorem lifted (os : Os) (started : os.Started) (H : Type) (enc : TypeId × Value → H) :
    ReturnsInHanded {} Tryz.checked os 3 .any (Rows.messageOpsSpec.pre6 enc Tryz.prog Tryz.f3 Rows.messageOpsRow.domain false) (Rows.messageOpsSpec.post enc Tryz.prog Tryz.f3 false true false false) := by
  refine returnsInHanded_of_change (C := Tryz.checked) own started (by kernel_rfl) Tryz.func3
    (ChangeSpec.witness6 (enc := enc) (C := Tryz.checked) false ⟨#[], #[.agg #[.int .i64 0, .string ⟨#[]⟩, .string ⟨#[]⟩, .slice none 0 0, .slice none 0 0, .slice none 0 0, .int .i64 0], .agg #[.int .i64 0, .string ⟨#[]⟩, .string ⟨#[]⟩, .slice none 0 0, .slice none 0 0, .slice none 0 0, .int .i64 0], .slice none 0 0], []⟩ 8 (by kernel_rfl) (by kernel_rfl) (by kernel_rfl) (by kernel_rfl)) ?_
  intro W base args ds gs before hval0 hW hcnd _
  have hval : ∀ (j : Nat) t v, Tryz.f3.params[j]? = some t → args[j]? = some v → Value.okWide Tryz.prog W .any base t v := hval0
  have hW' := hW
  obtain ⟨p, q, hA0, hV, rfl, hfz, hnd⟩ := hW
  have hA : DataW.TrodAll enc Tryz.prog W 0 (fun _ => true) true Tryz.f3.params.toList args.toList ds p := hA0
  rw [Tryz.params3] at hA hval
  obtain ⟨v0, vs0, d0, ds0, p0, q0, hargs, rfl, rfl, h0, r0⟩ := trodAll_cons hA
  obtain ⟨v1, vs1, d1, ds1, p1, q1, rfl, rfl, rfl, h1, r1⟩ := trodAll_cons r0
  obtain ⟨v2, vs2, d2, ds2, p2, q2, rfl, rfl, rfl, h2, r2⟩ := trodAll_cons r1
  obtain ⟨rfl, rfl, rfl⟩ := trodAll_nil r2
  obtain rfl : args = #[v0, v1, v2] := by cases args; simp_all
  obtain ⟨rfl, rfl⟩ := trodVars_none hV
  have k0 := h0
  have lt0 : ∀ x ∈ p0, x.block < W.heap.size := by obtain ⟨m, hm⟩ := k0; exact DataW.trod_lt m _ _ _ hm
  have k1 := h1
  have lt1 : ∀ x ∈ p1, x.block < W.heap.size := by obtain ⟨m, hm⟩ := k1; exact DataW.trod_lt m _ _ _ hm
  have k2 := h2
  have lt2 : ∀ x ∈ p2, x.block < W.heap.size := by obtain ⟨m, hm⟩ := k2; exact DataW.trod_lt m _ _ _ hm
  obtain ⟨o0, va0, vp0, vc0, rfl, ho0, hl0⟩ := Tlv.open_op (hval 0 27 v0 rfl rfl) h0
  obtain ⟨o1, va1, vp1, vc1, rfl, ho1, hl1⟩ := Tlv.open_op (hval 1 27 v1 rfl rfl) h1
  obtain ⟨A2, c2, b2, rfl, hr2, hy2, hlc2, hcm2⟩ := Tlv.open_bytes2 (okWide_slice Tryz.underlying25 (hval 2 25 v2 rfl rfl)) h2
  clear hA0 hval0
  refine (show Calls Tryz.prog 3 _ W fun e w' => e = .returned (.bool true) ∧ Below W.heap.size W w' from by exact Tlv.lawOps_any o0 o1 _ _ _ _ _ _ A2 c2 b2 W ho0 ho1 hl0 hl1 hr2 hy2 (Nat.le_trans hlc2 hcm2) hlc2 hcm2).mono fun e W' ⟨he, bel⟩ => ?_
  subst he
  exact ⟨_, rfl, _, _, _, [], _, [], hW', trodAll_mk1 (shut_bool Tryz.underlying4 _), (trodAll_cons_mk (Below.trod laidOut (by kernel_rfl) (of_decide_eq_true (by kernel_rfl)) k0 bel lt0) (trodAll_cons_mk (Below.trod laidOut (by kernel_rfl) (of_decide_eq_true (by kernel_rfl)) k1 bel lt1) (trodAll_cons_mk (Below.trod laidOut (by kernel_rfl) (of_decide_eq_true (by kernel_rfl)) k2 bel lt2) trodAll_mk0))), rfl, bel.frame _, fun h => by cases h⟩

theorem over : Rows.messageOpsRow.holds Tryz.pinned (OpenSpec.ofChange Rows.messageOpsSpec) :=
  OpenClaim.holds_of_wide 3 Tryz.f3 rfl rfl rfl rfl rfl rfl rfl ⟨rfl, rfl, rfl, rfl, rfl⟩ rfl rfl rfl rfl rfl (by kernel_rfl) Tryz.func3 (by kernel_rfl)
    (of_decide_eq_true (by kernel_rfl)) (by unfold Func.isWrapper; first | (rw [if_pos (by decide +kernel)]; kernel_rfl) | (rw [if_neg (by decide +kernel)]; exact ⟨rfl, rfl⟩))
    (fun os started H enc _ => lifted os started H enc)

/-- THE STATEMENT -/
theorem proved : Rows.MessageOpsSaid := over
#print axioms proved
end Go.Proofs.YtcjiofhjognklaaGreat.messageOps
