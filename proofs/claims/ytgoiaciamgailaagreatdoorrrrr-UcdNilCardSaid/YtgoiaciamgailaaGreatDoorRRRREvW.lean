/- The program's facts, what lies in its listed variables, its functions without a body. -/
import Derived.Test.YtgoiaciamgailaaGreatDoorRRRRTie
import Derived.Test.YtgoiaciamgailaaGreatDoorRRRRCards
import Derived.Test.YtgoiaciamgailaaGreatDoorRRRREvY
import Derived.Below
import Derived.ChangeOld
import Derived.ChangeSame
import Derived.ChangeVars
import Derived.JoinedOf
import Derived.RowKitTokens
import Derived.LaidLaws
import Derived.Stop.Joined
import Derived.WalkKit
import Derived.ProofKit
import Derived.Lay
import Derived.LaidHandle
namespace Go.Proofs.YtgoiaciamgailaaGreatDoorRRRR
open Go.Ev Go.RowKit Go.Extern
set_option linter.unusedVariables false
set_option linter.unusedSimpArgs false

theorem own : ownKnob Tryz.prog.godebug = none := by kernel_rfl
theorem et : Tryz.prog.globalNamed "errors.errorType" = some 0 := by kernel_rfl
theorem rt : (Tryz.prog.cutTypes.find? (·.1 == "internal/reflectlite.rtype")).map (·.2) = some 116 := by kernel_rfl
theorem oneRow : ((List.range 289).filter fun t => Tryz.prog.rowNamed t [101, 114, 114, 111, 114]) = [41] := by kernel_rfl
theorem size : Tryz.prog.types.size = 289 := by kernel_rfl
abbrev laidU : List (String × DataW Unit) := [("unicode/utf8.acceptRanges", Rows.laid_unicode_utf8_acceptRanges), ("errors.errorType", Rows.laid_errors_errorType), ("unicode/utf8.first", Rows.laid_unicode_utf8_first)]
abbrev dataU : List (String × DataW Unit) := [("unicode/utf8.acceptRanges", Rows.laid_unicode_utf8_acceptRanges), ("unicode/utf8.first", Rows.laid_unicode_utf8_first)]
theorem errs {W : World} (h : handlesMet Tryz.prog [("errors.errorType", Rows.laid_errors_errorType)] W) : ∃ cs t fr, W.heap[0]? = some (Obj.cells cs t fr) ∧ cs[0]? = some (.iface 116 (.agg #[typeHandle Tryz.prog 41])) := by
  obtain ⟨name, u, ty, e1, e2, e3, e4, e5⟩ := h _ (List.mem_singleton.2 rfl)
  have en : name = [101, 114, 114, 111, 114] := (Option.some.inj e1).symm
  subst en
  obtain rfl := Option.some.inj (rt.symm.trans e2)
  have hm : ty ∈ (List.range 289).filter fun t => Tryz.prog.rowNamed t [101, 114, 114, 111, 114] := List.mem_filter.2 ⟨List.mem_range.2 (by rw [← size]; exact e3), e4⟩
  rw [oneRow] at hm
  obtain rfl := List.mem_singleton.1 hm
  simp only [World.var?, et, Option.bind_some] at e5
  split at e5
  · rename_i cs t fr hw
    cases e5
    exact ⟨_, t, fr, hw, rfl⟩
  · cases e5
noncomputable def glN : Tr Value := Tr.e.put 0 (some (.iface 116 (.agg #[typeHandle Tryz.prog 41])))
noncomputable def cutsN : List Nat := [0, 0, 0, 33, 23, 7, 10, 4, 8, 8, 7, 7, 7, 3, 7, 7, 3, 7, 6, 3, 3, 6, 5, 6, 7, 9, 16, 3, 9, 3, 3, 3, 11, 10, 9, 1, 1, 1, 51, 41, 8, 29, 4, 23, 1, 46, 10, 14, 1, 9, 16, 15, 31, 1, 2, 3, 7, 4, 3, 13, 21, 3, 18, 12, 80, 36, 22, 4, 3, 13, 23, 7, 7, 7, 7, 9, 3, 7, 11, 24, 50, 3, 5, 3, 3, 3, 3, 27, 15, 3, 4, 4, 13, 9, 6, 3, 5, 5, 7, 52, 43, 6, 11, 7, 5, 5, 6, 5, 5, 7, 7, 5, 5, 9, 8, 6, 19, 3, 8, 7, 8, 9, 5, 21, 3, 8, 5, 4, 7, 12, 184, 8, 11, 11, 55, 8, 11, 5, 11, 12, 3, 3, 6, 6, 10, 13, 13, 61, 10, 13, 13, 14, 37, 13, 3, 10, 7, 5, 5, 11, 3, 2, 10, 3, 3, 7, 11, 6, 6, 12, 9, 13, 5, 11, 5, 2, 10, 5, 5, 12, 2, 9, 1, 1, 1, 1, 1, 1, 1, 1, 1, 1, 1, 1, 1, 1, 1, 1, 1, 1, 1, 3, 1, 1, 1, 1, 1, 2, 1, 1, 2, 1, 1, 1, 1, 1, 1, 1, 3, 1, 3, 1, 0, 0, 0, 0, 0, 0]
theorem globs_of {W : World} (h : laidMetH Tryz.prog laidU W) : GlobsOk glN W := fun g v hg => by
  have h' : laidMet Tryz.prog dataU W ∧ handlesMet Tryz.prog [("errors.errorType", Rows.laid_errors_errorType)] W := h
  have hg' : (if g = 0 then some (Value.iface 116 (.agg #[typeHandle Tryz.prog 41])) else (Tr.e : Tr Value).get g) = some v := by rw [← hg]; exact (Tr.get_put _ _ _ _).symm
  by_cases e : g = 0
  · subst e
    rw [if_pos rfl] at hg'
    cases hg'
    exact errs h'.2
  · rw [if_neg e, Tr.get_e] at hg'
    cases hg'
theorem ngN : noNG Tryz.prog = true := by decide +kernel
theorem mixedN : Tryz.prog.follows .mixedOrders = true := by kernel_rfl
theorem okN : ProgOk2 (envOf Tryz.prog cutsN glN) := envOk ngN mixedN
/-- A world that meets the condition. -/
noncomputable def baseWorld (os : Os) : World :=
  { World.holding Tryz.prog os ⟨#[], #[], []⟩ with heap := (World.holding Tryz.prog os ⟨#[], #[], []⟩).heap.modify 0 fun
      | .cells _ t frozen => .cells #[.iface 116 (.agg #[typeHandle Tryz.prog 41])] t frozen
      | o => o }
noncomputable def laidWorld (os : Os) : World := (baseWorld os).layVars Tryz.prog dataU
theorem laidWorld_os (os : Os) : (laidWorld os).os = os := World.layVars_os _ _ _
theorem laidWorld_met (os : Os) (args : Array Value) : laidMetH Tryz.prog laidU ((laidWorld os).forCall (fun _ _ => 0) ⟨#[], args, []⟩).memory := by
  have e1 : (dataU.filter fun x => (dataU.map (·.1)).contains x.1) = dataU := List.filter_eq_self.2 fun x hx => List.contains_iff_mem.2 (List.mem_map.2 ⟨x, hx, rfl⟩)
  have e2 : (dataU.filter fun x => !(dataU.map (·.1)).contains x.1) = [] := List.filter_eq_nil_iff.2 fun x hx => by rw [List.contains_iff_mem.2 (List.mem_map.2 ⟨x, hx, rfl⟩)]; simp
  have hf : (baseWorld os).layFits Tryz.prog dataU [] = true := by kernel_rfl
  have hi : (baseWorld os).layIfaces Tryz.prog dataU (laidWorld os) = true := by kernel_rfl
  have h : laidMet Tryz.prog dataU (laidWorld os) := laidMet_layVars (w0 := baseWorld os) (dataU.map (·.1)) [] (by rw [e1]; unfold laidWorld; rfl) (by rw [e1]; exact hf) (by rw [e1]; exact hi) (by rw [e2]; exact LaidIn.none)
  exact laidMetH_of_parts (h.of_heap (by simp [World.memory, World.forCall, Input.heap])) (by kernel_rfl)
theorem x35 : ExtFn (envOf Tryz.prog cutsN glN) 35 (gValueOf (envOf Tryz.prog cutsN glN)) :=
  ⟨Tryz.f35, _, Tryz.func35, by kernel_rfl, by kernel_rfl, by kernel_rfl, rfl, gValueOf_ok okN.toEnvOk⟩
theorem x36 : ExtFn (envOf Tryz.prog cutsN glN) 36 (gType (envOf Tryz.prog cutsN glN)) :=
  ⟨Tryz.f36, _, Tryz.func36, by kernel_rfl, by kernel_rfl, by kernel_rfl, rfl, gType_ok _⟩
theorem x37 : ExtFn (envOf Tryz.prog cutsN glN) 37 (gIsNil (envOf Tryz.prog cutsN glN)) :=
  ⟨Tryz.f37, _, Tryz.func37, by kernel_rfl, by kernel_rfl, by kernel_rfl, rfl, gIsNil_ok okN.toEnvOk _⟩
theorem x44 : ExtFn (envOf Tryz.prog cutsN glN) 44 (gTypeOf (envOf Tryz.prog cutsN glN)) :=
  ⟨Tryz.f44, _, Tryz.func44, by kernel_rfl, by kernel_rfl, by kernel_rfl, rfl, gTypeOf_ok⟩
theorem x53 : ExtFn (envOf Tryz.prog cutsN glN) 53 (gElem (envOf Tryz.prog cutsN glN)) :=
  ⟨Tryz.f53, _, Tryz.func53, by kernel_rfl, by kernel_rfl, by kernel_rfl, rfl, gElem_ok okN.toEnvOk _⟩
theorem x54 : ExtFn (envOf Tryz.prog cutsN glN) 54 (gSet (envOf Tryz.prog cutsN glN)) :=
  ⟨Tryz.f54, _, Tryz.func54, by kernel_rfl, by kernel_rfl, by kernel_rfl, rfl, gSet_ok okN.toEnvOk⟩
theorem x175 : ExtFn (envOf Tryz.prog cutsN glN) 175 (gPure (envOf Tryz.prog cutsN glN) BytealgCount.count) :=
  ⟨Tryz.f175, _, Tryz.func175, by kernel_rfl, by kernel_rfl, by kernel_rfl, rfl, gPure_ok _⟩
theorem x180 : ExtFn (envOf Tryz.prog cutsN glN) 180 (gPure (envOf Tryz.prog cutsN glN) BytealgIndexByte.indexByte) :=
  ⟨Tryz.f180, _, Tryz.func180, by kernel_rfl, by kernel_rfl, by kernel_rfl, rfl, gPure_ok _⟩
theorem x196 : ExtFn (envOf Tryz.prog cutsN glN) 196 (gPure (envOf Tryz.prog cutsN glN) (ReflectliteType.abiMethod fun t => do pure (.int .u8 (Int.ofNat (← Rtype.kind t))))) :=
  ⟨Tryz.f196, _, Tryz.func196, by kernel_rfl, by kernel_rfl, by kernel_rfl, rfl, gPure_ok _⟩
theorem x207 : ExtFn (envOf Tryz.prog cutsN glN) 207 (gPure (envOf Tryz.prog cutsN glN) (ReflectliteType.relation "AssignableTo" ReflectliteType.assignableTo)) :=
  ⟨Tryz.f207, _, Tryz.func207, by kernel_rfl, by kernel_rfl, by kernel_rfl, rfl, gPure_ok _⟩
theorem x209 : ExtFn (envOf Tryz.prog cutsN glN) 209 (gPure (envOf Tryz.prog cutsN glN) (ReflectliteType.method ReflectliteType.elem)) :=
  ⟨Tryz.f209, _, Tryz.func209, by kernel_rfl, by kernel_rfl, by kernel_rfl, rfl, gPure_ok _⟩
theorem x210 : ExtFn (envOf Tryz.prog cutsN glN) 210 (gPure (envOf Tryz.prog cutsN glN) (ReflectliteType.relation "Implements" ReflectliteType.implements_)) :=
  ⟨Tryz.f210, _, Tryz.func210, by kernel_rfl, by kernel_rfl, by kernel_rfl, rfl, gPure_ok _⟩
theorem x208 : ExtFn (envOf Tryz.prog cutsN glN) 208 (gPure (envOf Tryz.prog cutsN glN) (ReflectliteType.method fun t => do Rtype.noPackHeld "Comparable" t; pure (.bool (← typeInfo t).comparable))) :=
  ⟨Tryz.f208, _, Tryz.func208, by kernel_rfl, by kernel_rfl, by kernel_rfl, rfl, gPure_ok _⟩
set_option maxRecDepth 100000
noncomputable def extN : Tr (List SV → Heap → Outs) := (((((((((((((Tr.e).put 35 (some (gValueOf (envOf Tryz.prog cutsN glN)))).put 36 (some (gType (envOf Tryz.prog cutsN glN)))).put 37 (some (gIsNil (envOf Tryz.prog cutsN glN)))).put 44 (some (gTypeOf (envOf Tryz.prog cutsN glN)))).put 53 (some (gElem (envOf Tryz.prog cutsN glN)))).put 54 (some (gSet (envOf Tryz.prog cutsN glN)))).put 175 (some (gPure (envOf Tryz.prog cutsN glN) BytealgCount.count))).put 180 (some (gPure (envOf Tryz.prog cutsN glN) BytealgIndexByte.indexByte))).put 196 (some (gPure (envOf Tryz.prog cutsN glN) (ReflectliteType.abiMethod fun t => do pure (.int .u8 (Int.ofNat (← Rtype.kind t))))))).put 207 (some (gPure (envOf Tryz.prog cutsN glN) (ReflectliteType.relation "AssignableTo" ReflectliteType.assignableTo)))).put 209 (some (gPure (envOf Tryz.prog cutsN glN) (ReflectliteType.method ReflectliteType.elem)))).put 210 (some (gPure (envOf Tryz.prog cutsN glN) (ReflectliteType.relation "Implements" ReflectliteType.implements_)))).put 208 (some (gPure (envOf Tryz.prog cutsN glN) (ReflectliteType.method fun t => do Rtype.noPackHeld "Comparable" t; pure (.bool (← typeInfo t).comparable))))
theorem extNok : ExtOk (envOf Tryz.prog cutsN glN) extN := extOk_put (extOk_put (extOk_put (extOk_put (extOk_put (extOk_put (extOk_put (extOk_put (extOk_put (extOk_put (extOk_put (extOk_put (extOk_put (extOk_e _) x35) x36) x37) x44) x53) x54) x175) x180) x196) x207) x209) x210) x208
end Go.Proofs.YtgoiaciamgailaaGreatDoorRRRR
