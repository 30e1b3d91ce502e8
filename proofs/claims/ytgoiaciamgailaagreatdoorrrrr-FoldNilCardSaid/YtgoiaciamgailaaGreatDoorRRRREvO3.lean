/- Operations on what is known: parts of slices, append, copy, conversions. -/
import Derived.Test.YtgoiaciamgailaaGreatDoorRRRREvO2
import Derived.Laws.BitsLemmas
import Derived.Laws.BitsAllLaws
import Derived.Laws.Bits64
namespace Go.Ev
set_option linter.unusedVariables false
set_option linter.unusedSimpArgs false
set_option linter.unusedSectionVars false
set_option linter.unnecessarySimpa false

inductive OptR (ρ : Rho) (N : Nat) : Option SV → Option Value → Prop
  | none : OptR ρ N none none
  | some (v : SV) (v' : Value) : VR ρ N v v' → OptR ρ N (some v) (some v')

section
variable {E : Env} {ρ : Rho} {h : Heap} {w : World}
theorem AR.opt {N : Nat} {st : St} {a : Act} (ha : AR ρ N st a.tmps a.defers) (o : Option Operand) : OptR ρ N (o.map (Ev.opd st)) (o.map a.eval) := by
  cases o with
  | none => exact .none
  | some x => exact .some _ _ (ha.opd x)
theorem run_bound {P : Program} {k : IntKind} {n y : Nat} {code : BoundsCode} (hle : n ≤ y) (w : World) : (Instr.sliceBound (.int k (Int.ofNat n)) y code).run P w = .ok n w := by
  have h1 : (0 : Int) ≤ Int.ofNat n ∧ Int.ofNat n ≤ (y : Int) := ⟨Int.natCast_nonneg n, Int.ofNat_le.2 hle⟩
  simp only [Instr.sliceBound, asIntOf, Sem.run_bind, Sem.run_pure, Result.andThen_ok, h1, and_self, if_true]
  rfl
theorem run_bounds {P : Program} {N : Nat} {lo hi : Option SV} {lo' hi' : Option Value} (hlo : OptR ρ N lo lo') (hhi : OptR ρ N hi hi') {len cap l u : Nat} (h1 : natOr 0 lo = some l) (h2 : natOr len hi = some u) (h3 : l ≤ u) (h4 : u ≤ cap) (s : Bool) (w : World) :
    (Instr.sliceBounds s len cap lo' hi' none).run P w = .ok (l, u, cap) w := by
  cases hhi with
  | none =>
    simp only [natOr, Option.some.injEq] at h2
    subst h2
    cases hlo with
    | none =>
      simp only [natOr, Option.some.injEq] at h1
      subst h1
      simp [Instr.sliceBounds]
    | some v v' hv =>
      obtain ⟨k, rfl⟩ := nat_ok hv h1
      have a1 := run_bound (P := P) (k := k) (code := BoundsCode.sliceB) h3 w
      simp only [Int.ofNat_eq_natCast] at a1 ⊢
      simp [Instr.sliceBounds, a1]
  | some x x' hx =>
    obtain ⟨k, rfl⟩ := nat_ok hx h2
    have a2 := run_bound (P := P) (k := k) (code := if s then BoundsCode.sliceAcap else BoundsCode.sliceAlen) h4 w
    simp only [Int.ofNat_eq_natCast] at a2 ⊢
    cases hlo with
    | none =>
      simp only [natOr, Option.some.injEq] at h1
      subst h1
      simp [Instr.sliceBounds, a2]
    | some v v' hv =>
      obtain ⟨k2, rfl⟩ := nat_ok hv h1
      have a1 := run_bound (P := P) (k := k2) (code := BoundsCode.sliceB) h3 w
      simp only [Int.ofNat_eq_natCast] at a1 ⊢
      simp [Instr.sliceBounds, a2, a1]
theorem run_bounds3 {P : Program} {N : Nat} {lo : Option SV} {lo' : Option Value} (hlo : OptR ρ N lo lo') {len cap l u m : Nat} {k2 k3 : IntKind} (h1 : natOr 0 lo = some l) (h3 : l ≤ u) (h4 : u ≤ m) (h5 : m ≤ cap) (s : Bool) (w : World) :
    (Instr.sliceBounds s len cap lo' (some (.int k2 (Int.ofNat u))) (some (.int k3 (Int.ofNat m)))).run P w = .ok (l, u, m) w := by
  cases hlo with
  | none =>
    simp only [natOr, Option.some.injEq] at h1
    subst h1
    have a1 := run_bound (P := P) (k := k3) (code := if s then BoundsCode.slice3Acap else BoundsCode.slice3Alen) h5 w
    have a2 := run_bound (P := P) (k := k2) (code := BoundsCode.slice3B) h4 w
    simp only [Int.ofNat_eq_natCast] at a1 a2 ⊢
    simp [Instr.sliceBounds, a1, a2]
  | some v v' hv =>
    obtain ⟨k, rfl⟩ := nat_ok hv h1
    have a1 := run_bound (P := P) (k := k3) (code := if s then BoundsCode.slice3Acap else BoundsCode.slice3Alen) h5 w
    have a2 := run_bound (P := P) (k := k2) (code := BoundsCode.slice3B) h4 w
    have a3 := run_bound (P := P) (k := k) (code := BoundsCode.slice3C) h3 w
    simp only [Int.ofNat_eq_natCast] at a1 a2 a3 ⊢
    simp [Instr.sliceBounds, a1, a2, a3]
variable (ok : EnvOk E)
include ok
theorem slice_ok (hr : HR E ρ h w) (t : TypeId) {x : SV} {x' : Value} (hx : VR ρ h.next x x') {lo hi mx : Option SV} {lo' hi' mx' : Option Value} (hlo : OptR ρ h.next lo lo') (hhi : OptR ρ h.next hi hi') (hmx : OptR ρ h.next mx mx') :
    SF E ρ h w (oSlice E h t x lo hi mx) (Instr.sliceAt t x' lo' hi' mx') := by
  unfold oSlice
  split
  · rename_i s
    unfold sliceStr
    split
    · rename_i l u hu h1 h2
      cases hc : (Nat.ble l u && Nat.ble u s.size)
      · exact SF.none
      · simp only [Bool.and_eq_true, ble_eq, decide_eq_true_eq] at hc
        rw [cond_true]
        cases hx
        cases hmx
        refine SF.same hr (.val _) ?_
        simp only [Instr.sliceAt, Instr.slice, Sem.run_bind, run_und ok hu, Result.andThen_ok, Option.isSome_none, Bool.false_eq_true, if_false, Sem.run_pure, run_bounds hlo hhi h1 h2 hc.1 hc.2]
        rw [dropL_eq, takeL_eq]
        congr 2
        apply ByteArray.ext
        apply Array.ext'
        simp [ByteArray.data_extract, List.extract_eq_take_drop]
    · exact SF.none
  · rename_i b off len cap
    unfold sliceSl
    split
    · rename_i sz l u hz h1 h2
      unfold sliceSz at hz
      split at hz
      · rename_i e hu
        -- the address
        have adr : ∀ (l m : Nat), (if m = l then (some ⟨(ρ b).b, (ρ b).o + off, none⟩ : Option Addr) else (some ⟨(ρ b).b, (ρ b).o + off, none⟩ : Option Addr).map (·.add (l * sz))) = some (if m = l then ⟨(ρ b).b, (ρ b).o + off, none⟩ else ⟨(ρ b).b, (ρ b).o + (off + l * sz), none⟩) := fun l m => by
          split <;> simp [add_at, Nat.add_assoc]
        have hb : b < h.next := by cases hx <;> assumption
        have run : ∀ c lo' hi' mx' l u m, (Instr.sliceBounds true len c lo' hi' mx').run E.P w = .ok (l, u, m) w → (Instr.sliceAt t (.slice (some ⟨(ρ b).b, (ρ b).o + off, none⟩) len c) lo' hi' mx').run E.P w = .ok (.slice (some (if m = l then ⟨(ρ b).b, (ρ b).o + off, none⟩ else ⟨(ρ b).b, (ρ b).o + (off + l * sz), none⟩)) (u - l) (m - l)) w := fun c lo' hi' mx' l u m hb => by
          simp only [Instr.sliceAt, Instr.slice, Sem.run_bind, run_und ok hu, Result.andThen_ok, hb, run_size ok hz, Sem.run_pure, adr]
        split
        · cases hmx
          split
          · rename_i c
            cases hc : (Nat.ble l u && Nat.ble u c)
            · exact SF.none
            · rw [cond_true]
              simp only [Bool.and_eq_true, ble_eq, decide_eq_true_eq] at hc
              cases hx with
              | slice _ _ _ _ hb hle =>
                have hrun := run _ _ _ _ _ _ _ (run_bounds hlo hhi h1 h2 hc.1 hc.2 true w)
                rw [Tr.beq_of]
                by_cases hlc : l = c
                · subst hlc
                  rw [if_pos rfl] at hrun
                  have : u = l := by omega
                  subst this
                  simp only [decide_true, cond_true]
                  simp only [Nat.sub_self] at hrun
                  exact SF.same hr (.slice b off 0 0 hb (Nat.le_refl _)) hrun
                · rw [if_neg (Ne.symm hlc)] at hrun
                  rw [decide_eq_false hlc, cond_false]
                  exact SF.same hr (.slice b _ _ _ hb (by omega)) hrun
          · cases hc : (Nat.ble l u && Nat.ble u len && not (Nat.beq l len) && rowOf E h t b)
            · exact SF.none
            · rw [cond_true]
              simp only [Bool.and_eq_true, ble_eq, decide_eq_true_eq, Bool.not_eq_true', Tr.beq_of, decide_eq_false_iff_not] at hc
              obtain ⟨⟨⟨c1, c2⟩, c3⟩, c4⟩ := hc
              cases hx with
              | sliceU _ _ _ c hb hle hrm =>
                have hrun := run c _ _ _ _ _ _ (run_bounds (cap := c) hlo hhi h1 h2 c1 (by omega) true w)
                rw [if_neg (by omega)] at hrun
                refine SF.same hr (.sliceU b _ _ _ hb (by omega) ?_) hrun
                unfold rowOf at c4
                rw [hu] at c4
                split at c4
                · rename_i e' cs dfl size el he hg
                  simp only [Option.some.injEq, TypeDesc.slice.injEq] at he
                  subst he
                  rw [Tr.beq_of, decide_eq_true_eq] at c4
                  subst c4
                  obtain ⟨cc, ty, fr, _, _, hzz⟩ := hr.row hg
                  obtain ⟨i, hi, hi2⟩ := size_ok ok hz
                  have := hzz i hi
                  rw [hi2] at this
                  rw [← hrm, ← this, Nat.sub_mul]
                  have : l * sz ≤ c * sz := Nat.mul_le_mul_right _ (by omega)
                  omega
                · cases c4
        · split
          · rename_i m hi0 hmn
            cases hc : (Nat.ble l u && Nat.ble u m && Nat.ble m (cap.getD len))
            · exact SF.none
            · rw [cond_true]
              simp only [Bool.and_eq_true, ble_eq, decide_eq_true_eq] at hc
              obtain ⟨⟨c1, c2⟩, c3⟩ := hc
              cases hmx with
              | some mv mv' hm =>
                obtain ⟨k3, rfl⟩ := nat_ok hm hmn
                cases hhi with
                | some hv hv' hh =>
                  obtain ⟨k2, rfl⟩ := nat_ok hh h2
                  have fin : ∀ c, m ≤ c → SF E ρ h w (bif Nat.beq l m then some [(.slice b off 0 (some 0), h)] else some [(.slice b (off + l * sz) (u - l) (some (m - l)), h)]) (Instr.sliceAt t (.slice (some ⟨(ρ b).b, (ρ b).o + off, none⟩) len c) lo' (some (.int k2 (Int.ofNat u))) (some (.int k3 (Int.ofNat m)))) := fun c hcm => by
                    have hrun := run _ _ _ _ _ _ _ (run_bounds3 (len := len) (k2 := k2) (k3 := k3) hlo h1 c1 c2 hcm true w)
                    rw [Tr.beq_of]
                    by_cases hlc : l = m
                    · subst hlc
                      rw [if_pos rfl] at hrun
                      have : u = l := by omega
                      subst this
                      simp only [decide_true, cond_true]
                      simp only [Nat.sub_self] at hrun
                      exact SF.same hr (.slice b off 0 0 hb (Nat.le_refl _)) hrun
                    · rw [if_neg (Ne.symm hlc)] at hrun
                      rw [decide_eq_false hlc, cond_false]
                      exact SF.same hr (.slice b _ _ _ hb (by omega)) hrun
                  cases hx with
                  | slice _ _ _ c _ hle => exact fin c (by simpa using c3)
                  | sliceU _ _ _ c _ hle hrm => exact fin c (by have : m ≤ len := (by simpa using c3); omega)
          · exact SF.none
      · cases hz
    · exact SF.none
  · unfold sliceNil
    split
    · rename_i sz hz h1 h2
      unfold sliceSz at hz
      split at hz
      · rename_i e hu
        cases hx
        cases hmx
        refine SF.same hr (.val _) ?_
        simp only [Instr.sliceAt, Instr.slice, Sem.run_bind, run_und ok hu, Result.andThen_ok, run_bounds hlo hhi h1 h2 (Nat.le_refl _) (Nat.le_refl _), run_size ok hz, Sem.run_pure]
        simp
      · cases hz
    · exact SF.none
  · rename_i b off
    unfold sliceArr
    split
    · rename_i n e hu
      cases hmx
      split
      · rename_i sz l u hz h1 h2
        cases hc : (Nat.ble l u && Nat.ble u n)
        · exact SF.none
        · rw [cond_true]
          simp only [Bool.and_eq_true, ble_eq, decide_eq_true_eq] at hc
          cases hx with
          | ptr _ _ hb =>
            have hrun : (Instr.sliceAt t (.pointer (some ⟨(ρ b).b, (ρ b).o + off, none⟩)) lo' hi' none).run E.P w = .ok (.slice (some (if n = l then ⟨(ρ b).b, (ρ b).o + off, none⟩ else ⟨(ρ b).b, (ρ b).o + (off + l * sz), none⟩)) (u - l) (n - l)) w := by
              simp only [Instr.sliceAt, Sem.run_bind, run_und ok hu, Result.andThen_ok, Instr.sureAddr, Sem.run_pure, run_bounds hlo hhi h1 h2 hc.1 hc.2, run_size ok hz, add_at, Nat.add_assoc]
            rw [Tr.beq_of]
            by_cases hlc : l = n
            · subst hlc
              rw [if_pos rfl] at hrun
              have : u = l := by omega
              subst this
              simp only [decide_true, cond_true]
              simp only [Nat.sub_self] at hrun
              exact SF.same hr (.slice b off 0 0 hb (Nat.le_refl _)) hrun
            · rw [if_neg (Ne.symm hlc)] at hrun
              rw [decide_eq_false hlc, cond_false]
              exact SF.same hr (.slice b _ _ _ hb (by omega)) hrun
      · exact SF.none
    · exact SF.none
  · exact SF.none
theorem makeSlice_ok (hr : HR E ρ h w) (t : TypeId) {l c : SV} {l' c' : Value} (hl : VR ρ h.next l l') (hc : VR ρ h.next c c') : SF E ρ h w (oMakeSlice E h t l c) (Instr.makeSlice t l' c') := by
  unfold oMakeSlice
  split
  · rename_i e hu
    split
    · rename_i i n m hi hn hm
      split
      · rename_i z hz
        cases hb : (Nat.ble n m && Nat.ble m 140737488355328 && Nat.ble (i.bytes * m) 140737488355328 && Nat.beq (zcells z).length i.size && all1 (zcells z))
        · exact SF.none
        · rw [cond_true]
          simp only [Bool.and_eq_true, ble_eq, decide_eq_true_eq, Tr.beq_of] at hb
          obtain ⟨⟨⟨⟨b1, b2⟩, b3⟩, b4⟩, b5⟩ := hb
          obtain ⟨k1, rfl⟩ := nat_ok hl hn
          obtain ⟨k2, rfl⟩ := nat_ok hc hm
          have hzc := zcells_R (ρ := ρ) (N := h.next) z
          have hzl := hzc.length
          have hsz : z.cells.size = i.size := by rw [← b4, hzl]; simp
          have hs : sizeO E e = some i.size := by simp [sizeO, info, hi]
          have wr : ∀ x : Nat, x ≤ 140737488355328 → IntKind.i64.wrap (Int.ofNat x) = Int.ofNat x := fun x hx => by
            have h1 : (x : Int) ≤ 140737488355328 := Int.ofNat_le.2 hx
            have h2 : (0 : Int) ≤ x := Int.natCast_nonneg x
            rw [IntKind.wrap_i64]
            simp only [Int.ofNat_eq_natCast]
            omega
          have hnn := wr n (by omega)
          have hmm := wr m b2
          intro l0 e0
          cases e0
          have ho := hzc.ones b5
          refine ⟨_, _, .slice (some ⟨w.heap.size, 0, none⟩) n m, w.alloc (.cells ((Array.range (m * i.size)).map ((if m * i.size = 0 then #[] else z.cells)[· % (if m * i.size = 0 then #[] else z.cells).size]!)) e), ρ.set h.next ⟨w.heap.size, 0, m * i.size, i.size⟩, .head _, ?_, ?_, Go.new E hr _ _ _ _ ?_⟩
          · have t1 : ¬ ((decide (Int.ofNat m < 0) || decide ((i.bytes : Int) * Int.ofNat m > 2 ^ 48)) = true) := by
              have : (i.bytes : Int) * (m : Int) ≤ 140737488355328 := by rw [← Int.natCast_mul]; exact Int.ofNat_le.2 b3
              have e3 : (2 : Int) ^ 48 = 281474976710656 := by decide
              simp only [Int.ofNat_eq_natCast, Bool.or_eq_true, decide_eq_true_eq, e3]
              omega
            have t2 : ¬ ((decide (Int.ofNat m < 0) || decide ((i.bytes : Int) * Int.ofNat m > 2 ^ 48)) = true ∨ Int.ofNat n < 0 ∨ Int.ofNat n > Int.ofNat m) := by
              rintro (x | x | x)
              · exact t1 x
              · simp only [Int.ofNat_eq_natCast] at x; omega
              · simp only [Int.ofNat_eq_natCast] at x; omega
            simp only [Instr.makeSlice, Sem.run_bind, run_und ok hu, Result.andThen_ok, asInt, asIntOf, Sem.run_pure, run_info ok hi, hnn, hmm]
            rw [if_neg (by simpa using t2)]
            simp only [run_askRoom, Sem.run_bind, Sem.run_pure, Result.andThen_ok, run_size ok hs, Int.ofNat_eq_natCast, Int.toNat_natCast]
            by_cases h0 : m * i.size = 0
            · rw [if_pos h0, if_pos h0]
              simp [newRow]
            · rw [if_neg h0, if_neg h0]
              simp [newRow, run_zero ok hi hz]
          · have := VR.slice (ρ := ρ.set h.next ⟨w.heap.size, 0, m * i.size, i.size⟩) (N := h.next + 1) h.next 0 n m (Nat.lt_succ_self _) b1
            rwa [Rho.set_self] at this
          · have hren := Ren.set ρ h.next ⟨w.heap.size, 0, m * i.size, i.size⟩
            refine .row _ _ _ _ _ _ _ _ ⟨by simp, Nat.le_refl _, fun j _ hc => by have := hc.2; simp at this, fun j hj => ?_⟩ (fun j hj => by rw [hi] at hj; cases hj; rfl)
            have h0 : m * i.size ≠ 0 := by omega
            have hpos : 0 < i.size := Nat.pos_of_ne_zero fun e => h0 (by simp [e])
            have hmod : j % (zcells z).length < (zcells z).length := Nat.mod_lt _ (by omega)
            have hg := List.getElem?_eq_getElem hmod
            obtain ⟨v', a1, a2⟩ := (hzc.ren hren).get hg
            refine ⟨_, v', (rowGet_rep (by omega)).trans hg, ?_, ho v' (List.mem_of_getElem? a1), a2⟩
            rw [if_neg h0, Nat.zero_add, range_get _ _ _ hj (by omega), hsz, ← b4]
            simpa using a1
      · exact SF.none
    · exact SF.none
  · exact SF.none
end
end Go.Ev
