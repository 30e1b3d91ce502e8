/- Rows of records: copy, clear, append with what follows of where they lie; a row cut, a row whose element is written. -/
import Derived.Test.YtgjcomnljonffaaB3
import Derived.Laws.IdiomCopy
import Derived.Laws.CopyRow
import Derived.Laws.CopyOwn
import Derived.Maps.AppendAt
namespace Go.Proofs.Ytgjcomnljonffaa.Tlv
open Go.RowKit
set_option maxRecDepth 100000
set_option linter.unusedVariables false
set_option linter.unusedSimpArgs false
section
variable {α : Type} (K : Kind α)
theorem grown_setRow (w : World) (g : Nat) (cs : Array Value) : w.grownBy (w.setRow g cs) (some g) :=
  ⟨rfl, rfl, rfl, by simp [World.setRow], fun k _ hk => setRow_other w g k cs (fun e => hk (by rw [e]))⟩
theorem run_copyK (w : World) (ty : TypeId) (dp sp : Option Addr) (dLen dCap sLen sCap g off : Nat) (cur cs : List Value) (hg : Blk w g K.e cur.toArray) (hn : cs.length = Nat.min sLen dLen * K.size)
    (hpos : 0 < cs.length → dp = some ⟨g, off, none⟩ ∧ ∃ ad, sp = some ad ∧ ∀ j v, cs[j]? = some v → w.cell? (ad.add j) = some v)
    (hfit : off + cs.length ≤ cur.length) (h1 : ∀ v ∈ cs, v.oneCell' = true) :
    ∃ w', (Builtin.copy_ #[K.st, K.st] ty #[.slice dp dLen dCap, .slice sp sLen sCap]).run Try.prog w = .ok (goInt (Nat.min sLen dLen)) w' ∧ Blk w' g K.e (splice cur off cs).toArray ∧ w.grownBy w' (some g) := by
  obtain ⟨i, z, hi, hz0, hz1, hz2, hz3⟩ := K.zero
  have hs := hz1
  by_cases h0 : cs.length = 0
  · have hm : Nat.min sLen dLen = 0 := by
      rcases Nat.mul_eq_zero.1 (hn.symm.trans h0) with h | h
      · exact h
      · have := K.pos; omega
    obtain rfl : cs = [] := List.eq_nil_of_length_eq_zero h0
    refine ⟨w, ?_, by simpa [splice] using hg, World.grownBy.refl _ _⟩
    cases dp with
    | none => cases sp <;> simp [Builtin.copy_, run_underlying K.sl, Builtin.lenOf, Builtin.firstCells, sizeOf, typeInfo, hi, hm, loadCells, loadCellsFrom]
    | some a => cases sp <;> simp [Builtin.copy_, run_underlying K.sl, Builtin.lenOf, Builtin.firstCells, sizeOf, typeInfo, hi, hm, storeCells, loadCells, loadCellsFrom]
  · obtain ⟨rfl, ad, rfl, hsrc⟩ := hpos (by omega)
    have hl := run_loadCells_list (P := Try.prog) w ad cs hsrc
    have hst := run_storeCells_at Try.prog g off K.e cs 0 cur.toArray w hg (by simpa using hfit) h1
    refine ⟨w.setRow g (splice cur off cs).toArray, ?_, setRow_heap w g _ _ _ _ hg, grown_setRow w g _⟩
    simp [Builtin.copy_, run_underlying K.sl, Builtin.lenOf, Builtin.firstCells, sizeOf, typeInfo, hi, hs, ← hn, hl, hst, splice]
/-- The zero value's cells are cells. -/
def ZOk : Prop := ∀ (i : TypeInfo) (z : Value), Try.prog.info? K.e = some i → i.zero = some z → ∀ u ∈ z.cells.toList, u.oneCell' = true
theorem zero_one {z : Array Value} (h : ∀ u ∈ z.toList, u.oneCell' = true) (n : Nat) (hz : 0 < z.size) : ∀ v ∈ (Builtin.zeroCells z n).toList, v.oneCell' = true := fun v hv => by
  simp only [Builtin.zeroCells, Array.toList_map, List.mem_map] at hv
  obtain ⟨i, _, rfl⟩ := hv
  have hi : i % z.size < z.size := Nat.mod_lt _ hz
  rw [getElem!_pos z _ hi]
  exact h _ (by simp)
variable {K} in
theorem run_clearK (hzo : ZOk K) (w : World) (ty : TypeId) (p : Option Addr) (n c g off : Nat) (cur : List Value) (hg : Blk w g K.e cur.toArray) (hp : 0 < n → p = some ⟨g, off, none⟩) (hfit : off + n * K.size ≤ cur.length) :
    ∃ w' zs, (Builtin.clear_ #[K.st] ty #[.slice p n c]).run Try.prog w = .ok (.tuple #[]) w' ∧ zs.length = n * K.size ∧ Blk w' g K.e (splice cur off zs).toArray ∧ w.grownBy w' (some g) := by
  obtain ⟨i, z, hi, hz0, hz1, hz2, hz3⟩ := K.zero
  by_cases h0 : n = 0
  · subst h0
    refine ⟨w, [], ?_, by simp, by simpa [splice] using hg, World.grownBy.refl _ _⟩
    cases p <;> simp [Builtin.clear_, run_underlying K.sl]
  · obtain rfl := hp (by omega)
    have hzl : (Builtin.zeroCells z.cells n).toList.length = n * K.size := by rw [Array.length_toList, size_zeroCells, hz3]
    have h1 : ∀ v ∈ (Builtin.zeroCells z.cells n).toList, v.oneCell' = true := zero_one (hzo i z hi hz0) n (by rw [hz3]; exact K.pos)
    have hst := run_storeCells_at Try.prog g off K.e (Builtin.zeroCells z.cells n).toList 0 cur.toArray w hg (by rw [hzl]; simpa using hfit) h1
    refine ⟨w.setRow g (splice cur off (Builtin.zeroCells z.cells n).toList).toArray, (Builtin.zeroCells z.cells n).toList, ?_, hzl, setRow_heap w g _ _ _ _ hg, grown_setRow w g _⟩
    obtain ⟨m, rfl⟩ : ∃ m, n = m + 1 := ⟨n - 1, by omega⟩
    simp [Builtin.clear_, run_underlying K.sl, zeroValue, typeInfo, hi, hz0, hst, splice]
/-- append(s, make(.., m)...) where there is no room: what stood, then zeros. -/
theorem run_append_zerosK (w : World) (ty tn : TypeId) (kn : IntKind) (htn : Try.prog.underlying tn = some (.int kn)) (k : IntKind) (b : Addr) (sLen sCap m : Nat) (olds : List Value) (hlo : olds.length = sLen * K.size) (holds : ∀ j v, olds[j]? = some v → w.cell? (b.add j) = some v)
    (hm : 0 < m) (hg : sCap < sLen + m) (hmax : sLen + m ≤ 1000000000) :
    ∃ c' zs w', (Builtin.append_ #[K.st, tn] ty #[.slice (some b) sLen sCap, .int k m]).run Try.prog w = .ok (.slice (some ⟨w.heap.size, 0, none⟩) (sLen + m) c') w' ∧ sLen + m ≤ c' ∧ c' ≤ maxLen ∧ (olds ++ zs).length = c' * K.size ∧
      Blk w' w.heap.size K.e (olds ++ zs).toArray ∧ Below w.heap.size w w' := by
  obtain ⟨i, z, hi, hz0, hz1, hz2, hz3⟩ := K.zero
  have hby : (sLen + m) * K.bytes ≤ 140737488355328 := by
    have := Nat.mul_le_mul hmax K.small
    omega
  have hfit := growslice_fits hg hby
  have hw : IntKind.i64.wrap (m : Int) = m := by rw [IntKind.wrap_i64]; omega
  have hn : ¬ (sLen + m ≤ sCap) := by omega
  have h63' : ¬ (9223372036854775807 < ((sLen : Int) + (m : Int))) := by omega
  have h48' : ¬ (281474976710656 < Builtin.nextslicecap (sLen + m) sCap * i.bytes) := by rw [hz2]; omega
  have hmb : m * K.bytes ≤ 140737488355328 := Nat.le_trans (Nat.mul_le_mul_right _ (by omega)) hby
  have h48i : ¬ (281474976710656 < (m : Int) * (i.bytes : Int)) := by
    rw [hz2, ← Int.natCast_mul]
    omega
  have hneg : ¬ ((m : Int) < 0) := by omega
  have hns : ¬ (m * i.size = 0) := Nat.mul_ne_zero (by omega) (by rw [hz1]; have := K.pos; omega)
  have hm0 : m ≠ 0 := by omega
  have hfo := run_firstCells_some (P := Try.prog) w.drew i.size sLen b sLen sCap olds (by rw [hz1]; exact hlo) (by simpa using holds)
  have hge := grownCap_ge w (sLen + m) sCap K.e
  have hcm : grownCap w (sLen + m) sCap K.e ≤ maxLen := grownCap_le_maxLen w (sLen + m) sCap K.e (by unfold maxLen; omega)
  refine ⟨grownCap w (sLen + m) sCap K.e, (Builtin.zeroCells z.cells m ++ Builtin.zeroCells z.cells (grownCap w (sLen + m) sCap K.e - (sLen + m))).toList, w.drew.alloc (.cells (olds.toArray ++ Builtin.zeroCells z.cells m ++ Builtin.zeroCells z.cells (grownCap w (sLen + m) sCap K.e - (sLen + m))) K.e), ?_, hge, hcm, ?_, ?_, ?_⟩
  · simp [Builtin.append_, run_underlying K.sl, run_underlying htn, sizeOf, typeInfo, zeroValue, hi, hz0, asInt, asIntOf, hw, hn, hneg, hns, hm0, h63', h48', h48i, Question.forced, hfo, newRow, grownCap]
  · simp only [List.length_append, Array.toList_append, Array.length_toList, size_zeroCells, hlo, hz3, ← Nat.add_mul]
    congr 1
    omega
  · have := Blk.new w.drew K.e (olds.toArray ++ Builtin.zeroCells z.cells m ++ Builtin.zeroCells z.cells (grownCap w (sLen + m) sCap K.e - (sLen + m)))
    have e : (olds ++ (Builtin.zeroCells z.cells m ++ Builtin.zeroCells z.cells (grownCap w (sLen + m) sCap K.e - (sLen + m))).toList).toArray = olds.toArray ++ Builtin.zeroCells z.cells m ++ Builtin.zeroCells z.cells (grownCap w (sLen + m) sCap K.e - (sLen + m)) := by
      apply Array.ext'
      simp
    rw [e]
    exact this
  · exact (below_drewN (Below.refl w.heap.size w) 1).alloc (Nat.le_refl _) _
end
end Go.Proofs.Ytgjcomnljonffaa.Tlv
