/- Neighbours that are the same, once: slices.Compact at attributes. -/
import Derived.Test.YtlhbnmaalhainaaSort
import Derived.Lib.SlicesCompact
import Derived.Lib.SliceRun
import Derived.Lib.LazyBuf
import Derived.Shelf.SlicesE.Kit
import Derived.Shelf.SlicesE.Equal
import Derived.Laws.StructEq
import Derived.Deep.LoopGhost
namespace Go.Proofs.Ytlhbnmaalhainaa
open Go.RowKit Go.Lib
set_option linter.unusedVariables false
set_option linter.unusedSimpArgs false

theorem at_eta (x y : At) : decide (x = y) = (decide (x.t = y.t) && decide (x.v = y.v)) := by
  cases x; cases y
  simp [Bool.decide_and]
theorem sx_beq (a b : List UInt8) : ((sx a).toList == (sx b).toList) = decide (a = b) := by
  rw [sx_list, sx_list]
  by_cases h : a = b <;> simp [h]
set_option maxRecDepth 100000 in
theorem eqA : EqlAt Try.prog 29 (fun x : At => .agg x.cells.toArray) (fun x y => decide (x = y)) := by
  refine ⟨fun x y w => ?_, GuardAt.agg _ (by kernel_rfl)⟩
  have u9 := Try.underlying9
  have a9 := Try.isAgg9
  have z9 := Try.sizeOf9
  have hS : Try.prog.underlying 29 = some (.struct (Try.prog.fieldsOf 29)) := by kernel_rfl
  have hp : Try.prog.stoodInHeld 29 = false := by kernel_rfl
  have e1 := sx_beq x.t y.t
  have e2 := sx_beq x.v y.v
  show _ = Result.ok (Value.bool (decide (x = y))) w
  rw [at_eta]
  simp only [At.cells]
  rw [run_eql_struct, show (10000 : Nat) = 9999 + 1 from rfl, run_equalIn_agg w 9999 29 _ _ hS hp]
  simp only [Program.fieldsOf, Try.underlying29]
  go_simp
  by_cases h1 : x.t = y.t <;> by_cases h2 : x.v = y.v <;> simp [h1, h2] at e1 e2 ⊢ <;> simp [e1, e2]

/-- A row of attributes that may be written. -/
def H2 (w : World) (b off : Nat) (d : Array At) : Prop := ∀ j, j < d.size → (w.cell? ⟨b, off + j * 2, none⟩ = some (.string (sx (d[j]!).t)) ∧ w.frozen? ⟨b, off + j * 2, none⟩ = false) ∧
  (w.cell? ⟨b, off + j * 2 + 1, none⟩ = some (.string (sx (d[j]!).v)) ∧ w.frozen? ⟨b, off + j * 2 + 1, none⟩ = false)
theorem h2_set {w : World} {b off : Nat} {d : Array At} (h : H2 w b off d) {k : Nat} (hk : k < d.size) (u : At) :
    H2 ((w.setCell ⟨b, off + k * 2, none⟩ (.string (sx u.t))).setCell ⟨b, off + k * 2 + 1, none⟩ (.string (sx u.v))) b off (d.setIfInBounds k u) := by
  intro j hj
  have hj' : j < d.size := by simpa using hj
  have e : ((w.setCell ⟨b, off + k * 2, none⟩ (.string (sx u.t))).setCell ⟨b, off + k * 2 + 1, none⟩ (.string (sx u.v))) = w.setCells b (off + k * 2) [.string (sx u.t), .string (sx u.v)] := rfl
  rw [e, World.frozen?_setCells, World.frozen?_setCells]
  by_cases hjk : j = k
  · subst hjk
    have hin := World.cell?_setCells_in b [.string (sx u.t), .string (sx u.v)] (off + j * 2) w (fun i hi => by
      have hi2 : i = 0 ∨ i = 1 := by simp at hi; omega
      rcases hi2 with rfl | rfl
      · rw [show off + j * 2 + 0 = off + j * 2 from rfl, (h j hj').1.1]; rfl
      · rw [(h j hj').2.1]; rfl)
    have i0 := hin 0 (by simp)
    have i1 := hin 1 (by simp)
    have eg : (d.setIfInBounds j u)[j]! = u := by simp [hj']
    rw [eg]
    exact ⟨⟨i0, (h j hj').1.2⟩, ⟨i1, (h j hj').2.2⟩⟩
  · have eg : (d.setIfInBounds k u)[j]! = d[j]! := by
      rw [getElem!_pos _ j (by simpa using hj'), getElem!_pos _ j hj', Array.getElem_setIfInBounds_ne _ (Ne.symm hjk)]
    rw [eg, World.cell?_setCells_out b _ _ _ _ (fun _ _ => by simp only [List.length_cons, List.length_nil]; omega), World.cell?_setCells_out b _ _ _ _ (fun _ _ => by simp only [List.length_cons, List.length_nil]; omega)]
    exact h j hj'
theorem below_drew {B : Nat} {a w : World} (h : Below B a w) : Below B a w.drew := ⟨h.os, h.tape, h.output, h.size, h.block⟩
theorem below_set {B : Nat} {a w : World} {b off : Nat} {x y : Value} (hB : B ≤ b) (h : Below B a w) : Below B a ((w.setCell ⟨b, off, none⟩ x).setCell ⟨b, off + 1, none⟩ y) :=
  below_setCells hB [x, y] off w h
theorem run_clear_at (w : World) (b o n c : Nat) (hn : 0 < n) (ty : TypeId)
    (hc : ∀ j, j < n * 2 → (w.cell? ⟨b, o + j, none⟩).isSome = true) (hf : ∀ j, j < n * 2 → w.frozen? ⟨b, o + j, none⟩ = false) :
    (Builtin.clear_ #[22] ty #[.slice (some ⟨b, o, none⟩) n c]).run Try.prog w = .ok (.tuple #[]) (w.setCells b o (List.replicate (n * 2) (.string ⟨#[]⟩))) := by
  have hz : ∀ w, (zeroValue 29).run Try.prog w = .ok (.agg #[.string ⟨#[]⟩, .string ⟨#[]⟩]) w := Try.zeroValue29
  have hzc : (Builtin.zeroCells (Value.agg #[.string ⟨#[]⟩, .string ⟨#[]⟩]).cells n).toList = List.replicate (n * 2) (.string ⟨#[]⟩) := by
    apply List.ext_getElem
    · simp [Builtin.zeroCells, Value.cells]
    · intro i h1 h2
      have : i % 2 = 0 ∨ i % 2 = 1 := by omega
      rcases this with e | e <;> simp [Builtin.zeroCells, Value.cells, e]
  have hst := run_storeCells_cells (P := Try.prog) b o (List.replicate (n * 2) (.string ⟨#[]⟩)) 0 w (by simpa using hc) (by simpa using hf) (by intro v hv'; rw [List.eq_of_mem_replicate hv']; rfl)
  simp only [Nat.add_zero] at hst
  obtain ⟨m, rfl⟩ : ∃ m, n = m + 1 := ⟨n - 1, by omega⟩
  simp [Builtin.clear_, run_underlying Try.underlying22, hz, hzc, hst]

theorem eqv (x y : At) (w : World) : Sem.run Try.prog (binOp .eql 29 (.agg #[.string (sx x.t), .string (sx x.v)]) (.agg #[.string (sx y.t), .string (sx y.v)])) w = .ok (.bool (decide (x = y))) w := eqA.1 x y w
set_option maxRecDepth 100000 in
theorem neqv (x y : At) (w : World) : Sem.run Try.prog (binOp .neq 29 (.agg #[.string (sx x.t), .string (sx x.v)]) (.agg #[.string (sx y.t), .string (sx y.v)])) w = .ok (.bool (!decide (x = y))) w := by
  have u9 := Try.underlying9
  have a9 := Try.isAgg9
  have z9 := Try.sizeOf9
  have hS : Try.prog.underlying 29 = some (.struct (Try.prog.fieldsOf 29)) := by kernel_rfl
  have hp : Try.prog.stoodInHeld 29 = false := by kernel_rfl
  have e1 := sx_beq x.t y.t
  have e2 := sx_beq x.v y.v
  rw [at_eta, run_neq_struct, show (10000 : Nat) = 9999 + 1 from rfl, run_equalIn_agg w 9999 29 _ _ hS hp]
  simp only [Program.fieldsOf, Try.underlying29]
  go_simp
  by_cases h1 : x.t = y.t <;> by_cases h2 : x.v = y.v <;> simp [h1, h2] at e1 e2 ⊢ <;> simp [e1, e2]
theorem grd (op : BinOp) (a b : Operand) (x y : At) (w : World) : Sem.run Try.prog (eqGuard op 29 a b (.agg #[.string (sx x.t), .string (sx x.v)]) (.agg #[.string (sx y.t), .string (sx y.v)])) w = .ok () w := eqA.2 op a b x y w
/-- The world behind, and the row's head. -/
def CompOut (base : Nat) (w : World) (b off : Nat) (l : List At) (w' : World) : Prop := Below base w w' ∧ ∀ j, j < l.length → w'.cell? ⟨b, off + j * 2, none⟩ = some (.string (sx (l.getD j default).t)) ∧ w'.cell? ⟨b, off + j * 2 + 1, none⟩ = some (.string (sx (l.getD j default).v))
theorem compOut_all {base : Nat} {w w' : World} {b off : Nat} {d : Array At} (hb : Below base w w') (h : H2 w' b off d) (hall : ∀ j, j < d.size → keeps d j = true) :
    (compactUpTo d d.size).length = d.size ∧ CompOut base w b off (compactUpTo d d.size) w' := by
  have e : compactUpTo d d.size = d.toList := by rw [compactUpTo_all d _ hall, range_map_get]
  rw [e]
  refine ⟨by simp, hb, fun j hj => ?_⟩
  have hj' : j < d.size := by simpa using hj
  have eg : d.toList.getD j default = d[j]! := by rw [getElem!_pos d j hj']; simp [List.getD_eq_getElem?_getD, hj']
  rw [eg]
  exact ⟨(h j hj').1.1, (h j hj').2.1⟩
set_option maxHeartbeats 8000000 in
set_option maxRecDepth 100000 in
theorem compact_any (base b off cap : Nat) (d : Array At) (w : World) (hH : H2 w b off d) (hb : base ≤ b) (hsz : d.size ≤ 1000000) (hcap : d.size ≤ cap) :
    Calls Try.prog 65 #[.slice (some ⟨b, off, none⟩) d.size cap] w fun e w' => e = .returned (.slice (some ⟨b, off, none⟩) (compactUpTo d d.size).length cap) ∧ CompOut base w b off (compactUpTo d d.size) w' := by
  have HB := Lib.hid hb
  clear hb
  by_cases h2 : d.size < 2
  · have HH := Lib.hid hH
    clear hH
    go_enter Try.func65, Try.ntmps65
    go_wp2
    go_ret
    obtain ⟨e1, e2⟩ := compOut_all (base := base) (Below.refl _ _) HH.out (fun j hj => keeps_lt_one d j (by omega))
    exact ⟨by rw [e1]; rfl, e2⟩
  · go_enter Try.func65, Try.ntmps65
    go_wp2
    go_loopg [3] d.size (fun g s3 wr => ∃ k q : Nat, 1 ≤ k ∧ k ≤ d.size ∧ d.size - k ≤ g ∧ s3 = .int .i64 k ∧ wr = w.drewN q ∧ ∀ j, j < k → keeps d j = true)
    case atStart => exact ⟨1, 0, Nat.le_refl _, by omega, by omega, rfl, rfl, keeps_lt_one d⟩
    case round =>
      obtain ⟨k, q, hk1, hk, hg, rfl, hwr, hall⟩ := hrel
      have hBW : Below base w wr := by rw [hwr]; exact ⟨rfl, rfl, rfl, Nat.le_refl _, fun _ _ => rfl⟩
      have hHw : H2 wr b off d := by rw [hwr]; exact hH
      have HBW := Lib.hid (And.intro hBW hHw)
      have HWR := Lib.hid hwr
      clear hwr hH hBW
      by_cases hlt : k < d.size
      · obtain ⟨⟨c1, f1⟩, ⟨c1', f1'⟩⟩ := hHw k hlt
        obtain ⟨⟨c0, f0⟩, ⟨c0', f0'⟩⟩ := hHw (k - 1) (by omega)
        have A := Lib.hid hall
        clear hall hHw f0 f0' f1 f1'
        have g1 := fun w => eqv (d[k]!) (d[k - 1]!) w
        have g2 := fun op a b' w => grd op a b' (d[k]!) (d[k - 1]!) w
        generalize hx : d[k]! = x at c1 c1' g1 g2
        generalize hy : d[k - 1]! = y at c0 c0' g1 g2
        have B := Lib.hid (And.intro hx hy)
        clear hx hy
        generalize hxy : decide (x = y) = bb at g1
        cases bb with
        | false =>
          have HNE := Lib.hid (of_decide_eq_false hxy)
          clear hxy
          go_wp2_with fail
          go_region
          go_wp2
          go_roundg (d.size - (k + 1))
          case measure => omega
          case rel =>
            refine ⟨k + 1, q + 1, by omega, by omega, Nat.le_refl _, by go_num, by rw [HWR.out]; rfl, fun j hj => ?_⟩
            by_cases e : j = k
            · subst e
              exact keeps_pos (by rw [B.out.1, B.out.2]; exact HNE.out)
            · exact A.out j (by omega)
        | true =>
          have hyx := of_decide_eq_true hxy
          clear hxy
          subst hyx
          go_wp2_with fail
          go_region
          go_wp2
          clear c0 c1 c0' c1' g1 g2
          go_loopg [3, 5] d.size (fun g s3 s5 wr2 => ∃ (kk k2 : Nat) (dk : Array At), s3 = .int .i64 kk ∧ s5 = .int .i64 k2 ∧ 1 ≤ k2 ∧ k + k2 ≤ d.size ∧ d.size - (k + k2) ≤ g ∧ Below base w wr2 ∧ H2 wr2 b off dk ∧ CompInv d (k + k2) kk dk)
          case atStart => exact ⟨k, 1, d, rfl, rfl, Nat.le_refl _, by omega, by omega, below_drew HBW.out.1, HBW.out.2, CompInv.start A.out (keeps_neg (by omega) (by rw [B.out.1, B.out.2]))⟩
          case round =>
            obtain ⟨kk, k2, dk, rfl, rfl, h1, hle, hg2, hbw, hHk, hI⟩ := hrel
            have hkk := hI.lt
            have hds := hI.size
            have HBW2 := Lib.hid hbw
            have HH2 := Lib.hid hHk
            have I2 := Lib.hid hI
            clear hbw
            by_cases hlt2 : k + k2 < d.size
            · obtain ⟨⟨cm, _⟩, ⟨cm', _⟩⟩ := hHk (k + k2) (by omega)
              obtain ⟨⟨cp, _⟩, ⟨cp', _⟩⟩ := hHk (k + k2 - 1) (by omega)
              obtain ⟨⟨ck, fk⟩, ⟨ck', fk'⟩⟩ := hHk kk (by omega)
              rw [hI.high (k + k2) (by omega), show off + (k + k2) * 2 = off + k * 2 + k2 * 2 by omega] at cm cm'
              rw [hI.high (k + k2 - 1) (by omega), show off + (k + k2 - 1) * 2 = off + k * 2 + (k2 - 1) * 2 by omega] at cp cp'
              clear hHk hI
              have g1 := fun w => neqv (d[k + k2]!) (d[k + k2 - 1]!) w
              have g2 := fun op a b' w => grd op a b' (d[k + k2]!) (d[k + k2 - 1]!) w
              generalize hu : d[k + k2]! = u at cm cm' g1 g2
              generalize hv : d[k + k2 - 1]! = v at cp cp' g1 g2
              generalize dk[kk]! = old at ck ck'
              have C := Lib.hid (And.intro hu hv)
              clear hu hv
              generalize huv : decide (u = v) = bb at g1
              have HUV := Lib.hid huv
              clear huv
              cases bb with
              | true =>
                simp only [Bool.not_true] at g1
                go_wp2_with fail
                go_region
                go_wp2
                go_roundg (d.size - (k + (k2 + 1)))
                case measure => omega
                case rel => exact ⟨kk, k2 + 1, dk, rfl, by go_num, by omega, by omega, Nat.le_refl _, below_drew HBW2.out, HH2.out, I2.out.skip (keeps_neg (by omega) (by rw [C.out.1, C.out.2]; exact of_decide_eq_true HUV.out))⟩
              | false =>
                simp only [Bool.not_false] at g1
                go_wp2_with fail
                go_region
                go_wp2
                go_roundg (d.size - (k + (k2 + 1)))
                case measure => omega
                case rel => exact ⟨kk + 1, k2 + 1, dk.setIfInBounds kk u, by go_num, by go_num, by omega, by omega, Nat.le_refl _, below_drew (below_set HB.out HBW2.out), h2_set HH2.out (by omega) u, by have := I2.out.keep hlt2 (keeps_pos (by rw [C.out.1, C.out.2]; exact of_decide_eq_false HUV.out)); rwa [C.out.1] at this⟩
            · have hend : k + k2 = d.size := by omega
              have hcl : ∀ ty, (Builtin.clear_ #[22] ty #[.slice (some ⟨b, off + kk * 2, none⟩) (d.size - kk) (cap - kk)]).run Try.prog wr = .ok (.tuple #[]) (wr.setCells b (off + kk * 2) (List.replicate ((d.size - kk) * 2) (.string ⟨#[]⟩))) :=
                fun ty => run_clear_at wr b (off + kk * 2) (d.size - kk) (cap - kk) (by omega) ty
                  (fun j hj => by
                    have hq : kk + j / 2 < dk.size := by omega
                    have hr : j % 2 = 0 ∨ j % 2 = 1 := by omega
                    rcases hr with hr | hr
                    · rw [show off + kk * 2 + j = off + (kk + j / 2) * 2 by omega, (hHk _ hq).1.1]; rfl
                    · rw [show off + kk * 2 + j = off + (kk + j / 2) * 2 + 1 by omega, (hHk _ hq).2.1]; rfl)
                  (fun j hj => by
                    have hq : kk + j / 2 < dk.size := by omega
                    have hr : j % 2 = 0 ∨ j % 2 = 1 := by omega
                    rcases hr with hr | hr
                    · rw [show off + kk * 2 + j = off + (kk + j / 2) * 2 by omega]; exact (hHk _ hq).1.2
                    · rw [show off + kk * 2 + j = off + (kk + j / 2) * 2 + 1 by omega]; exact (hHk _ hq).2.2)
              clear hHk hI
              go_wp2
              go_ret
              have hI := I2.out
              rw [hend] at hI
              refine ⟨by rw [hI.len]; rfl, below_setCells HB.out _ _ _ HBW2.out, fun j hj => ?_⟩
              rw [hI.len] at hj
              have hlow := hI.low j hj
              have eg : (compactUpTo d d.size).getD j default = dk[j]! := by rw [List.getD_eq_getElem?_getD, hlow]; rfl
              rw [eg, World.cell?_setCells_out b _ _ _ _ (fun _ _ => .inl (by simp only []; omega)), World.cell?_setCells_out b _ _ _ _ (fun _ _ => .inl (by simp only []; omega))]
              exact ⟨(HH2.out j (by omega)).1.1, (HH2.out j (by omega)).2.1⟩
      · have hkd : k = d.size := by omega
        have HA := Lib.hid hall
        clear hHw hall
        go_wp2
        go_ret
        obtain ⟨e1, e2⟩ := compOut_all (base := base) HBW.out.1 HBW.out.2 (fun j hj => HA.out j (by omega))
        exact ⟨by rw [e1]; rfl, e2⟩
set_option maxHeartbeats 1000000 in
theorem compact_empty (a : Option Addr) (cap : Nat) (w : World) : Calls Try.prog 65 #[.slice a 0 cap] w fun e w' => e = .returned (.slice a 0 cap) ∧ w = w' := by
  go_enter Try.func65, Try.ntmps65
  go_wp2
  go_ret
  exact ⟨rfl, rfl⟩
/-- What is kept of a sorted row rises, and is all that it has. -/
theorem compactUpTo_rises (d : Array At) (hs : ∀ i j, i < j → j < d.size → ltA d[j]! d[i]! = false) : ∀ m, m ≤ d.size → Rises (compactUpTo d m) ∧ ∀ y, y ∈ compactUpTo d m ↔ ∃ j, j < m ∧ d[j]! = y
  | 0, _ => ⟨by unfold compactUpTo; exact List.Pairwise.nil, fun y => by simp [compactUpTo]⟩
  | m + 1, hm => by
    obtain ⟨h1, h2⟩ := compactUpTo_rises d hs m (by omega)
    rw [compactUpTo_succ]
    by_cases hk : keeps d m = true
    · rw [if_pos hk]
      refine ⟨List.pairwise_append.2 ⟨h1, List.pairwise_singleton _ _, fun x hx y hy => ?_⟩, fun y => ?_⟩
      · obtain rfl : y = d[m]! := by simpa using hy
        obtain ⟨j, hj, rfl⟩ := (h2 x).1 hx
        have hne : d[m]! ≠ d[m - 1]! := by
          have := of_decide_eq_true hk
          rcases this with h0 | h0
          · omega
          · exact h0
        have hlast : ltA d[m - 1]! d[m]! = true := by
          rcases ltA_tri d[m - 1]! d[m]! with k | k | k
          · exact k
          · exact absurd k.symm hne
          · rw [hs (m - 1) m (by omega) (by omega)] at k; cases k
        by_cases hjm : j = m - 1
        · subst hjm; exact hlast
        · rcases ltA_tri d[j]! d[m - 1]! with k | k | k
          · exact ltA_trans k hlast
          · exact k ▸ hlast
          · rw [hs j (m - 1) (by omega) (by omega)] at k; cases k
      · rw [List.mem_append, h2, List.mem_singleton]
        constructor
        · rintro (⟨j, hj, e⟩ | e)
          · exact ⟨j, by omega, e⟩
          · exact ⟨m, by omega, e.symm⟩
        · rintro ⟨j, hj, e⟩
          by_cases hjm : j = m
          · subst hjm; exact .inr e.symm
          · exact .inl ⟨j, by omega, e⟩
    · have hk' : keeps d m = false := by simpa using hk
      rw [if_neg hk, List.append_nil]
      refine ⟨h1, fun y => ?_⟩
      rw [h2]
      constructor
      · rintro ⟨j, hj, e⟩; exact ⟨j, by omega, e⟩
      · rintro ⟨j, hj, e⟩
        by_cases hjm : j = m
        · subst hjm
          have := of_decide_eq_false hk'
          have h0 : j ≠ 0 := fun h => this (.inl h)
          have he : d[j]! = d[j - 1]! := Classical.byContradiction fun h => this (.inr h)
          exact ⟨j - 1, by omega, by rw [← he]; exact e⟩
        · exact ⟨j, by omega, e⟩
theorem compact_sort {d : Array At} {l : List At} (hp : d.toList.Perm l) (hs : ∀ i j, i < j → j < d.size → ltA d[j]! d[i]! = false) : compactUpTo d d.size = sortA l := by
  obtain ⟨h1, h2⟩ := compactUpTo_rises d hs d.size (Nat.le_refl _)
  refine rises_ext h1 (sort_rises l) fun y => ?_
  rw [h2, mem_sort, ← hp.mem_iff, Array.mem_toList_iff, Array.mem_iff_getElem]
  constructor
  · rintro ⟨j, hj, e⟩; exact ⟨j, hj, by rw [← e, getElem!_pos d j hj]⟩
  · rintro ⟨j, hj, e⟩; exact ⟨j, hj, by rw [getElem!_pos d j hj]; exact e⟩
end Go.Proofs.Ytlhbnmaalhainaa
