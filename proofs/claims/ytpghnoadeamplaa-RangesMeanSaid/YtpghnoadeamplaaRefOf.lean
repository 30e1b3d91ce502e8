/- The reference's Of. -/
import Derived.Test.YtpghnoadeamplaaShift2
import Derived.StillTailTactics
namespace Go.Proofs.Ytpghnoadeamplaa
open Go.RowKit
set_option linter.unusedVariables false
set_option linter.unusedSimpArgs false

def RefRes (l : List Rg) (w : World) (v : Value) (n : Int) (w' : World) : Prop :=
  Below w.heap.size w w' ∧ ((l.all goodB = false ∧ n = 2) ∨ (l.all goodB = true ∧ ¬ Apart l ∧ n = 9) ∨ (l.all goodB = true ∧ Apart l ∧ n = 0 ∧ RowR w' w.heap.size v (ofL l)))
def RefEnd (l : List Rg) (w : World) (e : Ending) (w' : World) : Prop := ∃ v n, e = .returned (.tuple #[v, .int .i64 n]) ∧ RefRes l w v n w'

/-- The facts of a range's cells, in a world behind. -/
theorem rd_cells {w w' : World} {A : Option Addr} {l : List Rg} {n k : Nat} (h : RdR w n A l) (hb : Below n w w') (hk : k < l.length) :
    ∃ b off, A = some ⟨b, off, none⟩ ∧ b < n ∧ w'.cell? ⟨b, off + k * 3, none⟩ = some (.int .i32 (l.getD k default).lo) ∧ w'.cell? ⟨b, off + k * 3 + 1, none⟩ = some (.int .i32 (l.getD k default).hi) ∧ w'.cell? ⟨b, off + k * 3 + 2, none⟩ = some (.int .i64 (l.getD k default).val) := by
  obtain ⟨b, off, e, hbl, hc⟩ := h (by omega)
  have h2 := hc k hk
  exact ⟨b, off, e, hbl, (hb.cell (p := ⟨b, off + k * 3, none⟩) hbl).trans (h2 0 _ rfl), (hb.cell (p := ⟨b, off + k * 3 + 1, none⟩) hbl).trans (h2 1 _ rfl), (hb.cell (p := ⟨b, off + k * 3 + 2, none⟩) hbl).trans (h2 2 _ rfl)⟩

theorem not_apart {l : List Rg} {i j : Nat} (hj : j < i) (hi : i < l.length) (h : ¬ Off (l.getD j default) (l.getD i default)) : ¬ Apart l := fun ha => by
  have := List.pairwise_iff_getElem.1 ha j i (by omega) hi hj
  rw [List.getD_eq_getElem?_getD, List.getD_eq_getElem?_getD, List.getElem?_eq_getElem hi, List.getElem?_eq_getElem (show j < l.length by omega)] at h
  exact h this
theorem is_apart {l : List Rg} (h : ∀ i, i < l.length → ∀ j, j < i → Off (l.getD j default) (l.getD i default)) : Apart l := by
  refine List.pairwise_iff_getElem.2 fun j i hj hi hij => ?_
  have := h i hi j hij
  rwa [List.getD_eq_getElem?_getD, List.getD_eq_getElem?_getD, List.getElem?_eq_getElem hi, List.getElem?_eq_getElem hj] at this

theorem RowR.less {w : World} {base base' : Nat} {v : Value} {l : List Rg} (h : RowR w base v l) (hb : base' ≤ base) : RowR w base' v l := by
  refine ⟨h.1, ?_⟩
  rcases h.2 with h1 | ⟨g, c, cur, e1, e2, e3⟩
  · exact .inl h1
  · exact .inr ⟨g, c, cur, e1, Nat.le_trans hb e2, e3⟩

set_option maxHeartbeats 8000000 in
set_option maxRecDepth 100000 in
theorem refOf_any (A : Option Addr) (c : Nat) (l : List Rg) (w : World) (hr : RdR w w.heap.size A l) (hl : l.length ≤ 1000000) (h32 : In32 l) :
    Calls Try.prog 9 #[.slice A l.length c] w fun e w' => RefEnd l w e w' := by
  go_enter Try.func9, Try.ntmps9
  go_wp2
  go_loopw [4] (fun i wr => ∃ k : Nat, i = .int .i64 k ∧ k ≤ l.length ∧ Hid (∀ j, j < k → goodB (l.getD j default) = true) ∧ Below w.heap.size w wr) (fun i _ => l.length - (intOf i).toNat)
  case atStart => exact ⟨0, rfl, Nat.zero_le _, Lib.hid fun j h => by omega, Below.refl _ _⟩
  case round =>
    obtain ⟨k, rfl, hk, Hg, hb⟩ := hrel
    by_cases hlt : k < l.length
    · obtain ⟨b, off, rfl, hbl, c0, c1, c2⟩ := rd_cells hr hb hlt
      have hbad : goodB (l.getD k default) = false → Hid (l.all goodB = false) := fun h => Lib.hid (not_good hlt h)
      have hgood : goodB (l.getD k default) = true → Hid (∀ j, j < k + 1 → goodB (l.getD j default) = true) := fun h => Lib.hid fun j hj => by
        rcases Nat.lt_or_ge j k with h' | h'
        · exact Hg.out j h'
        · have : j = k := by omega
          subst this; exact h
      clear hr h32
      generalize l.getD k default = x at *
      by_cases h1 : x.lo < 0
      · have Hb := hbad (by simp [goodB, h1])
        have d1 : decide (x.lo < 0) = true := by simp [h1]
        clear hbad hgood
        go_wp2
        go_quiet (fail)
        go_wp2
        go_ret2
        exact ⟨_, _, rfl, below_drewN hb _, .inl ⟨Hb.out, rfl⟩⟩
      · have d1 : decide (x.lo < 0) = false := by simp; omega
        by_cases h2 : x.hi < x.lo
        · have Hb := hbad (by simp [goodB, h2])
          clear hbad hgood
          go_wp2
          go_quiet (fail)
          go_wp2
          go_ret2
          exact ⟨_, _, rfl, below_drewN hb _, .inl ⟨Hb.out, rfl⟩⟩
        · have Hb := hgood (by simp only [goodB, h1, h2]; rfl)
          clear hbad hgood
          go_wp2
          go_quiet (fail)
          go_wp2
          go_roundw
          case rel => exact ⟨k + 1, by go_num, by omega, Hb, below_drewN hb _⟩
          case measure => simp [intOf]; omega
    · have hkl : k = l.length := by omega
      subst hkl
      have Hgood := Lib.hid (all_good Hg.out)
      have hok : ∀ j, j < l.length → Hid (Ok (l.getD j default)) := fun j hj => Lib.hid ((goodB_iff _).1 (Hg.out j hj))
      go_wp2
      clear Hg
      go_loopw [5] (fun i wr => ∃ k : Nat, i = .int .i64 k ∧ k ≤ l.length ∧ Hid (∀ i, i < k → ∀ j, j < i → Off (l.getD j default) (l.getD i default)) ∧ Below w.heap.size w wr) (fun i _ => l.length - (intOf i).toNat)
      case atStart => exact ⟨0, rfl, Nat.zero_le _, Lib.hid fun j h => by omega, hb⟩
      case round =>
        clear hb
        obtain ⟨k, rfl, hk, Ha, hb⟩ := hrel
        by_cases hlt : k < l.length
        · obtain ⟨wo, hwo⟩ : ∃ wo : World, wo = wr := ⟨_, rfl⟩
          subst hwo
          go_wp2
          go_loopw [6] (fun j wr => ∃ q : Nat, j = .int .i64 q ∧ q ≤ k ∧ Hid (∀ j, j < q → Off (l.getD j default) (l.getD k default)) ∧ Below w.heap.size w wr) (fun j _ => k - (intOf j).toNat)
          case atStart => exact ⟨0, rfl, Nat.zero_le _, Lib.hid fun j h => by omega, hb⟩
          case round =>
            clear hb
            obtain ⟨q, rfl, hq, Hq, hb⟩ := hrel
            by_cases hqk : q < k
            · obtain ⟨b, off, rfl, hbl, c0, c1, c2⟩ := rd_cells hr hb hlt
              obtain ⟨b', off', e', _, y0, y1, y2⟩ := rd_cells hr hb (show q < l.length by omega)
              injection e' with e'
              injection e' with e1 e2
              subst e1
              subst e2
              have hbad : ¬ Off (l.getD q default) (l.getD k default) → Hid (¬ Apart l) := fun h => Lib.hid (not_apart hqk hlt h)
              have hgood : Off (l.getD q default) (l.getD k default) → Hid (∀ j, j < q + 1 → Off (l.getD j default) (l.getD k default)) := fun h => Lib.hid fun j hj => by
                rcases Nat.lt_or_ge j q with h' | h'
                · exact Hq.out j h'
                · have : j = q := by omega
                  subst this; exact h
              have Hok := hok k hlt
              clear hr h32 hok
              generalize l.getD k default = x at *
              generalize l.getD q default = y at *
              by_cases h1 : x.lo ≤ y.hi
              · have d1 : decide (x.lo ≤ y.hi) = true := by simp [h1]
                by_cases h2 : y.lo ≤ x.hi
                · have Hb := hbad (by unfold Off; omega)
                  clear hbad hgood
                  go_wp2
                  go_quiet (fail)
                  go_wp2
                  go_ret2
                  exact ⟨_, _, rfl, below_drewN hb _, .inr (.inl ⟨Hgood.out, Hb.out, rfl⟩)⟩
                · have Hb := hgood (by unfold Off; omega)
                  clear hbad hgood
                  go_wp2
                  go_quiet (fail)
                  go_wp2
                  go_roundw
                  case rel => exact ⟨q + 1, by go_num, by omega, Hb, below_drewN hb _⟩
                  case measure => simp [intOf]; omega
              · have d1 : decide (x.lo ≤ y.hi) = false := by simp; omega
                have Hb := hgood (by unfold Off; omega)
                clear hbad hgood
                go_wp2
                go_quiet (fail)
                go_wp2
                go_roundw
                case rel => exact ⟨q + 1, by go_num, by omega, Hb, below_drewN hb _⟩
                case measure => simp [intOf]; omega
            · have hkq : q = k := by omega
              subst hkq
              go_wp2
              go_roundw
              case rel => exact ⟨q + 1, by go_num, by omega, Lib.hid fun i hi j hj => by
                rcases Nat.lt_or_ge i q with h' | h'
                · exact Ha.out i h' j hj
                · have : i = q := by omega
                  subst this; exact Hq.out j hj, hb⟩
              case measure => simp [intOf]; omega
        · have hkl : k = l.length := by omega
          subst hkl
          have Hap := Lib.hid (is_apart Ha.out)
          clear Ha
          go_wp2
          go_loopw [7, 8] (fun o i wr => ∃ (k : Nat) (A1 : Option Addr) (c1 : Nat), o = .slice A1 k c1 ∧ i = .int .i64 k ∧ k ≤ l.length ∧ Hid (RowR wr w.heap.size (.slice A1 k c1) ((l.take k).foldl ins [])) ∧ Below w.heap.size w wr) (fun _ i _ => l.length - (intOf i).toNat)
          case atStart => exact ⟨0, none, 0, rfl, rfl, Nat.zero_le _, Lib.hid (World.ownsRow_nil _ _ _ _), hb⟩
          case round =>
            clear hb
            obtain ⟨k, A1, c1, rfl, rfl, hk, Hrow, hb⟩ := hrel
            have HL := Lib.hid (insK_length hk)
            by_cases hlt : k < l.length
            · obtain ⟨wo, hwo⟩ : ∃ wo : World, wo = wr := ⟨_, rfl⟩
              subst hwo
              have HN := Lib.hid (insK_next hlt)
              generalize (l.take k).foldl ins [] = m at *
              have HL2 := HL.out
              subst HL2
              clear HL
              have HRm := Lib.hid (Hrow.out.rdS)
              obtain ⟨b, off, rfl, hbl, x0, x1, x2⟩ := rd_cells hr hb hlt
              generalize l.getD m.length default = x at *
              go_wp2
              go_loopw [9] (fun j wr => ∃ q d : Nat, j = .int .i64 q ∧ q ≤ m.length ∧ Hid (∀ j, j < q → (m.getD j default).lo < x.lo) ∧ wr = wo.drewN d) (fun j _ => m.length - (intOf j).toNat)
              case atStart => exact ⟨0, 0, rfl, Nat.zero_le _, Lib.hid fun j h => by omega, rfl⟩
              case round =>
                obtain ⟨q, d, rfl, hq, Hq, rfl⟩ := hrel
                by_cases hgo : q < m.length ∧ (m.getD q default).lo < x.lo
                · obtain ⟨hg1, hg2⟩ := hgo
                  obtain ⟨b1, off1, rfl, hbl1, y0, y1, y2⟩ := rd_cells HRm.out (Below.refl _ _) hg1
                  have hq2 : Hid (∀ j, j < q + 1 → (m.getD j default).lo < x.lo) := Lib.hid fun j hj => by
                    rcases Nat.lt_or_ge j q with h' | h'
                    · exact Hq.out j h'
                    · have : j = q := by omega
                      subst this; exact hg2
                  have d1 : decide (q < m.length) = true := by simp; omega
                  clear hr h32 hok
                  generalize m.getD q default = y at *
                  go_wp2
                  go_quiet (fail)
                  go_wp2
                  go_roundw
                  case rel => exact ⟨q + 1, _, by go_num, by omega, hq2, rfl⟩
                  case measure => simp [intOf]; omega
                · have HI : Hid (ins m x = m.take q ++ x :: m.drop q) := Lib.hid (ins_at hq Hq.out (fun h h' => hgo ⟨h, h'⟩))
                  have HS := fun z => shift_ins (m := m) (x := x) (z := z) (q := q) hq
                  have HS' := Lib.hid HS
                  have hbz := hb.size
                  have hlen1 : m.length + 1 ≤ 1000000000000 := by omega
                  clear hr h32 hok HS
                  by_cases hqk : q < m.length
                  · obtain ⟨b1, off1, rfl, hbl1, y0, y1, y2⟩ := rd_cells HRm.out (Below.refl _ _) hqk
                    have hy : ¬ (m.getD q default).lo < x.lo := fun h => hgo ⟨hqk, h⟩
                    have d1 : decide (q < m.length) = true := by simp; omega
                    clear hgo
                    generalize m.getD q default = y at *
                    go_wp2
                    go_quiet (fail)
                    go_wp2_with (at_builtin; refine wpList_oneR rfl _ _ rfl ⟨0, 0, 0⟩ rfl ((Hrow.out.drewN _).alloc _) rfl (Blk.new _ _ _) hlen1 (le_alloc hbz) ?_; intro g1 c2 w3 hrow3 hgr hat)
                    have hbe := (below_drewN (Below.refl w.heap.size wo) (d + nq)).alloc (by simpa using hbz) (.cells #[.int .i32 0, .int .i32 0, .int .i64 0] 24)
                    have hb3 : Below w.heap.size wo w3 := hbe.grown hgr (by simp; omega) (fun kk hk => (World.ownsRow.lt Hrow.out kk hk).1)
                    have hz3 := hb3.size
                    have hbs : w.heap.size ≤ w3.heap.size := by omega
                    have Hrow3 := Lib.hid hrow3
                    have hcap : m.length + 1 ≤ c2 := by
                      rcases hrow3.form with ⟨h2, _⟩ | ⟨g', c', cur, he, h1, _⟩
                      · cases h2
                      · injection he with _ _ e3
                        subst e3
                        simpa using h1
                    have hle1 : m.length + 1 = (m ++ [(⟨0, 0, 0⟩ : Rg)]).length := by simp
                    have hle2 : m.length - q = (m ++ [(⟨0, 0, 0⟩ : Rg)]).length - (q + 1) := by simp
                    have hle3 : m.length + 1 - q = (m ++ [(⟨0, 0, 0⟩ : Rg)]).length - q := by simp
                    have hle4 : q < (m ++ [(⟨0, 0, 0⟩ : Rg)]).length := by simp; omega
                    have HE := Lib.hid (And.intro hle1 (And.intro hle2 (And.intro hle3 hle4)))
                    have hbB : Below w.heap.size w w3 := hb.trans hb3
                    obtain ⟨x0', x1', x2'⟩ : w3.cell? ⟨b, off + m.length * 3, none⟩ = some (.int .i32 x.lo) ∧ w3.cell? ⟨b, off + m.length * 3 + 1, none⟩ = some (.int .i32 x.hi) ∧ w3.cell? ⟨b, off + m.length * 3 + 2, none⟩ = some (.int .i64 x.val) :=
                      ⟨(hb3.cell (p := ⟨b, off + m.length * 3, none⟩) hbl).trans x0, (hb3.cell (p := ⟨b, off + m.length * 3 + 1, none⟩) hbl).trans x1, (hb3.cell (p := ⟨b, off + m.length * 3 + 2, none⟩) hbl).trans x2⟩
                    clear hle1 hle2 hle3 hle4 hrow3 hb hbe
                    have hq1 : (q : Int) + 1 ≤ (m.length : Int) + 1 := by omega
                    have hcq2 : ¬ c2 = q := by omega
                    have hw2 : (0 : Int) ≤ (q : Int) + 1 := by omega
                    have hw3 : (q : Int) ≤ (m.length : Int) := by omega
                    have hw4 : ((q : Int) + 1).toNat = q + 1 := by omega
                    have hw5 : (0 : Int) ≤ (q : Int) := by omega
                    have hw6 : (q : Int) ≤ (m.length : Int) + 1 := by omega
                    have hw1 : IntKind.i64.wrap ((q : Int) + 1) = (q : Int) + 1 := IntWalk.i64_in _ (by omega)
                    have hcq : ¬ c2 = q + 1 := by clear hw1; omega
                    go_wp2
                    go_still_tail 7, (by kernel_rfl)
                    change wpList _ _ _ _ _ w3.drew
                    go_wp2_with (refine wpList_shift (g := g1) (l := m ++ [(⟨0, 0, 0⟩ : Rg)]) rfl _ _ rfl q _ _ _ _ _ _ rfl rfl Hrow3.out.drew HE.out.1 HE.out.2.1 HE.out.2.2.1 hbs HE.out.2.2.2 (fun h => rfl) ?_; intro w5 hrow5 hb5; have hl5 := len_shift m ⟨0, 0, 0⟩ q hq; obtain ⟨y5, z0, z1, z2, f0, f1, f2, hg1, hg2⟩ := row_cells (j := q) hrow5 (by clear hw1; rw [hl5]; omega); have u0 := (hb5.cell (p := ⟨b, off + m.length * 3, none⟩) hbl).trans x0'; have u1 := (hb5.cell (p := ⟨b, off + m.length * 3 + 1, none⟩) hbl).trans x1'; have u2 := (hb5.cell (p := ⟨b, off + m.length * 3 + 2, none⟩) hbl).trans x2'; have Hl5 := Lib.hid hl5; have Hrow5 := Lib.hid hrow5; clear hl5 hrow5)
                    clear hw1
                    go_roundw
                    case rel =>
                      refine ⟨m.length + 1, some ⟨g1, 0, none⟩, c2, by first | rfl | rw [hcq], by go_num, by omega, Lib.hid ?_, ?_⟩
                      · rw [HN.out, HI.out, ← HS'.out ⟨0, 0, 0⟩]
                        exact row_set' x Hrow5.out (by rw [Hl5.out]) (by rw [Hl5.out]; omega)
                      · exact (((hbB.drew.trans hb5).setCell (p := ⟨g1, q * 3, none⟩) hg1 _).setCell (p := ⟨g1, q * 3 + 1, none⟩) hg1 _).setCell (p := ⟨g1, q * 3 + 2, none⟩) hg1 _
                    case measure => simp [intOf]; omega
                  · have d1 : decide (q < m.length) = false := by simp; omega
                    clear hgo
                    go_wp2
                    go_quiet (fail)
                    go_wp2_with (at_builtin; refine wpList_oneR rfl _ _ rfl ⟨0, 0, 0⟩ rfl ((Hrow.out.drewN _).alloc _) rfl (Blk.new _ _ _) hlen1 (le_alloc hbz) ?_; intro g1 c2 w3 hrow3 hgr hat)
                    have hbe := (below_drewN (Below.refl w.heap.size wo) (d + nq)).alloc (by simpa using hbz) (.cells #[.int .i32 0, .int .i32 0, .int .i64 0] 24)
                    have hb3 : Below w.heap.size wo w3 := hbe.grown hgr (by simp; omega) (fun kk hk => (World.ownsRow.lt Hrow.out kk hk).1)
                    have hz3 := hb3.size
                    have hbs : w.heap.size ≤ w3.heap.size := by omega
                    have Hrow3 := Lib.hid hrow3
                    have hcap : m.length + 1 ≤ c2 := by
                      rcases hrow3.form with ⟨h2, _⟩ | ⟨g', c', cur, he, h1, _⟩
                      · cases h2
                      · injection he with _ _ e3
                        subst e3
                        simpa using h1
                    have hle1 : m.length + 1 = (m ++ [(⟨0, 0, 0⟩ : Rg)]).length := by simp
                    have hle2 : m.length - q = (m ++ [(⟨0, 0, 0⟩ : Rg)]).length - (q + 1) := by simp
                    have hle3 : m.length + 1 - q = (m ++ [(⟨0, 0, 0⟩ : Rg)]).length - q := by simp
                    have hle4 : q < (m ++ [(⟨0, 0, 0⟩ : Rg)]).length := by simp; omega
                    have HE := Lib.hid (And.intro hle1 (And.intro hle2 (And.intro hle3 hle4)))
                    have hbB : Below w.heap.size w w3 := hb.trans hb3
                    obtain ⟨x0', x1', x2'⟩ : w3.cell? ⟨b, off + m.length * 3, none⟩ = some (.int .i32 x.lo) ∧ w3.cell? ⟨b, off + m.length * 3 + 1, none⟩ = some (.int .i32 x.hi) ∧ w3.cell? ⟨b, off + m.length * 3 + 2, none⟩ = some (.int .i64 x.val) :=
                      ⟨(hb3.cell (p := ⟨b, off + m.length * 3, none⟩) hbl).trans x0, (hb3.cell (p := ⟨b, off + m.length * 3 + 1, none⟩) hbl).trans x1, (hb3.cell (p := ⟨b, off + m.length * 3 + 2, none⟩) hbl).trans x2⟩
                    clear hle1 hle2 hle3 hle4 hrow3 hb hbe
                    have hq1 : (q : Int) + 1 ≤ (m.length : Int) + 1 := by omega
                    have hcq2 : ¬ c2 = q := by omega
                    have hw2 : (0 : Int) ≤ (q : Int) + 1 := by omega
                    have hw3 : (q : Int) ≤ (m.length : Int) := by omega
                    have hw4 : ((q : Int) + 1).toNat = q + 1 := by omega
                    have hw5 : (0 : Int) ≤ (q : Int) := by omega
                    have hw6 : (q : Int) ≤ (m.length : Int) + 1 := by omega
                    have hw1 : IntKind.i64.wrap ((q : Int) + 1) = (q : Int) + 1 := IntWalk.i64_in _ (by omega)
                    by_cases hcq : c2 = q + 1
                    · have Hno : Hid (¬ (q + 1 < (m ++ [(⟨0, 0, 0⟩ : Rg)]).length)) := Lib.hid (by clear hw1; simp; omega)
                      go_wp2
                      go_still_tail 7, (by kernel_rfl)
                      change wpList _ _ _ _ _ w3.drew
                      go_wp2_with (refine wpList_shift (g := g1) (l := m ++ [(⟨0, 0, 0⟩ : Rg)]) rfl _ _ rfl q _ _ _ _ _ _ rfl rfl Hrow3.out.drew HE.out.1 HE.out.2.1 HE.out.2.2.1 hbs HE.out.2.2.2 (fun h => absurd h Hno.out) ?_; intro w5 hrow5 hb5; have hl5 := len_shift m ⟨0, 0, 0⟩ q hq; obtain ⟨y5, z0, z1, z2, f0, f1, f2, hg1, hg2⟩ := row_cells (j := q) hrow5 (by clear hw1; rw [hl5]; omega); have u0 := (hb5.cell (p := ⟨b, off + m.length * 3, none⟩) hbl).trans x0'; have u1 := (hb5.cell (p := ⟨b, off + m.length * 3 + 1, none⟩) hbl).trans x1'; have u2 := (hb5.cell (p := ⟨b, off + m.length * 3 + 2, none⟩) hbl).trans x2'; have Hl5 := Lib.hid hl5; have Hrow5 := Lib.hid hrow5; clear hl5 hrow5)
                      clear hw1
                      go_roundw
                      case rel =>
                        refine ⟨m.length + 1, some ⟨g1, 0, none⟩, c2, by first | rfl | rw [hcq], by go_num, by omega, Lib.hid ?_, ?_⟩
                        · rw [HN.out, HI.out, ← HS'.out ⟨0, 0, 0⟩]
                          exact row_set' x Hrow5.out (by rw [Hl5.out]) (by rw [Hl5.out]; omega)
                        · exact (((hbB.drew.trans hb5).setCell (p := ⟨g1, q * 3, none⟩) hg1 _).setCell (p := ⟨g1, q * 3 + 1, none⟩) hg1 _).setCell (p := ⟨g1, q * 3 + 2, none⟩) hg1 _
                      case measure => simp [intOf]; omega
                    · have hcq' : (c2 = q + 1) = False := by simp [hcq]
                      go_wp2
                      go_still_tail 7, (by kernel_rfl)
                      change wpList _ _ _ _ _ w3.drew
                      go_wp2_with (refine wpList_shift (g := g1) (l := m ++ [(⟨0, 0, 0⟩ : Rg)]) rfl _ _ rfl q _ _ _ _ _ _ rfl rfl Hrow3.out.drew HE.out.1 HE.out.2.1 HE.out.2.2.1 hbs HE.out.2.2.2 (fun h => rfl) ?_; intro w5 hrow5 hb5; have hl5 := len_shift m ⟨0, 0, 0⟩ q hq; obtain ⟨y5, z0, z1, z2, f0, f1, f2, hg1, hg2⟩ := row_cells (j := q) hrow5 (by clear hw1; rw [hl5]; omega); have u0 := (hb5.cell (p := ⟨b, off + m.length * 3, none⟩) hbl).trans x0'; have u1 := (hb5.cell (p := ⟨b, off + m.length * 3 + 1, none⟩) hbl).trans x1'; have u2 := (hb5.cell (p := ⟨b, off + m.length * 3 + 2, none⟩) hbl).trans x2'; have Hl5 := Lib.hid hl5; have Hrow5 := Lib.hid hrow5; clear hl5 hrow5)
                      clear hw1
                      go_roundw
                      case rel =>
                        refine ⟨m.length + 1, some ⟨g1, 0, none⟩, c2, by first | rfl | rw [hcq], by go_num, by omega, Lib.hid ?_, ?_⟩
                        · rw [HN.out, HI.out, ← HS'.out ⟨0, 0, 0⟩]
                          exact row_set' x Hrow5.out (by rw [Hl5.out]) (by rw [Hl5.out]; omega)
                        · exact (((hbB.drew.trans hb5).setCell (p := ⟨g1, q * 3, none⟩) hg1 _).setCell (p := ⟨g1, q * 3 + 1, none⟩) hg1 _).setCell (p := ⟨g1, q * 3 + 2, none⟩) hg1 _
                      case measure => simp [intOf]; omega
            · have hkl : k = l.length := by omega
              subst hkl
              have hS : (l.take l.length).foldl ins [] = srt l := by rw [List.take_length]; rfl
              rw [hS] at Hrow HL
              have hokS : ∀ j, j < (srt l).length → Hid (0 ≤ ((srt l).getD j default).lo ∧ ((srt l).getD j default).lo ≤ 2147483647) := fun j hj => Lib.hid (by
                have hm : (srt l).getD j default ∈ l := (srt_perm l).mem_iff.1 (getD_mem hj)
                obtain ⟨i, hi, he⟩ := List.getElem_of_mem hm
                have h3 := h32 i hi
                have h4 := (hok i hi).out
                rw [List.getD_eq_getElem?_getD, List.getElem?_eq_getElem hi] at h3 h4
                simp only [Option.getD_some, he] at h3 h4
                exact ⟨h4.1, h3.1⟩)
              have Hof : Hid (joinF [] (srt l) = ofL l) := Lib.hid rfl
              generalize srt l = S at *
              have HRS := Lib.hid (Hrow.out.rdS)
              have Hlen := Lib.hid HL.out
              have hSl : S.length ≤ 1000000 := by have := HL.out; omega
              clear hS hr h32 hok HL
              obtain ⟨wo, hwo⟩ : ∃ wo : World, wo = wr := ⟨_, rfl⟩
              subst hwo
              go_wp2
              go_loopw [10, 11] (fun o i wr => ∃ (k n2 : Nat) (A2 : Option Addr) (c2 : Nat), o = .slice A2 n2 c2 ∧ i = .int .i64 k ∧ k ≤ l.length ∧ n2 ≤ k ∧ Hid (n2 = (joinF [] (S.take k)).length) ∧ Hid (RowR wr wo.heap.size (.slice A2 n2 c2) (joinF [] (S.take k))) ∧ Below wo.heap.size wo wr) (fun _ i _ => l.length - (intOf i).toNat)
              case atStart => exact ⟨0, 0, none, 0, rfl, rfl, Nat.zero_le _, Nat.le_refl _, Lib.hid rfl, Lib.hid (World.ownsRow_nil _ _ _ _), Below.refl _ _⟩
              case round =>
                obtain ⟨k, n2, A2, c2, rfl, rfl, hk, hnk, Hn2, Hrow2, hb2⟩ := hrel
                have hbz := hb2.size
                by_cases hlt : k < l.length
                · have hltS : k < S.length := by rw [Hlen.out]; exact hlt
                  obtain ⟨b, off, rfl, hbl, x0, x1, x2⟩ := rd_cells HRS.out hb2 hltS
                  have hox := (hokS k hltS).out
                  have HN : Hid (joinF [] (S.take (k + 1)) = joinOne (joinF [] (S.take k)) (S.getD k default)) := Lib.hid (by
                    rw [List.take_add_one, List.getElem?_eq_getElem hltS]; unfold joinF; rw [List.foldl_append]; simp [List.getD_eq_getElem?_getD, List.getElem?_eq_getElem hltS])
                  clear hokS
                  generalize S.getD k default = x at *
                  generalize hJ : joinF [] (S.take k) = J at *
                  clear hJ
                  obtain ⟨o1, o2⟩ := hox
                  have hlenJ : J.length + 1 ≤ 1000000000000 := by rw [← Hn2.out]; omega
                  rcases List.eq_nil_or_concat J with rfl | ⟨t, y, rfl⟩
                  · have hn0 : n2 = 0 := Hn2.out
                    subst hn0
                    have HJ : Hid (joinOne [] x = [x]) := Lib.hid rfl
                    go_wp2
                    go_quiet (fail)
                    go_wp2_with (at_builtin; refine wpList_oneR rfl _ _ rfl x rfl ((Hrow2.out.drewN _).alloc _) rfl (Blk.new _ _ _) hlenJ (le_alloc hbz) ?_; intro g1 c3 w3 hrow3 hgr hat; have Hrow3 := Lib.hid hrow3; clear hrow3)
                    go_roundw
                    case rel =>
                      refine ⟨k + 1, 1, some ⟨g1, 0, none⟩, c3, rfl, by go_num, by omega, by omega, Lib.hid (by rw [HN.out, HJ.out]; rfl), Lib.hid (by rw [HN.out, HJ.out]; exact Hrow3.out), ?_⟩
                      exact ((below_drewN hb2 _).alloc hbz _).grown hgr (le_alloc hbz) (fun kk hk => (World.ownsRow.lt Hrow2.out kk hk).1)
                    case measure => simp [intOf]; omega
                  · rw [List.concat_eq_append] at *
                    have hln : (t ++ [y]).length = t.length + 1 := by simp
                    have hn2 : n2 = t.length + 1 := by rw [Hn2.out, hln]
                    subst hn2
                    obtain ⟨r, cc, cur, he, hcc, hbr, hcur, _, _, e0, e1, e2⟩ := last_cells Hrow2.out
                    injection he with he1 _ he3
                    subst he1
                    subst he3
                    have HJ := Lib.hid (joinOne_snoc t y x)
                    have hf : wr.frozen? ⟨r, t.length * 3 + 1, none⟩ = false := hcur.frozen _
                    have hrs := hcur.lt
                    have d1 : decide (0 < t.length + 1) = true := by simp
                    have d2 : decide ((0 : Int) < (t.length : Int) + 1) = true := by simp <;> omega
                    clear hcur hln
                    by_cases hj1 : y.hi = x.lo - 1
                    · have g1 : (y.hi == x.lo - 1) = true := by simp [hj1]
                      by_cases hj2 : y.val = x.val
                      · have g2 : (y.val == x.val) = true := by simp [hj2]
                        have HJ2 : Hid (joinOne (t ++ [y]) x = t ++ [⟨y.lo, x.hi, y.val⟩]) := Lib.hid (by rw [HJ.out, if_pos ⟨hj1.symm, hj2.symm⟩])
                        clear hj1 hj2 HJ
                        go_wp2
                        go_quiet (fail)
                        go_wp2
                        go_roundw
                        case rel =>
                          refine ⟨k + 1, t.length + 1, some ⟨r, 0, none⟩, c2, rfl, by go_num, by omega, by omega, Lib.hid (by rw [HN.out, HJ2.out]; simp), Lib.hid (by rw [HN.out, HJ2.out]; exact row_last (cur := #[]) x.hi (Hrow2.out.drewN _)), ?_⟩
                          exact (below_drewN hb2 _).setCell (p := ⟨r, t.length * 3 + 1, none⟩) hbr _
                        case measure => simp [intOf]; omega
                      · have g2 : (y.val == x.val) = false := by simp [hj2]
                        have HJ2 : Hid (joinOne (t ++ [y]) x = t ++ [y] ++ [x]) := Lib.hid (by rw [HJ.out, if_neg (fun h => hj2 h.2.symm)])
                        clear hj1 hj2 HJ
                        go_wp2
                        go_quiet (fail)
                        go_wp2_with (at_builtin; refine wpList_oneR rfl _ _ rfl x rfl ((Hrow2.out.drewN _).alloc _) rfl (Blk.new _ _ _) hlenJ (le_alloc hbz) ?_; intro g1 c3 w3 hrow3 hgr hat; have Hrow3 := Lib.hid hrow3; clear hrow3)
                        go_roundw
                        case rel =>
                          refine ⟨k + 1, t.length + 1 + 1, some ⟨_, 0, none⟩, c3, rfl, by go_num, by omega, by omega, Lib.hid (by rw [HN.out, HJ2.out]; simp), Lib.hid (by rw [HN.out, HJ2.out]; have h := Hrow3.out; rw [List.length_append] at h; exact h), ?_⟩
                          exact ((below_drewN hb2 _).alloc hbz _).grown hgr (le_alloc hbz) (fun kk hk => (World.ownsRow.lt Hrow2.out kk hk).1)
                        case measure => simp [intOf]; omega
                    · have g1 : (y.hi == x.lo - 1) = false := by simp [hj1]
                      have HJ2 : Hid (joinOne (t ++ [y]) x = t ++ [y] ++ [x]) := Lib.hid (by rw [HJ.out, if_neg (fun h => hj1 h.1.symm)])
                      clear hj1 HJ
                      go_wp2
                      go_quiet (fail)
                      go_wp2_with (at_builtin; refine wpList_oneR rfl _ _ rfl x rfl ((Hrow2.out.drewN _).alloc _) rfl (Blk.new _ _ _) hlenJ (le_alloc hbz) ?_; intro g1 c3 w3 hrow3 hgr hat; have Hrow3 := Lib.hid hrow3; clear hrow3)
                      go_roundw
                      case rel =>
                        refine ⟨k + 1, t.length + 1 + 1, some ⟨_, 0, none⟩, c3, rfl, by go_num, by omega, by omega, Lib.hid (by rw [HN.out, HJ2.out]; simp), Lib.hid (by rw [HN.out, HJ2.out]; have h := Hrow3.out; rw [List.length_append] at h; exact h), ?_⟩
                        exact ((below_drewN hb2 _).alloc hbz _).grown hgr (le_alloc hbz) (fun kk hk => (World.ownsRow.lt Hrow2.out kk hk).1)
                      case measure => simp [intOf]; omega
                · have hkl2 : k = l.length := by omega
                  subst hkl2
                  have HF : Hid (joinF [] (S.take l.length) = ofL l) := Lib.hid (by rw [← Hlen.out, List.take_length]; exact Hof.out)
                  go_wp2
                  go_ret2
                  refine ⟨_, _, rfl, hb.trans (hb2.mono hb.size), .inr (.inr ⟨Hgood.out, Hap.out, rfl, ?_⟩)⟩
                  have h1 := Hrow2.out
                  rw [HF.out] at h1
                  have h2 := Hn2.out
                  rw [HF.out] at h2
                  exact RowR.less h1 hb.size
end Go.Proofs.Ytpghnoadeamplaa
