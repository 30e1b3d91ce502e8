/- The reference's Of. -/
import Derived.Test.YtlemiejmjdhcgaaShift
import Derived.Deep.CutBlock
import Derived.Deep.DeepCutAuto
namespace Go.Proofs.Ytlemiejmjdhcgaa
open Go.RowKit
set_option linter.unusedVariables false
set_option linter.unusedSimpArgs false

theorem Blk.new2 (w : World) (o : Obj) (t : TypeId) (cs : Array Value) : Blk ((w.alloc o).alloc (.cells cs t)) (w.heap.size + 1) t cs := by
  have := Blk.new (w.alloc o) t cs
  simpa using this
/-- Stands what follows l behind a variable one? -/
def stB (b : Bool) (l : List El) : Bool := l.foldl (fun b x => nextB x b) b
def wOf (sh b : Bool) (x : El) : Wt := if sh = true then shW x b else ⟨x.p, x.s, x.t, 0⟩
/-- Elements' weights. -/
def ofE (sh : Bool) : Bool → List El → List Wt
  | _, [] => []
  | b, x :: t => wOf sh b x :: ofE sh (nextB x b) t
theorem ofE_append (sh : Bool) : ∀ (l m : List El) (b : Bool), ofE sh b (l ++ m) = ofE sh b l ++ ofE sh (stB b l) m
  | [], m, b => rfl
  | x :: t, m, b => by simp only [List.cons_append, ofE, ofE_append sh t m]; rfl
theorem ofE_length (sh : Bool) : ∀ (l : List El) (b : Bool), (ofE sh b l).length = l.length
  | [], _ => rfl
  | x :: t, b => by simp [ofE, ofE_length sh t]
theorem stB_snoc (b : Bool) (l : List El) (x : El) : stB b (l ++ [x]) = nextB x (stB b l) := by unfold stB; rw [List.foldl_append]; rfl
theorem take_snoc {α : Type} [Inhabited α] {l : List α} {k : Nat} (hk : k < l.length) : l.take (k + 1) = l.take k ++ [l.getD k default] := by
  rw [List.take_add_one, List.getElem?_eq_getElem hk]
  simp [List.getD_eq_getElem?_getD, List.getElem?_eq_getElem hk]
theorem ofE_next {l : List El} {k : Nat} (sh : Bool) (hk : k < l.length) : ofE sh false (l.take (k + 1)) = ofE sh false (l.take k) ++ [wOf sh (stB false (l.take k)) (l.getD k default)] := by
  rw [take_snoc hk, ofE_append]; rfl
theorem stB_next {l : List El} {k : Nat} (hk : k < l.length) : stB false (l.take (k + 1)) = nextB (l.getD k default) (stB false (l.take k)) := by rw [take_snoc hk, stB_snoc]

theorem sound_get {l : List El} (hs : l.all soundE = true) {j : Nat} (hj : j < l.length) : soundE (l.getD j default) = true := by
  rw [List.all_eq_true] at hs
  refine hs _ ?_
  rw [List.getD_eq_getElem?_getD, List.getElem?_eq_getElem hj]
  simp

set_option maxHeartbeats 16000000 in
set_option maxRecDepth 100000 in
theorem refOf_main (A : Option Addr) (c : Nat) (l : List El) (sh : Bool) (lv : Int) (w : World) (hr : RdK kE w w.heap.size A l) (hl : l.length ≤ 1000) (hs : l.all soundE = true) (h1 : 1 ≤ lv) (h4 : lv ≤ 4) :
    Calls Try.prog 8 #[.agg #[.bool sh, .int .i64 lv], .slice A l.length c] w fun e w' => ∃ v, e = .returned v ∧ RowK kW w' w.heap.size v (ofE sh false l) ∧ Below w.heap.size w w' := by
  have hB := Blk.new w 23 #[.bool sh, .int .i64 lv]
  have hb0 : Below w.heap.size w (w.alloc (.cells #[.bool sh, .int .i64 lv] 23)) := (Below.refl _ _).alloc (Nat.le_refl _) _
  have HR := Lib.hid (hr.on hb0)
  have HB := Lib.hid hB
  have HS := Lib.hid hs
  have HB0 := Lib.hid hb0
  have c0 := hB.cell 0
  have c1 := hB.cell 1
  clear hr hs hB
  have d1 : decide (lv < 1) = false := by simp only [decide_eq_false_iff_not]; omega
  have d4 : decide (4 < lv) = false := by simp only [decide_eq_false_iff_not]; omega
  go_enter Try.func8, Try.ntmps8
  go_wp2
  clear c0 c1
  generalize hw0 : w.alloc (.cells #[.bool sh, .int .i64 lv] 23) = w0 at *
  have hz0 : w0.heap.size = w.heap.size + 1 := by rw [← hw0]; simp
  clear hw0
  go_loopw [5, 6] (fun s5 s6 wr => ∃ (k n5 c5 : Nat) (A5 : Option Addr), s5 = .slice A5 n5 c5 ∧ s6 = .int .i64 k ∧ k ≤ l.length ∧ Hid (n5 = (ofE sh false (l.take k)).length) ∧ Hid (RowK kW wr w0.heap.size (.slice A5 n5 c5) (ofE sh false (l.take k))) ∧ Hid (Below w0.heap.size w0 wr)) (fun _ i _ => l.length - (intOf i).toNat)
  case atStart => exact ⟨0, 0, 0, none, rfl, rfl, Nat.zero_le _, Lib.hid rfl, Lib.hid (nil_row _ _ _), Lib.hid (Below.refl _ _)⟩
  case round =>
    obtain ⟨k, n5, c5, A5, rfl, rfl, hk, Hn, Hrow, Hb⟩ := hrel
    by_cases hlt : k < l.length
    · obtain ⟨b, off, rfl, hbl, x0, x1, x2, x3⟩ := el_cells HR.out Hb.out hlt
      have HN := Lib.hid (ofE_next sh hlt)
      have hbz := Hb.out.size
      have hbB := HB.out.on Hb.out
      have c0 := hbB.cell 0
      have hml : (ofE sh false (l.take k)).length ≤ 1000 := by rw [ofE_length, List.length_take]; omega
      clear hbB
      have hb8 : w.heap.size < wr.heap.size := by omega
      have hb9 : b < wr.heap.size := by omega
      generalize ofE sh false (l.take k) = m at *
      cases sh
      · generalize l.getD k default = x at *
        have HN2 : Hid (ofE false false (l.take (k + 1)) = m ++ [⟨x.p, x.s, x.t, 0⟩]) := Lib.hid (by rw [HN.out]; rfl)
        have hlen1 : m.length + 1 ≤ 1000000000 := by omega
        clear HN
        go_wp2_with (at_builtin; refine wpList_app kW rfl _ _ rfl [⟨x.p, x.s, x.t, 0⟩] rfl ((Hrow.out.alloc _).alloc _) rfl (rd_block (K := kW) (l := [⟨x.p, x.s, x.t, 0⟩]) (Blk.new2 _ _ _ _) rfl) (fun e => by cases e) hlen1 (le_alloc (le_alloc hbz)) ?_; intro v8 w8 hrow8 hgr8; obtain ⟨A8, c8, n8, hn8, rfl, _, _⟩ := hrow8.rdn; have Hrow8 := Lib.hid hrow8; clear hrow8)
        go_roundw
        case rel =>
          refine ⟨k + 1, n8, c8, A8, rfl, by go_num, by omega, Lib.hid (by rw [HN2.out]; exact hn8.out), Lib.hid (by rw [HN2.out]; exact Hrow8.out), Lib.hid ?_⟩
          exact ((Hb.out.alloc hbz _).alloc (le_alloc hbz) _).grown hgr8 (le_alloc (le_alloc hbz)) (fun kk hk => (World.ownsRow.lt Hrow.out kk hk).1)
        case measure => simp [intOf]; omega
      · generalize hx : l.getD k default = x at *
        have HSX := Lib.hid (sound_get HS.out hlt)
        rw [hx] at HSX
        clear hx
        go_upto_block 2 with fail
        have hX1 := Lib.hid (Blk.new wr 42 #[.int .u16 x.p, .int .u16 x.s, .int .u16 x.t, .bool x.var])
        have HbW := Lib.hid (Hb.out.alloc hbz (.cells #[.int .u16 x.p, .int .u16 x.s, .int .u16 x.t, .bool x.var] 42))
        have HrowW := Lib.hid (Hrow.out.alloc (.cells #[.int .u16 x.p, .int .u16 x.s, .int .u16 x.t, .bool x.var] 42))
        have hzW : (wr.alloc (.cells #[.int .u16 x.p, .int .u16 x.s, .int .u16 x.t, .bool x.var] 42)).heap.size = wr.heap.size + 1 := by simp
        generalize wr.alloc (.cells #[.int .u16 x.p, .int .u16 x.s, .int .u16 x.t, .bool x.var] 42) = W1 at *
        clear Hrow Hb x0 x1 x2 x3 c0
        go_cut [8, 9] (fun s8 s9 wc => s8 = .bool (stB false (l.take k)) ∧ wc = W1)
        case first =>
          go_wp2_with fail
          go_loopw [8, 9] (fun s8 s9 wi => ∃ j : Nat, s8 = .bool false ∧ s9 = .int .i64 ((j : Int) - 1) ∧ j ≤ k ∧ Hid (stB false (l.take k) = stB false (l.take j)) ∧ wi = W1) (fun _ i _ => (intOf i + 1).toNat)
          case atStart => exact ⟨k, rfl, rfl, Nat.le_refl _, Lib.hid rfl, rfl⟩
          case round =>
            obtain ⟨j, rfl, rfl, hj, Hst, rfl⟩ := hrel
            cases j with
            | zero =>
              go_wp2_with fail
              go_meet
              case rel => exact ⟨by rw [Hst.out]; rfl, rfl⟩
            | succ j =>
              have ej : ((j + 1 : Nat) : Int) - 1 = (j : Int) := by omega
              rw [ej]
              clear ej
              have hjl : j < l.length := by omega
              obtain ⟨b', off', eb, hbl', x0, x1, x2, x3⟩ := el_cells HR.out HbW.out hjl
              injection eb with eb
              injection eb with eb1 eb2
              subst eb1
              subst eb2
              have Hnx := Lib.hid (Hst.out.trans (stB_next hjl))
              have hsd := sound_get HS.out hjl
              generalize l.getD j default = y at *
              obtain ⟨p, s, t, var⟩ := y
              simp only at x0 x1 x2 x3
              cases var
              · by_cases hp : p = 0
                · subst hp
                  have Hq : Hid (stB false (l.take k) = stB false (l.take j)) := Lib.hid (by rw [Hnx.out]; simp [nextB])
                  clear hsd Hnx Hst
                  go_wp2_with fail
                  go_roundw
                  case rel => exact ⟨j, rfl, by go_num, by omega, Hq, by first | rfl | trivial⟩
                  case measure => simp [intOf]
                · have d1 : (p != 0) = true := by simp [hp]
                  have Hq : Hid (stB false (l.take k) = false) := Lib.hid (by rw [Hnx.out]; simp [nextB, hp])
                  clear hsd Hnx Hst
                  go_wp2_with fail
                  go_meet
                  case rel => exact ⟨by rw [Hq.out], rfl⟩
              · have hp : p ≠ 0 := fun h => by simp [soundE, h] at hsd
                have d1 : (p != 0) = true := by simp [hp]
                have Hq : Hid (stB false (l.take k) = true) := Lib.hid (by rw [Hnx.out]; simp [nextB])
                clear hsd Hnx Hst
                go_wp2_with fail
                go_meet
                case rel => exact ⟨by rw [Hq.out], rfl⟩
        case rest =>
          obtain ⟨rfl, rfl⟩ := hcut
          obtain ⟨p, s, t, var⟩ := x
          have x0 := hX1.out.cell 0
          have x1 := hX1.out.cell 1
          have x2 := hX1.out.cell 2
          have x3 := hX1.out.cell 3
          have hblx := hX1.out.lt
          have hbz1 := HbW.out.size
          have hlen1 : m.length + 1 ≤ 1000000000 := by omega
          have hsd := HSX.out
          clear hzW hb8 hb9 hbz
          generalize stB false (l.take k) = bb at *
          cases var
          · clear hsd
            by_cases hp : p = 0
            · subst hp
              by_cases hs : s = 0
              · subst hs
                by_cases ht : t = 0
                · subst ht
                  have HQ : Hid (ofE true false (l.take (k + 1)) = m ++ [(⟨0, 0, 0, 0⟩ : Wt)]) := Lib.hid (by rw [HN.out]; simp [wOf, shW])
                  clear HN HSX
                  go_wp2_with (at_builtin; refine wpList_app kW rfl _ _ rfl [(⟨0, 0, 0, 0⟩ : Wt)] rfl ((HrowW.out.alloc _).alloc _) rfl (rd_block (K := kW) (l := [(⟨0, 0, 0, 0⟩ : Wt)]) (Blk.new2 _ _ _ _) rfl) (fun e => by cases e) hlen1 (le_alloc (le_alloc hbz1)) ?_; intro v8 w8 hrow8 hgr8; obtain ⟨A8, c8, n8, hn8, rfl, _, _⟩ := hrow8.rdn; have Hrow8 := Lib.hid hrow8; clear hrow8)
                  go_roundw
                  case rel =>
                    refine ⟨k + 1, n8, c8, A8, rfl, by go_num, by omega, Lib.hid (by rw [HQ.out]; exact hn8.out), Lib.hid (by rw [HQ.out]; exact Hrow8.out), Lib.hid ?_⟩
                    exact ((HbW.out.alloc hbz1 _).alloc (le_alloc hbz1) _).grown hgr8 (le_alloc (le_alloc hbz1)) (fun kk hk => (World.ownsRow.lt HrowW.out kk hk).1)
                  case measure => simp [intOf]; omega
                · have d3 : (t == 0) = false := by simp [ht]
                  cases bb
                  · skip
                    have HQ : Hid (ofE true false (l.take (k + 1)) = m ++ [(⟨0, 0, t, 65535⟩ : Wt)]) := Lib.hid (by rw [HN.out]; simp [wOf, shW, ht])
                    clear HN HSX
                    go_wp2_with (at_builtin; refine wpList_app kW rfl _ _ rfl [(⟨0, 0, t, 65535⟩ : Wt)] rfl ((HrowW.out.alloc _).alloc _) rfl (rd_block (K := kW) (l := [(⟨0, 0, t, 65535⟩ : Wt)]) (Blk.new2 _ _ _ _) rfl) (fun e => by cases e) hlen1 (le_alloc (le_alloc hbz1)) ?_; intro v8 w8 hrow8 hgr8; obtain ⟨A8, c8, n8, hn8, rfl, _, _⟩ := hrow8.rdn; have Hrow8 := Lib.hid hrow8; clear hrow8)
                    go_roundw
                    case rel =>
                      refine ⟨k + 1, n8, c8, A8, rfl, by go_num, by omega, Lib.hid (by rw [HQ.out]; exact hn8.out), Lib.hid (by rw [HQ.out]; exact Hrow8.out), Lib.hid ?_⟩
                      exact ((HbW.out.alloc hbz1 _).alloc (le_alloc hbz1) _).grown hgr8 (le_alloc (le_alloc hbz1)) (fun kk hk => (World.ownsRow.lt HrowW.out kk hk).1)
                    case measure => simp [intOf]; omega
                  · skip
                    have HQ : Hid (ofE true false (l.take (k + 1)) = m ++ [(⟨0, 0, 0, 0⟩ : Wt)]) := Lib.hid (by rw [HN.out]; simp [wOf, shW])
                    clear HN HSX
                    go_wp2_with (at_builtin; refine wpList_app kW rfl _ _ rfl [(⟨0, 0, 0, 0⟩ : Wt)] rfl ((HrowW.out.alloc _).alloc _) rfl (rd_block (K := kW) (l := [(⟨0, 0, 0, 0⟩ : Wt)]) (Blk.new2 _ _ _ _) rfl) (fun e => by cases e) hlen1 (le_alloc (le_alloc hbz1)) ?_; intro v8 w8 hrow8 hgr8; obtain ⟨A8, c8, n8, hn8, rfl, _, _⟩ := hrow8.rdn; have Hrow8 := Lib.hid hrow8; clear hrow8)
                    go_roundw
                    case rel =>
                      refine ⟨k + 1, n8, c8, A8, rfl, by go_num, by omega, Lib.hid (by rw [HQ.out]; exact hn8.out), Lib.hid (by rw [HQ.out]; exact Hrow8.out), Lib.hid ?_⟩
                      exact ((HbW.out.alloc hbz1 _).alloc (le_alloc hbz1) _).grown hgr8 (le_alloc (le_alloc hbz1)) (fun kk hk => (World.ownsRow.lt HrowW.out kk hk).1)
                    case measure => simp [intOf]; omega
              · have d2 : (s == 0) = false := by simp [hs]
                cases bb
                · skip
                  have HQ : Hid (ofE true false (l.take (k + 1)) = m ++ [(⟨0, s, t, 65535⟩ : Wt)]) := Lib.hid (by rw [HN.out]; simp [wOf, shW, hs])
                  clear HN HSX
                  go_wp2_with (at_builtin; refine wpList_app kW rfl _ _ rfl [(⟨0, s, t, 65535⟩ : Wt)] rfl ((HrowW.out.alloc _).alloc _) rfl (rd_block (K := kW) (l := [(⟨0, s, t, 65535⟩ : Wt)]) (Blk.new2 _ _ _ _) rfl) (fun e => by cases e) hlen1 (le_alloc (le_alloc hbz1)) ?_; intro v8 w8 hrow8 hgr8; obtain ⟨A8, c8, n8, hn8, rfl, _, _⟩ := hrow8.rdn; have Hrow8 := Lib.hid hrow8; clear hrow8)
                  go_roundw
                  case rel =>
                    refine ⟨k + 1, n8, c8, A8, rfl, by go_num, by omega, Lib.hid (by rw [HQ.out]; exact hn8.out), Lib.hid (by rw [HQ.out]; exact Hrow8.out), Lib.hid ?_⟩
                    exact ((HbW.out.alloc hbz1 _).alloc (le_alloc hbz1) _).grown hgr8 (le_alloc (le_alloc hbz1)) (fun kk hk => (World.ownsRow.lt HrowW.out kk hk).1)
                  case measure => simp [intOf]; omega
                · skip
                  have HQ : Hid (ofE true false (l.take (k + 1)) = m ++ [(⟨0, 0, 0, 0⟩ : Wt)]) := Lib.hid (by rw [HN.out]; simp [wOf, shW])
                  clear HN HSX
                  go_wp2_with (at_builtin; refine wpList_app kW rfl _ _ rfl [(⟨0, 0, 0, 0⟩ : Wt)] rfl ((HrowW.out.alloc _).alloc _) rfl (rd_block (K := kW) (l := [(⟨0, 0, 0, 0⟩ : Wt)]) (Blk.new2 _ _ _ _) rfl) (fun e => by cases e) hlen1 (le_alloc (le_alloc hbz1)) ?_; intro v8 w8 hrow8 hgr8; obtain ⟨A8, c8, n8, hn8, rfl, _, _⟩ := hrow8.rdn; have Hrow8 := Lib.hid hrow8; clear hrow8)
                  go_roundw
                  case rel =>
                    refine ⟨k + 1, n8, c8, A8, rfl, by go_num, by omega, Lib.hid (by rw [HQ.out]; exact hn8.out), Lib.hid (by rw [HQ.out]; exact Hrow8.out), Lib.hid ?_⟩
                    exact ((HbW.out.alloc hbz1 _).alloc (le_alloc hbz1) _).grown hgr8 (le_alloc (le_alloc hbz1)) (fun kk hk => (World.ownsRow.lt HrowW.out kk hk).1)
                  case measure => simp [intOf]; omega
            · have d1 : (p == 0) = false := by simp [hp]
              have HQ : Hid (ofE true false (l.take (k + 1)) = m ++ [(⟨p, s, t, 65535⟩ : Wt)]) := Lib.hid (by rw [HN.out]; simp [wOf, shW, hp])
              clear HN HSX
              go_wp2_with (at_builtin; refine wpList_app kW rfl _ _ rfl [(⟨p, s, t, 65535⟩ : Wt)] rfl ((HrowW.out.alloc _).alloc _) rfl (rd_block (K := kW) (l := [(⟨p, s, t, 65535⟩ : Wt)]) (Blk.new2 _ _ _ _) rfl) (fun e => by cases e) hlen1 (le_alloc (le_alloc hbz1)) ?_; intro v8 w8 hrow8 hgr8; obtain ⟨A8, c8, n8, hn8, rfl, _, _⟩ := hrow8.rdn; have Hrow8 := Lib.hid hrow8; clear hrow8)
              go_roundw
              case rel =>
                refine ⟨k + 1, n8, c8, A8, rfl, by go_num, by omega, Lib.hid (by rw [HQ.out]; exact hn8.out), Lib.hid (by rw [HQ.out]; exact Hrow8.out), Lib.hid ?_⟩
                exact ((HbW.out.alloc hbz1 _).alloc (le_alloc hbz1) _).grown hgr8 (le_alloc (le_alloc hbz1)) (fun kk hk => (World.ownsRow.lt HrowW.out kk hk).1)
              case measure => simp [intOf]; omega
          · have hp : p ≠ 0 := fun h => by simp [soundE, h] at hsd
            have d1 : (p == 0) = false := by simp [hp]
            clear hsd
            have HQ : Hid (ofE true false (l.take (k + 1)) = m ++ [(⟨0, 0, 0, p⟩ : Wt)]) := Lib.hid (by rw [HN.out]; simp [wOf, shW])
            clear HN HSX
            go_wp2_with (at_builtin; refine wpList_app kW rfl _ _ rfl [(⟨0, 0, 0, p⟩ : Wt)] rfl ((HrowW.out.alloc _).alloc _) rfl (rd_block (K := kW) (l := [(⟨0, 0, 0, p⟩ : Wt)]) (Blk.new2 _ _ _ _) rfl) (fun e => by cases e) hlen1 (le_alloc (le_alloc hbz1)) ?_; intro v8 w8 hrow8 hgr8; obtain ⟨A8, c8, n8, hn8, rfl, _, _⟩ := hrow8.rdn; have Hrow8 := Lib.hid hrow8; clear hrow8)
            go_roundw
            case rel =>
              refine ⟨k + 1, n8, c8, A8, rfl, by go_num, by omega, Lib.hid (by rw [HQ.out]; exact hn8.out), Lib.hid (by rw [HQ.out]; exact Hrow8.out), Lib.hid ?_⟩
              exact ((HbW.out.alloc hbz1 _).alloc (le_alloc hbz1) _).grown hgr8 (le_alloc (le_alloc hbz1)) (fun kk hk => (World.ownsRow.lt HrowW.out kk hk).1)
            case measure => simp [intOf]; omega
    · have hkl : k = l.length := by omega
      subst hkl
      rw [List.take_length] at Hrow Hn
      go_wp2_with fail
      go_ret
      exact ⟨_, rfl, ⟨Hrow.out.1, (Hrow.out.2).imp id fun ⟨g, c', cur, e1, e2, e3⟩ => ⟨g, c', cur, e1, by omega, e3⟩⟩, HB0.out.trans (Hb.out.mono (by omega))⟩
end Go.Proofs.Ytlemiejmjdhcgaa
