/- The library's FieldsFunc at the blanks: the document's parts of a text. -/
import Derived.Test.YtppmjlfecbaicaaDoorPiece
import Derived.Test.YtppmjlfecbaicaaDoorSplit
import Derived.Lib.OthersKept
import Derived.Deep.LoopGhost
import Derived.Deep.CutBlock
import Derived.Laws.MakeOwn
import Derived.Laws.OwnMore
import Derived.Laws.DeepNot64
import Derived.Shelf.Strings.FieldsFuncAny
namespace Go.Proofs.YtppmjlfecbaicaaDoor
open Go.RowKit
set_option linter.unusedVariables false
set_option linter.unusedSimpArgs false

theorem info73 : ∃ (i : TypeInfo) (z : Value), Tryd.prog.info? 73 = some i ∧ i.zero = some z ∧ i.size = 2 ∧ i.bytes = 16 ∧ z.cells.size = 2 := by
  have h : (Tryd.prog.info? 73).map (fun i => (i.zero, i.size, i.bytes)) = some (some (.agg #[.int .i64 0, .int .i64 0]), 2, 16) := by kernel_rfl
  obtain ⟨i, hi, h0, h1, h2⟩ := info_parts h
  exact ⟨i, _, hi, h0, h1, h2, rfl⟩
def kP : Kind (Nat × Nat) where
  e := 73
  st := 71
  size := 2
  bytes := 16
  cs := fun x => [.int .i64 x.1, .int .i64 x.2]
  len := fun _ => rfl
  one := fun x u hu => by simp at hu; rcases hu with rfl | rfl <;> rfl
  pos := by decide
  sl := Tryd.underlying71
  zero := info73
  small := by decide
theorem RowK.on {α : Type} {K : Kind α} {w w' : World} {base : Nat} {v : Value} {l : List α} (h : RowK K w base v l) (hb : Below w.heap.size w w') : RowK K w' base v l := by
  refine ⟨h.1, ?_⟩
  rcases h.2 with h0 | ⟨g, cap, cur, hv, hg, hh, rest⟩
  · exact .inl h0
  · exact .inr ⟨g, cap, cur, hv, hg, (hb.block g (Array.getElem?_eq_some_iff.1 hh).1).trans hh, rest⟩
theorem RowK.iterAt {α : Type} {K : Kind α} {w : World} {base : Nat} {v : Value} {l : List α} {k : Nat} {s : ByteArray} {pos : Nat} (h : RowK K w base v l) (hk : w.heap[k]? = some (.stringIter s pos)) (pos' : Nat) : RowK K (w.iterAt k s pos') base v l := own_iterAt h hk pos'
theorem row_ne_iter {α : Type} {K : Kind α} {w : World} {base : Nat} {v : Value} {l : List α} {k : Nat} {s : ByteArray} {pos : Nat} (h : RowK K w base v l) (hk : w.heap[k]? = some (.stringIter s pos)) : some k ≠ v.ownBlock := own_ne_iter h hk

theorem made_row (w : World) (base n : Nat) (c : Nat) (h : w.ownsRow base 9 1 (.slice (some ⟨c, 0, none⟩) n n) n (madeCells (Value.string ⟨#[]⟩).cells (n * 1)).toList) : RowK kS w base (.slice (some ⟨c, 0, none⟩) n n) (List.replicate n ByteArray.empty) := by
  rw [show (Value.string ⟨#[]⟩).cells = #[Value.string ⟨#[]⟩] from rfl, Nat.mul_one, toList_madeCells_one] at h
  unfold RowK
  have e : flatK kS (List.replicate n ByteArray.empty) = List.replicate n (Value.string ⟨#[]⟩) := by
    clear h
    induction n with
    | zero => rfl
    | succ n ih => rw [List.replicate_succ, List.replicate_succ]; simp only [flatK, List.flatMap_cons] at ih ⊢; rw [← ih]; rfl
  rw [e, List.length_replicate]
  exact h
theorem flat_kS (l : List ByteArray) : flatK kS l = l.map Value.string := by
  induction l with
  | nil => rfl
  | cons x t ih => simp only [flatK, List.flatMap_cons] at ih ⊢; rw [ih]; rfl
theorem rowS_set {w : World} {base G n : Nat} {l : List ByteArray} (h : RowK kS w base (.slice (some ⟨G, 0, none⟩) n n) l) (hn : l.length = n) (i : Nat) (x : ByteArray) :
    RowK kS (w.setCell ⟨G, i, none⟩ (.string x)) base (.slice (some ⟨G, 0, none⟩) n n) (l.set i x) ∧ w.grownBy (w.setCell ⟨G, i, none⟩ (.string x)) (some G) := by
  subst hn
  have h2 := World.ownsRow.stored h i (.string x)
  refine ⟨?_, h2.2⟩
  unfold RowK
  have e : flatK kS (l.set i x) = (flatK kS l).set i (.string x) := by rw [flat_kS, flat_kS, List.map_set]
  rw [e, List.length_set]
  exact h2.1
theorem take_set {l m : List ByteArray} {i : Nat} {x : ByteArray} (h : l.take i = m.take i) (hi : i < l.length) (hx : m[i]? = some x) : (l.set i x).take (i + 1) = m.take (i + 1) := by
  rw [List.take_add_one, List.take_add_one, hx, List.take_set_of_le (Nat.le_refl _), h, List.getElem?_set_self hi]

/-- What the loop over runes keeps. -/
def FInv (s : ByteArray) (n0 I : Nat) (w0 wx : World) (pos : Nat) (z : Int) (v : Value) : Prop :=
  RowK kP wx n0 v (pcs s pos).1 ∧ wx.heap[I]? = some (.stringIter s pos) ∧ Below n0 w0 wx ∧ (z < 0 ∧ (pcs s pos).2 = pos ∨ z = ((pcs s pos).2 : Int) ∧ (pcs s pos).2 < pos)

set_option maxHeartbeats 4000000 in
set_option maxRecDepth 100000 in
theorem fieldsFunc_any (s : ByteArray) (w : World) (hs : s.size ≤ 1000000)
    (hp : ∀ (W : World) (x : Nat), x ≤ 1114111 → Calls Tryd.prog 28 #[.int .i32 (x : Int)] W fun e w' => e = .returned (.bool (isB x)) ∧ Below W.heap.size W w') :
    Calls Tryd.prog 27 #[.string s, .func (.func 28) #[] #[]] w fun e w' => ∃ v, e = .returned v ∧ RowK kS w' w.heap.size v (exts s (spans s)) ∧ Below w.heap.size w w' := by
  obtain ⟨i0, z0, hi, hz0, hz1, hz2, hz3⟩ := info73
  obtain ⟨W0, hmk, hown0, hg0⟩ := run_make_own (P := Tryd.prog) w w.heap.size 71 73 i0 _ 2 Tryd.underlying71 hi hz0 hz1 .i64 .i64 32 (by rw [hz2]; decide) (by unfold maxLen; decide) (Nat.le_refl _)
  rw [show ((32 : Nat) : Int) = 32 from rfl] at hmk
  have hb0 : Below w.heap.size w W0 := (Below.refl _ w).grown hg0 (Nat.le_refl _) (fun k hk => by cases hk)
  have HP := Lib.hid hp
  have H0 : Hid (RowK kP W0 w.heap.size (.slice (some ⟨w.heap.size, 0, none⟩) 0 32) []) := Lib.hid hown0
  have HB0 := Lib.hid hb0
  clear hp hown0 hb0 hg0
  go_enter Tryd.func27, Tryd.ntmps27
  go_wp2
  go_loopg [5, 6] s.size (fun gf s5 s6 wx => ∃ (pos : Nat) (z : Int), s6 = .int .i64 z ∧ -9223372036854775808 ≤ z ∧ z ≤ pos ∧ pos ≤ s.size ∧ s.size ≤ pos + gf ∧ Hid (FInv s w.heap.size W0.heap.size w wx pos z s5))
  case atStart => exact ⟨0, -1, rfl, by omega, by omega, Nat.zero_le _, by omega, Lib.hid ⟨H0.out.alloc _, World.iter_heap W0 s 0, HB0.out.alloc HB0.out.size _, .inl ⟨by omega, rfl⟩⟩⟩
  case round =>
    obtain ⟨pos, z, rfl, hz, hzp, hps, hfu, HI⟩ := hrel
    by_cases hlt : pos < s.size
    · obtain ⟨g', rfl⟩ : ∃ g', gk = g' + 1 := ⟨gk - 1, by omega⟩
      have hnx : ∀ ty, (Instr.next (.pointer (some ⟨W0.heap.size, 0, none⟩)) true ty).run Tryd.prog wr = _ := fun ty => Lib.run_next_any_at wr W0.heap.size s pos ty HI.out.2.1 hlt
      obtain ⟨hle, hkind⟩ := decode_kind hlt
      have hRm := Lib.rune_le s pos
      have hKp := Lib.width_pos s pos
      have HF : Hid (isB ((Utf8.decode s pos).1 : Int) = false → pcs s (pos + (Utf8.decode s pos).2) = pcs s pos) := Lib.hid fun hf => by
        refine pcs_far _ (by omega) fun j hj => ?_
        rcases hkind with ⟨e1, e2⟩ | ⟨_, _, h⟩
        · obtain rfl : j = 0 := by omega
          rw [Nat.add_zero, ← e1]; exact hf
        · exact h j hj
      have HT : Hid (isB ((Utf8.decode s pos).1 : Int) = true → (Utf8.decode s pos).2 = 1 ∧ isB ((bl s).getD pos 0) = true) := Lib.hid fun hf => by
        rcases hkind with ⟨e1, e2⟩ | ⟨h, _⟩
        · exact ⟨e2, by rw [← e1]; exact hf⟩
        · rw [h] at hf; cases hf
      clear hkind
      generalize (Utf8.decode s pos).1 = R at *
      generalize (Utf8.decode s pos).2 = K at *
      have HR2 : Hid (RowK kP (wr.iterAt W0.heap.size s (pos + K)) w.heap.size _ (pcs s pos).1) := Lib.hid (HI.out.1.iterAt HI.out.2.1 _)
      have HI2 := Lib.hid (Lib.iterAt_heap wr W0.heap.size s pos (pos + K) HI.out.2.1)
      have HB2 := Lib.hid (Lib.below_iterAt HI.out.2.2.1 (k := W0.heap.size) HB0.out.size s (pos + K))
      have hz3 := HI.out.2.2.2
      have hpl := (pcs_le s pos)
      have hle2 := HB2.out.size
      generalize wr.iterAt W0.heap.size s (pos + K) = W at *
      have hlen : (pcs s pos).1.length ≤ pos := hpl.2.1
      have hfr : (pcs s pos).2 ≤ pos := hpl.1
      clear hpl HI
      have HC := Lib.hid (HP.out W R hRm)
      cases hb : isB (R : Int) with
      | false =>
        have HE := Lib.hid (HF.out hb)
        rw [hb] at HC
        clear HF HT hb
        rcases hz3 with ⟨hz0, hfp⟩ | ⟨hzf, hfp⟩
        · go_wp2_with (go_at_call 28; refine HC.out.mono ?_; rintro e w2 ⟨rfl, hb2⟩)
          have HI3 : Hid (FInv s w.heap.size W0.heap.size w w2 (pos + K) pos _) := Lib.hid ⟨by rw [HE.out]; exact HR2.out.on hb2, (hb2.block _ (Array.getElem?_eq_some_iff.1 HI2.out).1).trans HI2.out, HB2.out.trans (hb2.mono hle2), .inr ⟨by rw [HE.out]; omega, by rw [HE.out]; omega⟩⟩
          clear hb2
          go_roundg g'
          case measure => omega
          case rel => exact ⟨pos + K, pos, rfl, by omega, by omega, by omega, by omega, HI3⟩
        · have hz9 : 0 ≤ z := by omega
          have hzf2 := Lib.hid hzf
          clear hzf
          go_wp2_with (go_at_call 28; refine HC.out.mono ?_; rintro e w2 ⟨rfl, hb2⟩)
          have hzf := hzf2.out
          have HI3 : Hid (FInv s w.heap.size W0.heap.size w w2 (pos + K) z _) := Lib.hid ⟨by rw [HE.out]; exact HR2.out.on hb2, (hb2.block _ (Array.getElem?_eq_some_iff.1 HI2.out).1).trans HI2.out, HB2.out.trans (hb2.mono hle2), .inr ⟨by rw [HE.out]; omega, by rw [HE.out]; omega⟩⟩
          clear hb2
          go_roundg g'
          case measure => omega
          case rel => exact ⟨pos + K, z, rfl, by omega, by omega, by omega, by omega, HI3⟩
      | true =>
        obtain ⟨hK, hbt⟩ := HT.out hb
        have hnb : ¬ (pos < s.size ∧ isB ((bl s).getD pos 0) = false) := fun h => by rw [hbt] at h; cases h.2
        subst hK
        rw [hb] at HC
        clear HF HT hb hbt
        rcases hz3 with ⟨hz0, hfp⟩ | ⟨hzf, hfp⟩
        · have HE := Lib.hid (pcs_skip hnb (by omega))
          clear hnb
          go_wp2_with (go_at_call 28; refine HC.out.mono ?_; rintro e w2 ⟨rfl, hb2⟩)
          have HI3 : Hid (FInv s w.heap.size W0.heap.size w w2 (pos + 1) z _) := Lib.hid ⟨by rw [HE.out]; exact HR2.out.on hb2, (hb2.block _ (Array.getElem?_eq_some_iff.1 HI2.out).1).trans HI2.out, HB2.out.trans (hb2.mono hle2), .inl ⟨hz0, by rw [HE.out]⟩⟩
          clear hb2
          go_roundg g'
          case measure => omega
          case rel => exact ⟨pos + 1, z, rfl, by omega, by omega, by omega, by omega, HI3⟩
        · have HE := Lib.hid (pcs_cut hnb hfp)
          clear hnb
          generalize (pcs s pos).2 = fr at *
          generalize (pcs s pos).1 = acc at *
          subst hzf
          have hln : acc.length + [((fr : Nat), (pos : Nat))].length ≤ 1000000000 := by simp; omega
          go_wp2_with (first
            | (go_at_call 28; refine HC.out.mono ?_; rintro e w2 ⟨rfl, hb2⟩; have HI3 := Lib.hid ((hb2.block _ (Array.getElem?_eq_some_iff.1 HI2.out).1).trans HI2.out); have HR3 := Lib.hid (HR2.out.on hb2); have HB3 := Lib.hid (HB2.out.trans (hb2.mono hle2)); clear hb2; have hle3 := HB3.out.size)
            | (at_builtin; refine wpList_app kP rfl _ _ rfl [((fr : Nat), (pos : Nat))] rfl (HR3.out.alloc _) rfl (rd_block (K := kP) (l := [((fr : Nat), (pos : Nat))]) (Blk.new _ _ _) rfl) (fun e => by cases e) hln (le_alloc hle3) ?_; intro v' w' hrow' hg'; have HB4 := Lib.hid ((HB3.out.alloc hle3 (.cells #[.int .i64 (fr : Int), .int .i64 (pos : Int)] 73)).trans (row_below (HR3.out.alloc (.cells #[.int .i64 (fr : Int), .int .i64 (pos : Int)] 73)) hg' (le_alloc hle3))); have HR4 := Lib.hid hrow'; have HI4 := Lib.hid ((hg'.block W0.heap.size (by have := (Array.getElem?_eq_some_iff.1 HI3.out).1; simp; omega) (row_ne_iter (HR3.out.alloc (.cells #[.int .i64 (fr : Int), .int .i64 (pos : Int)] 73)) ((Below.heap_alloc _ _ _ (Array.getElem?_eq_some_iff.1 HI3.out).1).trans HI3.out))).trans ((Below.heap_alloc _ _ _ (Array.getElem?_eq_some_iff.1 HI3.out).1).trans HI3.out)); clear hrow' hg'))
          rw [i64_not fr (by omega)]
          go_roundg g'
          case measure => omega
          case rel => exact ⟨pos + 1, -1 - (fr : Int), rfl, by omega, by omega, by omega, by omega, Lib.hid ⟨by rw [HE.out]; exact HR4.out, HI4.out, HB4.out, .inl ⟨by omega, by rw [HE.out]⟩⟩⟩
    · obtain rfl : pos = s.size := by omega
      have hnx : ∀ ty, (Instr.next (.pointer (some ⟨W0.heap.size, 0, none⟩)) true ty).run Tryd.prog wr = _ := fun ty => Lib.run_next_end_at wr W0.heap.size s s.size ty HI.out.2.1 hlt
      have HR := Lib.hid HI.out.1
      have HB := Lib.hid HI.out.2.2.1
      have hz3 := HI.out.2.2.2
      have hpl := pcs_le s s.size
      have hlen : (pcs s s.size).1.length ≤ s.size := hpl.2.1
      have hle := HB.out.size
      have hok := Lib.hid hpl.2.2
      have hnb : ¬ (s.size < s.size ∧ isB ((bl s).getD s.size 0) = false) := fun h => by omega
      clear HI hpl
      go_upto_if 36 with fail
      go_cut [5] (fun v5 wx => Hid (RowK kP wx w.heap.size v5 (spans s)) ∧ Hid (Below w.heap.size w wx))
      case first =>
        rcases hz3 with ⟨hz0, hfp⟩ | ⟨hzf, hfp⟩
        · have HE := Lib.hid (pcs_skip hnb (by omega))
          clear hnb
          have hfp2 := Lib.hid hfp
          clear hfp
          go_wp2_with fail
          go_meet
          exact ⟨Lib.hid (by unfold spans; rw [HE.out]; exact HR.out), HB⟩
        · have HE := Lib.hid (pcs_cut hnb hfp)
          clear hnb
          generalize (pcs s s.size).2 = fr at *
          generalize (pcs s s.size).1 = acc at *
          subst hzf
          have hln : acc.length + [((fr : Nat), (s.size : Nat))].length ≤ 1000000000 := by simp; omega
          go_wp2_with (at_builtin; refine wpList_app kP rfl _ _ rfl [((fr : Nat), (s.size : Nat))] rfl (HR.out.alloc _) rfl (rd_block (K := kP) (l := [((fr : Nat), (s.size : Nat))]) (Blk.new _ _ _) rfl) (fun e => by cases e) hln (le_alloc hle) ?_; intro v' w' hrow' hg'; have HB4 := Lib.hid ((HB.out.alloc hle (.cells #[.int .i64 (fr : Int), .int .i64 (s.size : Int)] 73)).trans (row_below (HR.out.alloc (.cells #[.int .i64 (fr : Int), .int .i64 (s.size : Int)] 73)) hg' (le_alloc hle))); have HR4 := Lib.hid hrow'; clear hrow' hg')
          go_meet
          exact ⟨Lib.hid (by unfold spans; rw [HE.out]; exact HR4.out), HB4⟩
      case rest =>
        obtain ⟨HR5, HB5⟩ := hcut
        obtain ⟨wb, hwb⟩ : ∃ wb : World, wb = wc := ⟨_, rfl⟩
        subst hwb
        have hSL : (spans s).length ≤ s.size + 1 := (pcs_le s (s.size + 1)).2.1
        have hSO := Lib.hid (pcs_le s (s.size + 1)).2.2
        have HSO : Hid (∀ x ∈ spans s, x.1 < x.2 ∧ x.2 < s.size + 1) := Lib.hid hSO.out
        clear hSO hok hz3 hlen HR HB hnb
        obtain ⟨A, c5, n, HN, rfl, hA0, HD⟩ := HR5.out.rdn
        have HD2 := Lib.hid HD
        have hnl : n ≤ s.size + 1 := by rw [HN.out]; exact hSL
        clear HR5 HD
        obtain ⟨SP, hSP⟩ : ∃ SP, spans s = SP := ⟨_, rfl⟩
        rw [hSP] at HD2 HN hSL HSO
        have HSP := Lib.hid hSP
        clear hSP
        obtain ⟨i9, z9, hi9, hz90, hz91, hz92, hz93⟩ := info9
        have hz9' : z9 = .string ⟨#[]⟩ := by
          have h : (Tryd.prog.info? 9).map (fun i => (i.zero, i.size, i.bytes)) = some (some (.string ⟨#[]⟩), 1, 16) := by kernel_rfl
          rw [hi9] at h
          simp at h
          rw [hz90] at h
          simpa using h.1
        subst hz9'
        obtain ⟨W5, hmk5, hown5, hgr5⟩ := run_make_full (P := Tryd.prog) wb w.heap.size 40 9 i9 _ 1 Tryd.underlying40 hi9 hz90 hz91 .i64 .i64 n (by rw [hz92]; omega) (by unfold maxLen; omega) HB5.out.size
        have HR6 := Lib.hid (made_row _ _ _ _ hown5)
        have HB6 := Lib.hid (grown_none (B := wb.heap.size) hgr5 (Nat.le_refl _))
        clear hown5 hgr5
        go_wp2
        go_loopw [49] (fun s49 wx => ∃ (i : Nat) (l : List ByteArray), s49 = .int .i64 i ∧ i ≤ n ∧ l.length = n ∧ Hid (l.take i = (exts s SP).take i) ∧ Hid (RowK kS wx w.heap.size (.slice (some ⟨wb.heap.size, 0, none⟩) n n) l) ∧ Hid (Below wb.heap.size wb wx)) (fun i _ => n - (intOf i).toNat)
        case atStart => exact ⟨0, _, rfl, Nat.zero_le _, List.length_replicate, Lib.hid rfl, HR6, HB6⟩
        case round =>
          obtain ⟨i, l, rfl, hin, hll, HT, HL, HW⟩ := hrel
          by_cases hlt2 : i < n
          · obtain ⟨x, hx⟩ : ∃ x, SP[i]? = some x := ⟨_, List.getElem?_eq_getElem (by rw [← HN.out]; exact hlt2)⟩
            have hxo := HSO.out x (List.mem_of_getElem? hx)
            obtain ⟨b, off, rfl, hb, hc⟩ := HD2.out (by rw [← HN.out]; omega)
            have hgd : SP.getD i default = x := by rw [List.getD_eq_getElem?_getD, hx]; rfl
            have hc0 : wr.cell? ⟨b, off + i * 2, none⟩ = some (.int .i64 x.1) := (HW.out.cell (p := ⟨b, off + i * 2, none⟩) hb).trans (hc i (by rw [← HN.out]; exact hlt2) 0 _ (by rw [hgd]; rfl))
            have hc1 : wr.cell? ⟨b, off + i * 2 + 1, none⟩ = some (.int .i64 x.2) := (HW.out.cell (p := ⟨b, off + i * 2 + 1, none⟩) hb).trans (hc i (by rw [← HN.out]; exact hlt2) 1 _ (by rw [hgd]; rfl))
            have hA' := HL.out.alloc (.cells #[.int .i64 (x.1 : Int), .int .i64 (x.2 : Int)] 73)
            obtain ⟨old, hold⟩ : ∃ old, (flatK kS l)[i]? = some old := ⟨_, List.getElem?_eq_getElem (by rw [flat_length]; show i < l.length * 1; omega)⟩
            have hA2 : (wr.alloc (.cells #[.int .i64 (x.1 : Int), .int .i64 (x.2 : Int)] 73)).ownsRow w.heap.size 9 1 (.slice (some ⟨wb.heap.size, 0, none⟩) n n) n (flatK kS l) := by have h := hA'; unfold RowK at h; rw [hll] at h; exact h
            have hcA := (hA2.cellAt i (by omega)).trans hold
            have hfA := hA2.frozenAt i
            have HXE : Hid ((exts s SP)[i]? = some (s.extract x.1 x.2)) := Lib.hid (by unfold exts; rw [List.getElem?_map, hx]; rfl)
            have HS := Lib.hid (rowS_set hA' hll i (s.extract x.1 x.2))
            have hwz := HW.out.size
            clear hgd hc hA' hA2 hold hx
            obtain ⟨x1, x2⟩ := x
            dsimp only at *
            go_wp2
            go_roundw
            case rel => exact ⟨i + 1, l.set i (s.extract x1 x2), by go_num, by omega, by rw [List.length_set]; exact hll, Lib.hid (take_set HT.out (by omega) HXE.out), Lib.hid HS.out.1, Lib.hid ((HW.out.alloc hwz _).grown HS.out.2 (by simp; omega) (fun k hk => by cases hk; exact Nat.le_refl _))⟩
            case measure => simp [intOf]; omega
          · have hin2 : i = n := by omega
            have HE : Hid (l = exts s SP) := Lib.hid (by
              have h := HT.out
              rwa [List.take_of_length_le (by omega), List.take_of_length_le (by unfold exts; rw [List.length_map, ← HN.out]; omega)] at h)
            clear HT
            subst hin2
            go_wp2
            go_ret
            exact ⟨_, rfl, by rw [HSP.out, ← HE.out]; exact HL.out, HB5.out.trans (HW.out.mono HB5.out.size)⟩
end Go.Proofs.YtppmjlfecbaicaaDoor
