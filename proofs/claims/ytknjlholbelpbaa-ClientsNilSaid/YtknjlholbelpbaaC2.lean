/- A table's parts: results, maps. -/
import Derived.Test.YtknjlholbelpbaaC1
namespace Go.Proofs.Ytknjlholbelpbaa.Tlv
open Go.RowKit
set_option maxRecDepth 100000
set_option linter.unusedVariables false
set_option linter.unusedSimpArgs false

theorem put_no (q : Option Addr) (c n : Int) (w : World) (h : NoT w q) : Calls Try.prog 7 #[.pointer q, .int .u64 c, .int .u64 n, resZ] w fun e w' => e = .returned (.int .i64 1) ∧ Below w.heap.size w w' := by
  have hb : Below w.heap.size w (w.alloc (.cells #[.int .i64 0, .bool false, .slice none 0 0, .slice none 0 0] 32)) := (Below.refl _ _).alloc (Nat.le_refl _) _
  have HN := Lib.hid (find_no q c (w.alloc (.cells #[.int .i64 0, .bool false, .slice none 0 0, .slice none 0 0] 32)) (h.on hb))
  have HB := Lib.hid (And.intro hb h)
  clear hb h
  go_enter Try.func7, Try.ntmps7
  go_upto_region 2 with (first
    | (with_reducible refine HN.out.mono ?_; rintro e w1 ⟨rfl, hb1⟩; dsimp only; have HB1 := Lib.hid (HB.out.1.trans (hb1.mono HB.out.1.size)); clear hb1)
    | (refine wpList_store_rowTo rfl 48 _ _ rfl rfl w1.heap.size #[.int .u64 0, .int .i64 0, .bool false, .slice none 0 0, .slice none 0 0] rfl rfl 48 #[.int .u64 0, .int .i64 0, .bool false, .slice none 0 0, .slice none 0 0] (Blk.new w1 48 #[.int .u64 0, .int .i64 0, .bool false, .slice none 0 0, .slice none 0 0]) (by kernel_rfl) rfl (by kernel_rfl) ?_))
  have hb2 : Below w.heap.size w ((w1.alloc (.cells #[.int .u64 0, .int .i64 0, .bool false, .slice none 0 0, .slice none 0 0] 48)).setRow w1.heap.size #[.int .u64 0, .int .i64 0, .bool false, .slice none 0 0, .slice none 0 0]) := below_setRow (HB1.out.alloc HB1.out.size (.cells #[.int .u64 0, .int .i64 0, .bool false, .slice none 0 0, .slice none 0 0] 48)) HB1.out.size #[.int .u64 0, .int .i64 0, .bool false, .slice none 0 0, .slice none 0 0]
  generalize (w1.alloc (.cells #[.int .u64 0, .int .i64 0, .bool false, .slice none 0 0, .slice none 0 0] 48)).setRow w1.heap.size #[.int .u64 0, .int .i64 0, .bool false, .slice none 0 0, .slice none 0 0] = W at hb2 ⊢
  have HZ := Lib.hid (none_any q W (HB.out.2.on hb2))
  have HB2 := Lib.hid hb2
  clear hb2 HB1 HN
  go_wp2_with (with_reducible refine HZ.out.mono ?_; rintro e w2 ⟨rfl, rfl⟩; dsimp only)
  go_ret
  exact ⟨rfl, HB2.out⟩
theorem clone_nil (w : World) : Calls Try.prog 27 #[.slice none 0 0] w fun e w' => e = .returned (.slice none 0 0) ∧ w = w' := by
  have h1 := nil_eq 0
  go_enter Try.func27, Try.ntmps27
  go_wp2
  go_ret
  exact ⟨rfl, rfl⟩
abbrev r8 : Value := .agg #[.int .i64 8, .bool false, .slice none 0 0, .slice none 0 0]
abbrev row3 : Value := .agg #[.int .u64 3, .int .i64 8, .bool false, .slice none 0 0, .slice none 0 0]
set_option maxHeartbeats 4000000 in
theorem copy8 (w : World) : Calls Try.prog 15 #[r8] w fun e w' => e = .returned r8 ∧ Below w.heap.size w w' := by
  have hb := ((Below.refl w.heap.size w).alloc (Nat.le_refl _) (.cells #[.int .i64 8, .bool false, .slice none 0 0, .slice none 0 0] 32)).alloc (by simp) (.cells #[.int .i64 0, .bool false, .slice none 0 0, .slice none 0 0] 32)
  have k1 := (Blk.new w 32 #[.int .i64 8, .bool false, .slice none 0 0, .slice none 0 0]).alloc (.cells #[.int .i64 0, .bool false, .slice none 0 0, .slice none 0 0] 32)
  have k2 := Blk.new (w.alloc (.cells #[.int .i64 8, .bool false, .slice none 0 0, .slice none 0 0] 32)) 32 #[.int .i64 0, .bool false, .slice none 0 0, .slice none 0 0]
  rw [World.size_alloc] at k2
  have HB := Lib.hid (And.intro hb (And.intro k1 k2))
  clear hb k1 k2
  have HC := Lib.hid clone_nil
  go_enter Try.func15, Try.ntmps15
  go_upto_region 2 with fail
  obtain ⟨W, hW⟩ : ∃ W, W = (w.alloc (.cells #[.int .i64 8, .bool false, .slice none 0 0, .slice none 0 0] 32)).alloc (.cells #[.int .i64 0, .bool false, .slice none 0 0, .slice none 0 0] 32) := ⟨_, rfl⟩
  rw [← hW] at HB ⊢
  clear hW
  have c2 := HB.out.2.1.cell 2
  have c3 := HB.out.2.1.cell 3
  have f2 := HB.out.2.1.frozen 2
  have f3 := HB.out.2.1.frozen 3
  simp only [List.getElem?_toArray, List.getElem?_cons_zero, List.getElem?_cons_succ] at c2 c3
  have hx : Blk ((W.setCell ⟨w.heap.size, 2, none⟩ (.slice none 0 0)).setCell ⟨w.heap.size, 3, none⟩ (.slice none 0 0)) w.heap.size 32 #[.int .i64 8, .bool false, .slice none 0 0, .slice none 0 0] := by simpa using (HB.out.2.1.set_ 2 (.slice none 0 0)).set_ 3 (.slice none 0 0)
  have HX := Lib.hid hx
  clear hx
  go_wp2
  refine wp_loop_rounds 1 ?_
  rw [rounds_succ]
  go_wp2_with (first
    | (go_at_call 27; (with_reducible refine (HC.out _).mono ?_); rintro e w2 ⟨rfl, rfl⟩; dsimp only)
    | (refine wpList_load_row rfl 32 _ rfl w.heap.size rfl 32 #[.int .i64 8, .bool false, .slice none 0 0, .slice none 0 0] (0, 0) _ HX.out rfl rfl (by kernel_rfl) ?_)
    | (refine wpList_store_rowTo rfl 32 _ _ rfl rfl (w.heap.size + 1) #[.int .i64 8, .bool false, .slice none 0 0, .slice none 0 0] rfl rfl 32 #[.int .i64 0, .bool false, .slice none 0 0, .slice none 0 0] ((HB.out.2.2.far (p := ⟨w.heap.size, 2, none⟩) (by show w.heap.size + 1 ≠ w.heap.size; omega) (.slice none 0 0)).far (p := ⟨w.heap.size, 3, none⟩) (by show w.heap.size + 1 ≠ w.heap.size; omega) (.slice none 0 0)) (by kernel_rfl) rfl (by kernel_rfl) ?_))
  have k := ((HB.out.2.2.far (p := ⟨w.heap.size, 2, none⟩) (by show w.heap.size + 1 ≠ w.heap.size; omega) (.slice none 0 0)).far (p := ⟨w.heap.size, 3, none⟩) (by show w.heap.size + 1 ≠ w.heap.size; omega) (.slice none 0 0)).row #[.int .i64 8, .bool false, .slice none 0 0, .slice none 0 0]
  have hb3 := below_setRow (((HB.out.1.setCell (p := ⟨w.heap.size, 2, none⟩) (Nat.le_refl _) (.slice none 0 0)).setCell (p := ⟨w.heap.size, 3, none⟩) (Nat.le_refl _) (.slice none 0 0))) (Nat.le_succ w.heap.size) #[.int .i64 8, .bool false, .slice none 0 0, .slice none 0 0]
  generalize (((W.setCell ⟨w.heap.size, 2, none⟩ (.slice none 0 0)).setCell ⟨w.heap.size, 3, none⟩ (.slice none 0 0)).setRow (w.heap.size + 1) #[.int .i64 8, .bool false, .slice none 0 0, .slice none 0 0]) = W2 at k hb3 ⊢
  refine bodyPost_ret (v := r8) ?_ rfl ⟨rfl, hb3⟩
  have c0 := k.cell 0
  have c1 := k.cell 1
  have c2 := k.cell 2
  have c3 := k.cell 3
  simp only [List.getElem?_toArray, List.getElem?_cons_zero, List.getElem?_cons_succ] at c0 c1 c2 c3
  clear HB k hb3 f2 f3
  simp [results, Try.f15, go_sem, c0, c1, c2, c3]
open Go.Maps in
theorem law35 : Keyed Try.prog 35 := int_keyed Try.underlying35
abbrev mapE : Obj := .map #[] 0
abbrev mapP : Obj := .map #[{ key := .int .u64 7, val := row3, born := 0 }] 1
theorem zeroRow (w : World) : (zeroValue 48).run Try.prog w = .ok rowZ w := by kernel_rfl
open Go.Maps in
theorem look_e {w : World} {m : Nat} (hb : w.heap[m]? = some mapE) : (Instr.lookup 22 (.map (some m)) (.int .u64 7) true).run Try.prog w = .ok (.tuple #[rowZ, .bool false]) w := by
  have hkey : keyOf Try.prog 35 (.int .u64 7) = some (.int .u64 7) := keyOf_int_mk Try.underlying35 rfl
  rcases law35.find w hkey [] (by simp) with ⟨h1, _⟩ | ⟨j, e, _, h2, _⟩
  · simp [Instr.lookup, run_underlying Try.underlying22, MapKept.run_getObj_map hb, law35.check w _ hkey, h1, zeroRow, Result.andThen]
  · simp at h2
open Go.Maps in
theorem look_p {w : World} {m : Nat} (hb : w.heap[m]? = some mapP) : (Instr.lookup 22 (.map (some m)) (.int .u64 7) true).run Try.prog w = .ok (.tuple #[row3, .bool true]) w := by
  have hkey : keyOf Try.prog 35 (.int .u64 7) = some (.int .u64 7) := keyOf_int_mk Try.underlying35 rfl
  rcases law35.find w hkey [{ key := .int .u64 7, val := row3, born := 0 }] (by simp [hkey]) with ⟨_, h2⟩ | ⟨j, e, h1, h2, _⟩
  · exact absurd rfl (h2 _ (List.mem_singleton.2 rfl))
  · obtain rfl : e = { key := .int .u64 7, val := row3, born := 0 } := by
      have := List.mem_of_getElem? h2
      simpa using this
    simp [Instr.lookup, run_underlying Try.underlying22, MapKept.run_getObj_map hb, law35.check w _ hkey, h1, Result.andThen]
open Go.Maps in
theorem upd_e {w : World} {m : Nat} (hb : w.heap[m]? = some mapE) : (Instr.mapUpdate 22 (.map (some m)) (.int .u64 7) row3).run Try.prog w = .ok () (w.putObj m mapP) := by
  have hkey : keyOf Try.prog 35 (.int .u64 7) = some (.int .u64 7) := keyOf_int_mk Try.underlying35 rfl
  rcases law35.find w hkey [] (by simp) with ⟨h1, _⟩ | ⟨j, e, _, h2, _⟩
  · simp [Instr.mapUpdate, run_underlying Try.underlying22, MapKept.run_getObj_map hb, law35.check w _ hkey, h1, MapKept.run_setObj_map _ hb, Result.andThen, World.putObj]
  · simp at h2
theorem len_e {w : World} {m : Nat} (hb : w.heap[m]? = some mapE) (ty : TypeId) : (Builtin.len_ #[22] ty #[.map (some m)]).run Try.prog w = .ok (goInt 0) w := by
  have := run_len_map (w := w) 22 ty m #[] 0 Try.underlying22 hb
  simpa using this
end Go.Proofs.Ytknjlholbelpbaa.Tlv
