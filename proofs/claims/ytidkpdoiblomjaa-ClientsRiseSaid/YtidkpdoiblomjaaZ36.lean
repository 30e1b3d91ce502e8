/- New, Latest, Copy. -/
import Derived.Test.YtidkpdoiblomjaaZ35
namespace Go.Proofs.Ytidkpdoiblomjaa.Tlv
open Go.RowKit Go.Maps
set_option maxRecDepth 100000
set_option linter.unusedVariables false
set_option linter.unusedSimpArgs false
theorem new_any (base : Nat) (w : World) : Calls Try.prog 13 #[] w fun e w' => e = .returned (.pointer (some ⟨w.heap.size + 1, 0, none⟩)) ∧ Tab w' base (w.heap.size + 1) w.heap.size (fun _ => none) 0 ∧ w'.heap.size = w.heap.size + 2 ∧ Below w.heap.size w w' := by
 have hmk : (Instr.makeMap 67 none).run Try.prog w = .ok (.map (some w.heap.size)) (w.alloc (.map #[] 0)) := run_makeMap _ _
 have hr := Rep.new w base
 have HB := Lib.hid (And.intro ((Below.refl w.heap.size w).alloc (Nat.le_refl _) (.map #[] 0)) hr)
 clear hr
 go_enter Try.func13, Try.ntmps13
 go_wp2
 go_ret
 refine ⟨by simp, ⟨?_, ?_⟩, ?_, ?_⟩
 · have := Blk.new (w.alloc (.map #[] 0)) 72 #[.map (some w.heap.size)]
   rw [World.size_alloc] at this
   exact this
 · exact HB.out.2.on ((Below.refl _ _).alloc (Nat.le_refl _) _)
 · simp
 · exact HB.out.1.alloc HB.out.1.size _
def lateN (T : Tb) (c : Int) : Int := match T c with
 | some x => x.1
 | none => 0
def LateOut (w : World) (T : Tb) (c : Int) (e : Ending) (w' : World) : Prop := e = .returned (.tuple #[.int .u64 (lateN T c), .bool (T c).isSome]) ∧ Below w.heap.size w w'
theorem Found.late {w : World} {base : Nat} {T : Tb} {c a b : Int} {y : Bool} {v1 v2 : Value} {is : Bool} (h : Found w base T c a b y v1 v2 is) : a = lateN T c ∧ is = (T c).isSome := by
 rcases h with ⟨h1, h2, h3⟩ | ⟨r, h1, _, _, _, _, h3, _⟩
 · unfold lateN
   rw [h1]
   refine ⟨?_, h3⟩
   injection h2 with h2
   injection h2 with h2
   injection h2 with h2
   injection h2
 · unfold lateN
   rw [h1]
   exact ⟨rfl, h3⟩
theorem latest_any (g m base N : Nat) (T : Tb) (c : Int) (w : World) (h : Tab w base g m T N) (hc : InU c) : Calls Try.prog 10 #[.pointer (some ⟨g, 0, none⟩), .int .u64 c] w (LateOut w T c) := by
 have HF := Lib.hid (find_any g m base N T c w h hc)
 clear h hc
 go_enter Try.func10, Try.ntmps10
 go_upto_region 2 with (first
   | ((with_reducible refine HF.out.mono ?_); rintro e w1 ⟨a, b, y, A, l, k, B, l2, k2, is, rfl, hf, hb1⟩; dsimp only; have HB1 := Lib.hid (And.intro hb1 hf.late); clear hb1 hf)
   | (refine wpList_store_rowTo rfl 70 _ _ rfl rfl w1.heap.size #[.int .u64 a, .int .i64 b, .bool y, .slice A l k, .slice B l2 k2] rfl rfl 70 #[.int .u64 0, .int .i64 0, .bool false, .slice none 0 0, .slice none 0 0] (Blk.new w1 70 #[.int .u64 0, .int .i64 0, .bool false, .slice none 0 0, .slice none 0 0]) (by kernel_rfl) rfl (by kernel_rfl) ?_))
 have hb2 : Below w.heap.size w ((w1.alloc (.cells #[.int .u64 0, .int .i64 0, .bool false, .slice none 0 0, .slice none 0 0] 70)).setRow w1.heap.size #[.int .u64 a, .int .i64 b, .bool y, .slice A l k, .slice B l2 k2]) := below_setRow (HB1.out.1.alloc HB1.out.1.size (.cells #[.int .u64 0, .int .i64 0, .bool false, .slice none 0 0, .slice none 0 0] 70)) HB1.out.1.size #[.int .u64 a, .int .i64 b, .bool y, .slice A l k, .slice B l2 k2]
 have kk3 : Blk ((w1.alloc (.cells #[.int .u64 0, .int .i64 0, .bool false, .slice none 0 0, .slice none 0 0] 70)).setRow w1.heap.size #[.int .u64 a, .int .i64 b, .bool y, .slice A l k, .slice B l2 k2]) w1.heap.size 70 #[.int .u64 a, .int .i64 b, .bool y, .slice A l k, .slice B l2 k2] := (Blk.new w1 70 #[.int .u64 0, .int .i64 0, .bool false, .slice none 0 0, .slice none 0 0]).row #[.int .u64 a, .int .i64 b, .bool y, .slice A l k, .slice B l2 k2]
 have HB2 := Lib.hid hb2
 have c0 := kk3.cell 0
 simp only [List.getElem?_toArray, List.getElem?_cons_zero, List.getElem?_cons_succ] at c0
 generalize (w1.alloc (.cells #[.int .u64 0, .int .i64 0, .bool false, .slice none 0 0, .slice none 0 0] 70)).setRow w1.heap.size #[.int .u64 a, .int .i64 b, .bool y, .slice A l k, .slice B l2 k2] = W at HB2 c0 ⊢
 clear hb2 kk3
 go_wp2
 go_ret2
 exact ⟨by rw [← HB1.out.2.1, ← HB1.out.2.2]; rfl, HB2.out⟩
theorem cloneMap (m : Nat) (es : Array MapEntry) (clock : Nat) (w : World) (hb : w.heap[m]? = some (.map es clock)) : Calls Try.prog 23 #[.map (some m)] w fun e w' => e = .returned (.map (some w.heap.size)) ∧ w' = w.alloc (.map es clock) := by
 have hq := mapsome m w
 go_enter Try.func23, Try.ntmps23
 go_wp2
 rw [run_callFunc_extern Try.func39 (by kernel_rfl) (by kernel_rfl) (by kernel_rfl) (e := Extern.MapsClone.clone) (by kernel_rfl), run_maps_clone_sl w 67 hb]
 simp only [Result.andThen]
 rw [Oper.upon_value]
 go_wp2
 rw [run_typeAssert_map_sl _ 67 20 _ _ _ Try.underlying67]
 simp only [Result.andThen]
 rw [Oper.upon_value]
 go_wp2
 go_ret
 exact ⟨rfl, rfl⟩
theorem Rep.cloned {w : World} {base m N : Nat} {T : Tb} {es : Array MapEntry} {clock : Nat} (h : Rep w base m T N) (hb : w.heap[m]? = some (.map es clock)) : Rep (w.alloc (.map es clock)) base w.heap.size T N := by
 have hB : Below w.heap.size w (w.alloc (.map es clock)) := (Below.refl _ w).alloc (Nat.le_refl _) _
 obtain ⟨h0, D, ⟨es', clock', hb', F, hs, hD⟩, h2, h3, h4⟩ := h
 rw [hb] at hb'
 injection hb' with e
 injection e with e1 e2
 subst e1 e2
 refine ⟨h0, D, ⟨es, clock, (MapKept.heap_alloc w _).1, F, hs, hD⟩, h2, h3, fun c n r hc hT => ?_⟩
 obtain ⟨a1, a2, a3, A, l, k, B, l2, k2, a4, a5⟩ := h4 c n r hc hT
 exact ⟨a1, a2, a3, A, l, k, B, l2, k2, a4, a5.keepB fun k t cs _ hB2 => hB.block k hB2.lt⟩
theorem copy_tab (g m base N : Nat) (T : Tb) (w : World) (h : Tab w base g m T N) : Calls Try.prog 9 #[.pointer (some ⟨g, 0, none⟩)] w fun e w' => e = .returned (.pointer (some ⟨w.heap.size + 1, 0, none⟩)) ∧ Tab w' base (w.heap.size + 1) w.heap.size T N ∧ w'.heap.size = w.heap.size + 2 ∧ Below w.heap.size w w' := by
 obtain ⟨es, clock, hm⟩ := h.rep.map
 have c0 := h.blk.cell 0
 simp only [List.getElem?_toArray, List.getElem?_cons_zero, List.getElem?_cons_succ] at c0
 have HN := Lib.hid (none_there g m w c0)
 have HC := Lib.hid (cloneMap m es clock w hm)
 have HR := Lib.hid (And.intro ((Below.refl w.heap.size w).alloc (Nat.le_refl _) (.map es clock)) (h.rep.cloned hm))
 clear h hm
 go_enter Try.func9, Try.ntmps9
 go_wp2_with (first
   | (go_at_call 22; with_reducible refine HN.out.mono ?_; rintro e w2 ⟨rfl, rfl⟩; dsimp only)
   | (go_at_call 23; (with_reducible refine HC.out.mono ?_); rintro e w3 ⟨rfl, rfl⟩; dsimp only))
 go_ret
 refine ⟨by simp, ⟨?_, ?_⟩, by simp, ?_⟩
 · have := Blk.new (w.alloc (.map es clock)) 72 #[.map (some w.heap.size)]
   rw [World.size_alloc] at this
   exact this
 · exact HR.out.2.on ((Below.refl _ _).alloc (Nat.le_refl _) _)
 · exact HR.out.1.alloc HR.out.1.size _
end Go.Proofs.Ytidkpdoiblomjaa.Tlv
