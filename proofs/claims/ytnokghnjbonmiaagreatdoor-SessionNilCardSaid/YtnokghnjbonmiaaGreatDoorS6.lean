/- The request's message: its bytes. -/
import Derived.Test.YtnokghnjbonmiaaGreatDoorS5
import Derived.Test.YtnokghnjbonmiaaGreatDoorS2
import Derived.Lib.QuietBelow
namespace Go.Proofs.YtnokghnjbonmiaaGreatDoor.Tlv
open Go.RowKit
set_option maxRecDepth 100000
set_option linter.unusedVariables false
set_option linter.unusedSimpArgs false

open Go.Lib Go.Sort
abbrev qN : List Int := [] ++ valB 1 (be8 1)
theorem qN_len : qN.length = 13 := by rw [show qN = [] ++ valB 1 (be8 1) from rfl, List.length_append, valB_len]; rfl
theorem qM_len : (qN ++ valB 7 (rqB 1)).length = 68 := by rw [List.length_append, qN_len, valB_len, rqB_len]
/-- A whole row, loaded in a region that only reads. -/
theorem wpQuiet_row {P : Program} {ops : Array Oper} {C : World → Prop} {Q : Act → Prop} {a : Act} {o : Oper} {rest : List Oper} (ty : TypeId) (x : Operand) (ho : o.op = .load ty x) (D : Addr) (cs : Array Value) (hw : Region.wanted o (yielded ops a.tmps) = true) (hx : a.eval x = .pointer (some D))
    (hl : ∀ w, C w → (loadVar ty D).run P w = .ok (.agg cs) w) (h : wpQuiet P ops C Q rest (a.put o.dst (.agg cs))) : wpQuiet P ops C Q (o :: rest) a := by
  unfold wpQuiet
  rw [if_pos hw]
  refine ⟨.agg cs, fun w hC => ?_, h⟩
  unfold Oper.quietAt execOp
  simp only [ho, hx, Instr.loadAt, Instr.sureAddr, Sem.run_bind, Sem.run_pure, Result.andThen_ok, hl w hC]
  exact ⟨rfl, rfl⟩
set_option maxHeartbeats 16000000 in
theorem msgBytes (w : World) : Calls Tryz.prog 28 #[msV] w fun e w' => ∃ A n c, e = .returned (.tuple #[.slice A n c, .int .i64 0]) ∧ Below w.heap.size w w' := by
  have hb := (Below.refl w.heap.size w).alloc (Nat.le_refl _) (.cells #[.int .i64 1, .int .u64 0, .int .u64 0, .int .i64 0, .int .u64 0, .int .u64 0, .int .u64 1, .int .u64 1, .int .i64 6, .string ⟨#[97]⟩, .string ⟨#[]⟩, .slice none 0 0, .slice none 0 0, .slice none 0 0, .int .i64 0, .int .i64 0, .bool false, .slice none 0 0, .slice none 0 0, .int .u64 0, .int .u64 0, .int .u64 0, .slice none 0 0, .slice none 0 0, .int .u64 0, .bool false, .slice none 0 0] 60)
  have kM := Blk.new w 60 #[.int .i64 1, .int .u64 0, .int .u64 0, .int .i64 0, .int .u64 0, .int .u64 0, .int .u64 1, .int .u64 1, .int .i64 6, .string ⟨#[97]⟩, .string ⟨#[]⟩, .slice none 0 0, .slice none 0 0, .slice none 0 0, .int .i64 0, .int .i64 0, .bool false, .slice none 0 0, .slice none 0 0, .int .u64 0, .int .u64 0, .int .u64 0, .slice none 0 0, .slice none 0 0, .int .u64 0, .bool false, .slice none 0 0]
  have HW := Lib.hid (And.intro hb kM)
  clear hb kM
  go_enter Tryz.func28, Tryz.ntmps28
  go_upto_region 1 with fail
  obtain ⟨W0, hW0⟩ : ∃ W0, W0 = w.alloc (.cells #[.int .i64 1, .int .u64 0, .int .u64 0, .int .i64 0, .int .u64 0, .int .u64 0, .int .u64 1, .int .u64 1, .int .i64 6, .string ⟨#[97]⟩, .string ⟨#[]⟩, .slice none 0 0, .slice none 0 0, .slice none 0 0, .int .i64 0, .int .i64 0, .bool false, .slice none 0 0, .slice none 0 0, .int .u64 0, .int .u64 0, .int .u64 0, .slice none 0 0, .slice none 0 0, .int .u64 0, .bool false, .slice none 0 0] 60) := ⟨_, rfl⟩
  rw [← hW0] at HW ⊢
  clear hW0
  go_upto_region 2 with (first
    | (refine wpList_load_row rfl 60 _ rfl w.heap.size rfl 60 #[.int .i64 1, .int .u64 0, .int .u64 0, .int .i64 0, .int .u64 0, .int .u64 0, .int .u64 1, .int .u64 1, .int .i64 6, .string ⟨#[97]⟩, .string ⟨#[]⟩, .slice none 0 0, .slice none 0 0, .slice none 0 0, .int .i64 0, .int .i64 0, .bool false, .slice none 0 0, .slice none 0 0, .int .u64 0, .int .u64 0, .int .u64 0, .slice none 0 0, .slice none 0 0, .int .u64 0, .bool false, .slice none 0 0] (0, 0) _ HW.out.2 rfl rfl (by kernel_rfl) ?_)
    | (with_reducible refine (fieldsOf1 _).mono ?_; rintro e W1 ⟨rfl, hb1⟩; dsimp only; have HW1 := Lib.hid (And.intro (HW.out.1.trans (hb1.mono HW.out.1.size)) (HW.out.2.on hb1)); clear hb1)
    | (refine wpList_store_rowTo rfl 102 _ _ rfl rfl W1.heap.size #[.bool false, .bool false, .bool false, .bool false, .bool true, .bool false, .bool false, .bool false, .bool false, .bool false, .bool false] rfl rfl 102 #[.bool false, .bool false, .bool false, .bool false, .bool false, .bool false, .bool false, .bool false, .bool false, .bool false, .bool false] (Blk.new W1 102 #[.bool false, .bool false, .bool false, .bool false, .bool false, .bool false, .bool false, .bool false, .bool false, .bool false, .bool false]) (by kernel_rfl) rfl (by kernel_rfl) ?_))
  have hb2 : Below w.heap.size w ((W1.alloc (.cells #[.bool false, .bool false, .bool false, .bool false, .bool false, .bool false, .bool false, .bool false, .bool false, .bool false, .bool false] 102)).setRow W1.heap.size #[.bool false, .bool false, .bool false, .bool false, .bool true, .bool false, .bool false, .bool false, .bool false, .bool false, .bool false]) := below_setRow (HW1.out.1.alloc HW1.out.1.size (.cells #[.bool false, .bool false, .bool false, .bool false, .bool false, .bool false, .bool false, .bool false, .bool false, .bool false, .bool false] 102)) HW1.out.1.size #[.bool false, .bool false, .bool false, .bool false, .bool true, .bool false, .bool false, .bool false, .bool false, .bool false, .bool false]
  have kM2 : Blk ((W1.alloc (.cells #[.bool false, .bool false, .bool false, .bool false, .bool false, .bool false, .bool false, .bool false, .bool false, .bool false, .bool false] 102)).setRow W1.heap.size #[.bool false, .bool false, .bool false, .bool false, .bool true, .bool false, .bool false, .bool false, .bool false, .bool false, .bool false]) w.heap.size 60 #[.int .i64 1, .int .u64 0, .int .u64 0, .int .i64 0, .int .u64 0, .int .u64 0, .int .u64 1, .int .u64 1, .int .i64 6, .string ⟨#[97]⟩, .string ⟨#[]⟩, .slice none 0 0, .slice none 0 0, .slice none 0 0, .int .i64 0, .int .i64 0, .bool false, .slice none 0 0, .slice none 0 0, .int .u64 0, .int .u64 0, .int .u64 0, .slice none 0 0, .slice none 0 0, .int .u64 0, .bool false, .slice none 0 0] := (HW1.out.2.alloc (.cells #[.bool false, .bool false, .bool false, .bool false, .bool false, .bool false, .bool false, .bool false, .bool false, .bool false, .bool false] 102)).rowFar (by have := HW1.out.2.lt; omega) #[.bool false, .bool false, .bool false, .bool false, .bool true, .bool false, .bool false, .bool false, .bool false, .bool false, .bool false]
  have kF2 : Blk ((W1.alloc (.cells #[.bool false, .bool false, .bool false, .bool false, .bool false, .bool false, .bool false, .bool false, .bool false, .bool false, .bool false] 102)).setRow W1.heap.size #[.bool false, .bool false, .bool false, .bool false, .bool true, .bool false, .bool false, .bool false, .bool false, .bool false, .bool false]) W1.heap.size 102 #[.bool false, .bool false, .bool false, .bool false, .bool true, .bool false, .bool false, .bool false, .bool false, .bool false, .bool false] := (Blk.new W1 102 #[.bool false, .bool false, .bool false, .bool false, .bool false, .bool false, .bool false, .bool false, .bool false, .bool false, .bool false]).row #[.bool false, .bool false, .bool false, .bool false, .bool true, .bool false, .bool false, .bool false, .bool false, .bool false, .bool false]
  obtain ⟨k, hk⟩ : ∃ k, k = W1.heap.size := ⟨_, rfl⟩
  rw [← hk] at hb2 kM2 kF2 ⊢
  generalize (W1.alloc (.cells #[.bool false, .bool false, .bool false, .bool false, .bool false, .bool false, .bool false, .bool false, .bool false, .bool false, .bool false] 102)).setRow k #[.bool false, .bool false, .bool false, .bool false, .bool true, .bool false, .bool false, .bool false, .bool false, .bool false, .bool false] = W at *
  clear hk HW1 HW
  have HK := Lib.hid (And.intro hb2 (And.intro kM2 kF2))
  clear hb2
  have g0 : W.cell? ⟨w.heap.size, 3, none⟩ = some (.int .i64 0) := kM2.cell 3
  have g1 : W.cell? ⟨w.heap.size, 23, none⟩ = some (.slice none 0 0) := kM2.cell 23
  have g2 : W.cell? ⟨w.heap.size, 26, none⟩ = some (.slice none 0 0) := kM2.cell 26
  have e0 := cell_regrown g0
  have e1 := cell_regrown g1
  have e2 := cell_regrown g2
  have hLM : ∀ W', (∃ p : Regrown, W' = grow (redrawn W p.d) p.os) → (loadVar 60 ⟨w.heap.size, 0, none⟩).run Tryz.prog W' = .ok (.agg #[.int .i64 1, .int .u64 0, .int .u64 0, .int .i64 0, .int .u64 0, .int .u64 0, .int .u64 1, .int .u64 1, .int .i64 6, .string ⟨#[97]⟩, .string ⟨#[]⟩, .slice none 0 0, .slice none 0 0, .slice none 0 0, .int .i64 0, .int .i64 0, .bool false, .slice none 0 0, .slice none 0 0, .int .u64 0, .int .u64 0, .int .u64 0, .slice none 0 0, .slice none 0 0, .int .u64 0, .bool false, .slice none 0 0]) W' := by
    rintro _ ⟨p, rfl⟩
    have h : Blk (grow (redrawn W p.d) p.os) w.heap.size 60 #[.int .i64 1, .int .u64 0, .int .u64 0, .int .i64 0, .int .u64 0, .int .u64 0, .int .u64 1, .int .u64 1, .int .i64 6, .string ⟨#[97]⟩, .string ⟨#[]⟩, .slice none 0 0, .slice none 0 0, .slice none 0 0, .int .i64 0, .int .i64 0, .bool false, .slice none 0 0, .slice none 0 0, .int .u64 0, .int .u64 0, .int .u64 0, .slice none 0 0, .slice none 0 0, .int .u64 0, .bool false, .slice none 0 0] := kM2.on (below_regrown W p.d p.os)
    exact run_loadVar_mid _ _ 0 60 _ _ (h.range 0 (#[.int .i64 1, .int .u64 0, .int .u64 0, .int .i64 0, .int .u64 0, .int .u64 0, .int .u64 1, .int .u64 1, .int .i64 6, .string ⟨#[97]⟩, .string ⟨#[]⟩, .slice none 0 0, .slice none 0 0, .slice none 0 0, .int .i64 0, .int .i64 0, .bool false, .slice none 0 0, .slice none 0 0, .int .u64 0, .int .u64 0, .int .u64 0, .slice none 0 0, .slice none 0 0, .int .u64 0, .bool false, .slice none 0 0] : Array Value).toList rfl) rfl rfl (by kernel_rfl)
  have HLM := Lib.hid hLM
  have hLF : ∀ W', (∃ p : Regrown, W' = grow (redrawn W p.d) p.os) → (loadVar 102 ⟨k, 0, none⟩).run Tryz.prog W' = .ok (.agg #[.bool false, .bool false, .bool false, .bool false, .bool true, .bool false, .bool false, .bool false, .bool false, .bool false, .bool false]) W' := by
    rintro _ ⟨p, rfl⟩
    have h : Blk (grow (redrawn W p.d) p.os) k 102 #[.bool false, .bool false, .bool false, .bool false, .bool true, .bool false, .bool false, .bool false, .bool false, .bool false, .bool false] := kF2.on (below_regrown W p.d p.os)
    exact run_loadVar_mid _ _ 0 102 _ _ (h.range 0 (#[.bool false, .bool false, .bool false, .bool false, .bool true, .bool false, .bool false, .bool false, .bool false, .bool false, .bool false] : Array Value).toList rfl) rfl rfl (by kernel_rfl)
  have HLF := Lib.hid hLF
  have cN := fun d os => Calls.regrown_of (named1 (grow (redrawn W d) os))
  have cS := fun d os => Calls.regrown_of (sameMsg (grow (redrawn W d) os))
  clear g0 g1 g2 kM2 kF2 hLM hLF
  refine wp_region_quiet_below (by kernel_rfl) (by kernel_rfl) ?_
  repeat
    first
      | (refine wpQuiet_row 60 (.tmp 1) rfl ⟨w.heap.size, 0, none⟩ _ (by kernel_rfl) rfl HLM.out ?_)
      | (refine wpQuiet_row 102 (.tmp 4) rfl ⟨k, 0, none⟩ _ (by kernel_rfl) rfl HLF.out ?_)
      | (with_reducible refine wpQuiet_step (fun K hK => ?_)
         go_simp
         first
           | (with_reducible refine hK _ ?_; clear hK K)
           | (rw [if_neg (by first | decide | (intro h; cases h))]; with_reducible refine hK _ ?_; clear hK K)
           | (apply Exists.intro; refine ⟨fun _ => ?_, hK _ ?_⟩; (first | exact cN _ _ | exact cS _ _); clear hK K))
  with_reducible refine wpQuiet_nil ?_
  rintro _ ⟨⟨dq, osq⟩, rfl⟩
  have hq := below_regrown W dq osq
  have HK2 := Lib.hid (And.intro (HK.out.1.trans (hq.mono HK.out.1.size)) (And.intro (HK.out.2.1.on hq) (HK.out.2.2.on hq)))
  clear hq e0 e1 e2 cN cS HLM HLF HK
  generalize grow (redrawn W dq) osq = w2 at HK2 ⊢
  have hws : WS (w2.alloc (.cells #[.slice none 0 0, .int .i64 0, .int .i64 0] 109)) w2.heap.size w2.heap.size (some []) 0 := ws_new w2
  have hb3 : Below w2.heap.size w2 (w2.alloc (.cells #[.slice none 0 0, .int .i64 0, .int .i64 0] 109)) := (Below.refl _ _).alloc (Nat.le_refl _) _
  have HN1 := Lib.hid (number_any w2.heap.size (some []) 0 1 1 w2.heap.size _ hws hb3.size (by decide) (by decide) (by decide) (by decide) (fun l e => by injection e with e; subst e; decide) (by decide) (Nat.le_refl _))
  have g0 : (w2.alloc (.cells #[.slice none 0 0, .int .i64 0, .int .i64 0] 109)).cell? ⟨w.heap.size, 0, none⟩ = some (.int .i64 1) := (HK2.out.2.1.on hb3).cell 0
  have HB3 := Lib.hid hb3
  have hcv : ∀ W, (convert 56 22 (.int .i64 1)).run Tryz.prog W = .ok (.int .u64 1) W := fun _ => rfl
  clear hws hb3
  go_upto_region 9 with (first
    | (with_reducible refine HN1.out.mono ?_; clear HN1 g0 hcv; rintro e w5 ⟨rfl, hs5, hwb5⟩; dsimp only; rw [puts_app (by decide)] at hs5; have HB5 := Lib.hid (HB3.out.trans hwb5.bel); have HS5 := Lib.hid hs5; have HP := Lib.hid (put1 w2.heap.size _ w2.heap.size qN w5 hs5 (Nat.le_refl _) (by rw [qN_len]; decide) (by decide)); clear hs5 hwb5)
    | (refine wpList_load_row rfl 60 _ rfl w.heap.size rfl 60 #[.int .i64 1, .int .u64 0, .int .u64 0, .int .i64 0, .int .u64 0, .int .u64 0, .int .u64 1, .int .u64 1, .int .i64 6, .string ⟨#[97]⟩, .string ⟨#[]⟩, .slice none 0 0, .slice none 0 0, .slice none 0 0, .int .i64 0, .int .i64 0, .bool false, .slice none 0 0, .slice none 0 0, .int .u64 0, .int .u64 0, .int .u64 0, .slice none 0 0, .slice none 0 0, .int .u64 0, .bool false, .slice none 0 0] (0, 0) _ (HK2.out.2.1.on HB5.out) rfl rfl (by kernel_rfl) ?_)
    | (refine wpList_load_row rfl 102 _ rfl k rfl 102 #[.bool false, .bool false, .bool false, .bool false, .bool true, .bool false, .bool false, .bool false, .bool false, .bool false, .bool false] (0, 0) _ (HK2.out.2.2.on HB5.out) rfl rfl (by kernel_rfl) ?_)
    | (with_reducible refine HP.out.mono ?_; clear HP; rintro e w6 ⟨rfl, hs6, hwb6⟩; dsimp only; have HB6 := Lib.hid (HB5.out.trans hwb6.bel); have HEN := Lib.hid (ended_ws _ _ _ _ _ hs6 (by rw [qM_len]; decide)); clear hs6 hwb6)
    | (with_reducible refine HEN.out.mono ?_; clear HEN; rintro e w8 ⟨v8, rfl, hr8, hb8⟩; dsimp only; have HB8 := Lib.hid (HK2.out.1.trans ((HB6.out.trans (hb8.mono HB6.out.size)).mono HK2.out.1.size)); obtain ⟨A8, c8, rfl, _, _⟩ := hr8.rd; rw [qM_len]; clear hr8 hb8))
  go_wp2
  go_ret2
  exact ⟨A8, 68, c8, rfl, HB8.out⟩
end Go.Proofs.YtnokghnjbonmiaaGreatDoor.Tlv
