/- The document's text of runes (blazonref01.Encode). -/
import Derived.Test.YtnokocaodnanoaaEnc
namespace Go.Proofs.Ytnokocaodnanoaa
open Go.RowKit
set_option linter.unusedVariables false

theorem wpList_bytes {w : World} {ops : Array Oper} {rest : List Oper} {o : Oper} {a : Act} {Q : Exit → Act → World → Prop} (hgd : o.guard = none) (s x : Operand)
    (ho : o.op = .call { callee := .builtin .append, args := #[s, x], argTypes := #[29, 29] })
    {base : Nat} {v : Value} {l : List Int} (m : List Int) (hs : a.eval s = v) (hown : Row w base v l) (hx : a.eval x = .slice (some ⟨w.heap.size, 0, none⟩) m.length m.length)
    (hn : l.length + m.length ≤ 140737488355328) (hb : base ≤ w.heap.size)
    (h : ∀ v' w', Row w' base v' (l ++ m) → Below base w w' → wpList Try.prog ops Q rest (a.put o.dst v') w') :
    wpList Try.prog ops Q (o :: rest) a (w.alloc (.cells (m.map (Value.int .u8)).toArray 5)) := by
  obtain ⟨i0, hi, hz0, hz1, hz2⟩ := info_parts info5
  refine wpList_append_own (w := w.alloc (.cells (m.map (Value.int .u8)).toArray 5)) hgd s x 29 ho base 5 i0 (.int .u8 0) 1 1 Try.underlying29 hi hz0 hz1 hz2 rfl (by decide) v l.length (l.map (Value.int .u8)) hs
    (World.ownsRow.alloc hown _) ⟨w.heap.size, 0, none⟩ m.length m.length (m.map (Value.int .u8)) hx (by simp) ?_ ?_ ?_ ?_ ?_ ?_
  · intro j u hu
    rw [show (⟨w.heap.size, 0, none⟩ : Addr).add j = ⟨w.heap.size, j, none⟩ from by unfold Addr.add; by_cases h : j = 0 <;> simp [h]]
    rw [World.cell?_alloc_at _ _ _ _ rfl]
    simpa using hu
  · intro u hu
    obtain ⟨y, _, rfl⟩ := List.mem_map.1 hu
    rfl
  · unfold maxLen; omega
  · omega
  · simp; omega
  · intro v' w' h2 h3 _
    refine h v' w' ?_ ?_
    · unfold Row; simpa using h2
    · exact ((Below.refl base w).alloc hb _).grown h3 (by simp; omega) (fun k hk => (World.ownsRow.lt hown k hk).1)

set_option maxHeartbeats 1000000 in
theorem refEnc_any (zs : List Int) (A : Option Addr) (cap : Nat) (w : World) (hin : In32 w w.heap.size A zs) (hn : zs.length ≤ 9000) (hm : ∀ z ∈ zs, mayB z = true) :
    Calls Try.prog 24 #[.slice A zs.length cap] w fun e w' => e = .returned (.string (mkS (encI zs))) ∧ Below w.heap.size w w' := by
  go_enter Try.func24, Try.ntmps24
  go_wp2
  go_loopw [3, 4] (fun v i wr => ∃ k : Nat, i = .int .i64 k ∧ k ≤ zs.length ∧ Row wr w.heap.size v (encI (zs.take k)) ∧ Below w.heap.size w wr) (fun _ i _ => zs.length - (intOf i).toNat)
  case atStart => exact ⟨0, rfl, Nat.zero_le _, World.ownsRow_nil _ _ _ _, Below.refl _ _⟩
  case round =>
    obtain ⟨k, rfl, hk, hrow, hb⟩ := hrel
    by_cases hlt : k < zs.length
    · obtain ⟨b, off, rfl, hbB, hc⟩ := hin (by omega)
      have hc' := (hb.cell (p := ⟨b, off + k, none⟩) hbB).trans (hc k hlt)
      have hlen := encI_len (zs.take k)
      have hlk : (zs.take k).length ≤ k := List.length_take_le _ _
      have hpp := put_any (zs.getD k 0) wr (hm _ (getD_mem zs k hlt))
      have hp4 := putI_len4 (zs.getD k 0)
      have HE := Lib.hid (take_snoc zs k hlt)
      have Hp := Lib.hid hpp
      generalize zs.getD k 0 = z at *
      clear hc hpp hm
      go_wp2_with (first
        | (go_at_call 13; refine Hp.out.mono ?_; rintro e w2 ⟨rfl, rfl⟩)
        | (at_builtin; refine wpList_bytes rfl _ _ rfl (putI z) rfl hrow rfl (by omega) hb.size ?_; intro v2 w2 hrow2 hb2))
      go_roundw
      case rel => exact ⟨k + 1, by go_num, by omega, by rw [HE.out, encI_snoc]; exact hrow2, hb.trans hb2⟩
      case measure => simp [intOf]; omega
    · have e : k = zs.length := by omega
      subst e
      have hcv := conv_row hrow
      go_wp2
      go_ret
      exact ⟨rfl, hb⟩
end Go.Proofs.Ytnokocaodnanoaa
