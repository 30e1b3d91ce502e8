/- utf.put appends a rune's bytes. -/
import Derived.Test.YtnokocaodnanoaaPut
import Derived.OwnWalk
namespace Go.Proofs.Ytnokocaodnanoaa
open Go.RowKit
set_option linter.unusedVariables false

theorem info5 : (Try.prog.info? 5).map (fun i => (i.zero, i.size, i.bytes)) = some (some (.int .u8 0), 1, 1) := by kernel_rfl

/-- A slice of bytes that the call owns, from block 'base' on: it holds l. -/
def Row (w : World) (base : Nat) (v : Value) (l : List Int) : Prop := w.ownsRow base 5 1 v l.length (l.map (Value.int .u8))

theorem wpList_byte {w : World} {ops : Array Oper} {rest : List Oper} {o : Oper} {a : Act} {Q : Exit → Act → World → Prop} (hgd : o.guard = none) (s x : Operand)
    (ho : o.op = .call { callee := .builtin .append, args := #[s, x], argTypes := #[29, 29] })
    {base : Nat} {v : Value} {l : List Int} (y : Int) (hs : a.eval s = v) (hown : Row w base v l) (hx : a.eval x = .slice (some ⟨w.heap.size, 0, none⟩) 1 1)
    (hn : l.length + 1 ≤ 140737488355328) (hb : base ≤ w.heap.size)
    (h : ∀ v' w', Row w' base v' (l ++ [y]) → Below base w w' → wpList Try.prog ops Q rest (a.put o.dst v') w') :
    wpList Try.prog ops Q (o :: rest) a (w.alloc (.cells #[.int .u8 y] 5)) := by
  obtain ⟨i0, hi, hz0, hz1, hz2⟩ := info_parts info5
  refine wpList_append_own (w := w.alloc (.cells #[.int .u8 y] 5)) hgd s x 29 ho base 5 i0 (.int .u8 0) 1 1 Try.underlying29 hi hz0 hz1 hz2 rfl (by decide) v l.length (l.map (Value.int .u8)) hs
    (World.ownsRow.alloc hown _) ⟨w.heap.size, 0, none⟩ 1 1 [.int .u8 y] hx rfl ?_ ?_ ?_ ?_ ?_ ?_
  · intro j u hu
    have hj : j = 0 := by cases j with | zero => rfl | succ k => simp at hu
    subst hj
    have hu' : Value.int .u8 y = u := by simpa using hu
    rw [show (⟨w.heap.size, 0, none⟩ : Addr).add 0 = ⟨w.heap.size, 0, none⟩ from by simp [Addr.add], World.cell?_alloc_at _ _ _ _ rfl, ← hu']
    rfl
  · intro u hu; simp at hu; subst hu; rfl
  · unfold maxLen; omega
  · omega
  · simp; omega
  · intro v' w' h2 h3 _
    refine h v' w' ?_ ?_
    · unfold Row; simpa using h2
    · exact ((Below.refl base w).alloc hb _).grown h3 (by simp; omega) (fun k hk => (World.ownsRow.lt hown k hk).1)

set_option maxHeartbeats 1000000 in
theorem uput1 (r : Int) (w : World) (base : Nat) (v : Value) (l : List Int) (h0 : 0 ≤ r) (h1 : r ≤ 127) (hrow : Row w base v l) (hn : l.length + 4 ≤ 140737488355328) (hb : base ≤ w.heap.size) :
    Calls Try.prog 27 #[v, .int .i32 r] w fun e w' => ∃ v', e = .returned v' ∧ Row w' base v' (l ++ [r]) ∧ Below base w w' := by
  have hsz := fun W => size_any r W
  rw [show sizeI r = 1 from by unfold sizeI mayB; rw [if_neg (by simp; omega), if_pos h1]] at hsz
  have Hz := Lib.hid hsz
  clear hsz
  go_enter Try.func27, Try.ntmps27
  go_wp2_with (first
    | (go_at_call 15; refine (Hz.out _).mono ?_; rintro e w' ⟨rfl, rfl⟩)
    | (go_at_call 29; refine (first1_any r _ h0 h1).mono ?_; rintro e w' ⟨rfl, rfl⟩)
    | (at_builtin; refine wpList_byte rfl _ _ rfl r rfl hrow rfl (by omega) hb ?_; intro v1 w1 hrow1 hb1))
  go_ret
  exact ⟨v1, rfl, hrow1, hb1⟩

set_option maxHeartbeats 2000000 in
theorem uput2 (r : Int) (w : World) (base : Nat) (v : Value) (l : List Int) (h0 : 128 ≤ r) (h1 : r ≤ 2047) (hm : mayB r = true) (hrow : Row w base v l) (hn : l.length + 4 ≤ 140737488355328) (hb : base ≤ w.heap.size) :
    Calls Try.prog 27 #[v, .int .i32 r] w fun e w' => ∃ v', e = .returned v' ∧ Row w' base v' (l ++ [192 + r / 64, 128 + r % 64]) ∧ Below base w w' := by
  have hsz := fun W => size_any r W
  rw [show sizeI r = 2 from by unfold sizeI; rw [if_neg (by rw [hm]; simp), if_neg (by omega), if_pos h1]] at hsz
  have Hz := Lib.hid hsz
  clear hsz hm
  go_enter Try.func27, Try.ntmps27
  go_wp2_with (first
    | (go_at_call 15; refine (Hz.out _).mono ?_; rintro e w' ⟨rfl, rfl⟩)
    | (go_at_call 29; refine (first2_any r _ h0 h1).mono ?_; rintro e w' ⟨rfl, rfl⟩)
    | (go_at_call 30; with_reducible refine (next_any (r) _ (by omega) (by omega)).mono ?_; rintro e w' ⟨rfl, rfl⟩)
    | (at_builtin; refine wpList_byte rfl _ _ rfl (192 + r / 64) rfl hrow rfl (by omega) hb ?_; intro v1 w1 hrow1 hc1; have hb1 : Below base w w1 := hc1; clear hc1)
    | (at_builtin; refine wpList_byte rfl _ _ rfl (128 + r % 64) rfl hrow1 rfl (by simp; omega) (by have := hb1.size; omega) ?_; intro v2 w2 hrow2 hc2; have hb2 : Below base w w2 := hb1.trans hc2; clear hc2))
  go_ret
  exact ⟨v2, rfl, by simpa using hrow2, hb2⟩

set_option maxHeartbeats 2000000 in
theorem uput3 (r : Int) (w : World) (base : Nat) (v : Value) (l : List Int) (h0 : 2048 ≤ r) (h1 : r ≤ 65535) (hm : mayB r = true) (hrow : Row w base v l) (hn : l.length + 4 ≤ 140737488355328) (hb : base ≤ w.heap.size) :
    Calls Try.prog 27 #[v, .int .i32 r] w fun e w' => ∃ v', e = .returned v' ∧ Row w' base v' (l ++ [224 + r / 4096, 128 + r / 64 % 64, 128 + r % 64]) ∧ Below base w w' := by
  have hsz := fun W => size_any r W
  rw [show sizeI r = 3 from by unfold sizeI; rw [if_neg (by rw [hm]; simp), if_neg (by omega), if_neg (by omega), if_pos h1]] at hsz
  have Hz := Lib.hid hsz
  clear hsz hm
  go_enter Try.func27, Try.ntmps27
  go_wp2_with (first
    | (go_at_call 15; refine (Hz.out _).mono ?_; rintro e w' ⟨rfl, rfl⟩)
    | (go_at_call 29; refine (first3_any r _ h0 h1).mono ?_; rintro e w' ⟨rfl, rfl⟩)
    | (go_at_call 30; with_reducible refine (next_any (r / 64) _ (by omega) (by omega)).mono ?_; rintro e w' ⟨rfl, rfl⟩)
    | (go_at_call 30; with_reducible refine (next_any (r) _ (by omega) (by omega)).mono ?_; rintro e w' ⟨rfl, rfl⟩)
    | (at_builtin; refine wpList_byte rfl _ _ rfl (224 + r / 4096) rfl hrow rfl (by omega) hb ?_; intro v1 w1 hrow1 hc1; have hb1 : Below base w w1 := hc1; clear hc1)
    | (at_builtin; refine wpList_byte rfl _ _ rfl (128 + r / 64 % 64) rfl hrow1 rfl (by simp; omega) (by have := hb1.size; omega) ?_; intro v2 w2 hrow2 hc2; have hb2 : Below base w w2 := hb1.trans hc2; clear hc2)
    | (at_builtin; refine wpList_byte rfl _ _ rfl (128 + r % 64) rfl hrow2 rfl (by simp; omega) (by have := hb2.size; omega) ?_; intro v3 w3 hrow3 hc3; have hb3 : Below base w w3 := hb2.trans hc3; clear hc3))
  go_ret
  exact ⟨v3, rfl, by simpa using hrow3, hb3⟩

set_option maxHeartbeats 2000000 in
theorem uput4 (r : Int) (w : World) (base : Nat) (v : Value) (l : List Int) (h0 : 65536 ≤ r) (h1 : r ≤ 1114111) (hm : mayB r = true) (hrow : Row w base v l) (hn : l.length + 4 ≤ 140737488355328) (hb : base ≤ w.heap.size) :
    Calls Try.prog 27 #[v, .int .i32 r] w fun e w' => ∃ v', e = .returned v' ∧ Row w' base v' (l ++ [240 + r / 262144, 128 + r / 4096 % 64, 128 + r / 64 % 64, 128 + r % 64]) ∧ Below base w w' := by
  have hsz := fun W => size_any r W
  rw [show sizeI r = 4 from by unfold sizeI; rw [if_neg (by rw [hm]; simp), if_neg (by omega), if_neg (by omega), if_neg (by omega)]] at hsz
  have Hz := Lib.hid hsz
  clear hsz hm
  go_enter Try.func27, Try.ntmps27
  go_wp2_with (first
    | (go_at_call 15; refine (Hz.out _).mono ?_; rintro e w' ⟨rfl, rfl⟩)
    | (go_at_call 29; refine (first4_any r _ h0 h1).mono ?_; rintro e w' ⟨rfl, rfl⟩)
    | (go_at_call 30; with_reducible refine (next_any (r / 4096) _ (by omega) (by omega)).mono ?_; rintro e w' ⟨rfl, rfl⟩)
    | (go_at_call 30; with_reducible refine (next_any (r / 64) _ (by omega) (by omega)).mono ?_; rintro e w' ⟨rfl, rfl⟩)
    | (go_at_call 30; with_reducible refine (next_any (r) _ (by omega) (by omega)).mono ?_; rintro e w' ⟨rfl, rfl⟩)
    | (at_builtin; refine wpList_byte rfl _ _ rfl (240 + r / 262144) rfl hrow rfl (by omega) hb ?_; intro v1 w1 hrow1 hc1; have hb1 : Below base w w1 := hc1; clear hc1)
    | (at_builtin; refine wpList_byte rfl _ _ rfl (128 + r / 4096 % 64) rfl hrow1 rfl (by simp; omega) (by have := hb1.size; omega) ?_; intro v2 w2 hrow2 hc2; have hb2 : Below base w w2 := hb1.trans hc2; clear hc2)
    | (at_builtin; refine wpList_byte rfl _ _ rfl (128 + r / 64 % 64) rfl hrow2 rfl (by simp; omega) (by have := hb2.size; omega) ?_; intro v3 w3 hrow3 hc3; have hb3 : Below base w w3 := hb2.trans hc3; clear hc3)
    | (at_builtin; refine wpList_byte rfl _ _ rfl (128 + r % 64) rfl hrow3 rfl (by simp; omega) (by have := hb3.size; omega) ?_; intro v4 w4 hrow4 hc4; have hb4 : Below base w w4 := hb3.trans hc4; clear hc4))
  go_ret
  exact ⟨v4, rfl, by simpa using hrow4, hb4⟩

/-- THE CONTRACT of utf.put. -/
theorem uput_any (r : Int) (w : World) (base : Nat) (v : Value) (l : List Int) (hm : mayB r = true) (hrow : Row w base v l) (hn : l.length + 4 ≤ 140737488355328) (hb : base ≤ w.heap.size) :
    Calls Try.prog 27 #[v, .int .i32 r] w fun e w' => ∃ v', e = .returned v' ∧ Row w' base v' (l ++ putI r) ∧ Below base w w' := by
  have h : 0 ≤ r ∧ r ≤ 1114111 := by unfold mayB at hm; simp at hm; omega
  by_cases a1 : r ≤ 127
  · have := uput1 r w base v l h.1 a1 hrow hn hb
    unfold putI; rwa [if_pos a1]
  by_cases a2 : r ≤ 2047
  · have := uput2 r w base v l (by omega) a2 hm hrow hn hb
    unfold putI; rwa [if_neg a1, if_pos a2]
  by_cases a3 : r ≤ 65535
  · have := uput3 r w base v l (by omega) a3 hm hrow hn hb
    unfold putI; rwa [if_neg a1, if_neg a2, if_pos a3]
  · have := uput4 r w base v l (by omega) h.2 hm hrow hn hb
    unfold putI; rwa [if_neg a1, if_neg a2, if_neg a3]
end Go.Proofs.Ytnokocaodnanoaa
