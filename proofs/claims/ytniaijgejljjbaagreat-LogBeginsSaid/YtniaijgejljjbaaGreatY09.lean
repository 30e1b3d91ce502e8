/- What a text's runes are, from a place on: plain functions. -/
import Derived.Test.YtniaijgejljjbaaGreatY08
import Derived.OwnWalk
namespace Go.Proofs.YtniaijgejljjbaaGreat.Utf
open Go.RowKit
set_option linter.unusedVariables false
theorem bt_past (s : ByteArray) (i : Nat) (h : s.size ≤ i) : bt s i = 0 := by
 have h' : s.data.size ≤ i := h
 unfold bt
 rw [Array.getD_eq_getD_getElem?, Array.getElem?_eq_none h']; rfl
theorem bt_tail (s : ByteArray) (a i : Nat) : bt (s.extract a s.size) i = bt s (a + i) := by
 by_cases h : a + i < s.size
 · exact bt_extract s a s.size i (Nat.le_refl _) h
 · rw [bt_past s _ (by omega), bt_past _ _ (by simp; omega)]
theorem bt_four (s : ByteArray) (a e i : Nat) (he : e = min s.size (a + 4)) (hi : i < 4) : bt (s.extract a e) i = bt s (a + i) := by
 by_cases h : a + i < s.size
 · exact bt_extract s a e i (by omega) (by omega)
 · rw [bt_past s _ (by omega), bt_past _ _ (by simp; omega)]
theorem nxN_congr {f g : Nat → Int} {L M : Nat} (h0 : f 0 = g 0) (h1 : f 1 = g 1) (h2 : f 2 = g 2) (h3 : f 3 = g 3) (hL : min L 4 = min M 4) : nxN f L = nxN g M := by
 have e2 : v2 f = v2 g := by unfold v2; rw [h0, h1]
 have e3 : v3 f = v3 g := by unfold v3; rw [h0, h1, h2]
 have e4 : v4 f = v4 g := by unfold v4; rw [h0, h1, h2, h3]
 unfold nxN
 rw [e2, e3, e4, h0, h1, h2, h3]
 have a0 : (L = 0) = (M = 0) := by apply propext; omega
 have a2 : (2 ≤ L) = (2 ≤ M) := by apply propext; omega
 have a3 : (3 ≤ L) = (3 ≤ M) := by apply propext; omega
 have a4 : (4 ≤ L) = (4 ≤ M) := by apply propext; omega
 simp only [a0, a2, a3, a4]
theorem nxR_congr {f g : Nat → Int} {L M : Nat} (h0 : f 0 = g 0) (h1 : f 1 = g 1) (h2 : f 2 = g 2) (h3 : f 3 = g 3) (hL : min L 4 = min M 4) : nxR f L = nxR g M := by
 have e2 : v2 f = v2 g := by unfold v2; rw [h0, h1]
 have e3 : v3 f = v3 g := by unfold v3; rw [h0, h1, h2]
 have e4 : v4 f = v4 g := by unfold v4; rw [h0, h1, h2, h3]
 unfold nxR
 rw [nxN_congr h0 h1 h2 h3 hL, e2, e3, e4, h0]
def NN (s : ByteArray) (a : Nat) : Int := nxN (fun i => bt s (a + i)) (s.size - a)
def RR (s : ByteArray) (a : Nat) : Int := nxR (fun i => bt s (a + i)) (s.size - a)
theorem NN_range (s : ByteArray) (a : Nat) : 0 ≤ NN s a ∧ NN s a ≤ 4 ∧ NN s a ≤ ((s.size - a : Nat) : Int) := nx_range _ _
theorem next_at (s : ByteArray) (a : Nat) (w : World) (h1 : s.size ≤ 9223372036854775807) :
   Calls Tryz.prog 100 #[.string (s.extract a s.size)] w fun e w' => e = .returned (.tuple #[.int .i32 (RR s a), .int .i64 (NN s a), .int .i64 (nxE (NN s a))]) ∧ w = w' := by
 have := next_any_utf (s.extract a s.size) w (by simp; omega)
 rwa [show bt (s.extract a s.size) = fun i => bt s (a + i) from funext fun i => bt_tail s a i, show (s.extract a s.size).size = s.size - a from by simp] at this
theorem refNext_at (s : ByteArray) (a e : Nat) (w : World) (he : e = min s.size (a + 4)) (h1 : s.size ≤ 9223372036854775807) :
   Calls Tryz.prog 89 #[.string (s.extract a e)] w fun x w' => x = .returned (.tuple #[.int .i32 (RR s a), .int .i64 (NN s a)]) ∧ Below w.heap.size w w' := by
 have := refNext_any (s.extract a e) w (by simp; omega)
 have hz : (s.extract a e).size = e - a := by simp; omega
 have hb := fun i => bt_four s a e i he
 rw [nxN_congr (M := s.size - a) (g := fun i => bt s (a + i)) (hb 0 (by omega)) (hb 1 (by omega)) (hb 2 (by omega)) (hb 3 (by omega)) (by rw [hz]; omega),
   nxR_congr (M := s.size - a) (g := fun i => bt s (a + i)) (hb 0 (by omega)) (hb 1 (by omega)) (hb 2 (by omega)) (hb 3 (by omega)) (by rw [hz]; omega)] at this
 exact this
def decF (s : ByteArray) : Nat → Nat → List Int × Nat
 | 0, a => ([], a)
 | f + 1, a => if NN s a = 0 then ([], a) else (RR s a :: (decF s f (a + (NN s a).toNat)).1, (decF s f (a + (NN s a).toNat)).2)
theorem NN_zero_past (s : ByteArray) (a : Nat) (h : s.size ≤ a) : NN s a = 0 := by have := NN_range s a; omega
theorem decF_fuel (s : ByteArray) : ∀ (f g a : Nat), s.size - a ≤ f → s.size - a ≤ g → decF s f a = decF s g a := by
 intro f
 induction f with
 | zero =>
   intro g a hf hg
   cases g with
   | zero => rfl
   | succ g => rw [decF, decF, if_pos (NN_zero_past s a (by omega))]
 | succ f ih =>
   intro g a hf hg
   cases g with
   | zero => rw [decF, decF, if_pos (NN_zero_past s a (by omega))]
   | succ g =>
     rw [decF, decF]
     by_cases h : NN s a = 0
     · rw [if_pos h, if_pos h]
     · rw [if_neg h, if_neg h]
       have := NN_range s a
       rw [ih g (a + (NN s a).toNat) (by omega) (by omega)]
def dec (s : ByteArray) (a : Nat) : List Int × Nat := decF s (s.size - a) a
theorem dec_stop {s : ByteArray} {a : Nat} (h : NN s a = 0) : dec s a = ([], a) := by
 unfold dec
 cases hz : s.size - a with
 | zero => rfl
 | succ f => rw [decF, if_pos h]
theorem dec_step {s : ByteArray} {a : Nat} (h : NN s a ≠ 0) : dec s a = (RR s a :: (dec s (a + (NN s a).toNat)).1, (dec s (a + (NN s a).toNat)).2) := by
 have hr := NN_range s a
 unfold dec
 obtain ⟨f, hf⟩ : ∃ f, s.size - a = f + 1 := ⟨s.size - a - 1, by omega⟩
 rw [hf, decF, if_neg h, decF_fuel s f (s.size - (a + (NN s a).toNat)) _ (by omega) (by omega)]
def runes (s : ByteArray) : List Int := (dec s 0).1
def upto (s : ByteArray) : Nat := (dec s 0).2
set_option maxHeartbeats 1000000 in
theorem where_any (s : ByteArray) (w : World) (h1 : s.size ≤ 40000) :
   Calls Tryz.prog 97 #[.string s] w fun e w' => e = .returned (.int .i64 (upto s)) ∧ w = w' := by
 go_enter Tryz.func97, Tryz.ntmps97
 go_wp2
 go_loop [3] (fun i => ∃ a : Nat, i = .int .i64 a ∧ a ≤ s.size ∧ Hid ((dec s a).2 = upto s)) (fun i => s.size - (intOf i).toNat)
 case atStart => exact ⟨0, rfl, Nat.zero_le _, Lib.hid rfl⟩
 case round =>
   obtain ⟨a, rfl, ha, hd⟩ := hrel
   by_cases hlt : a < s.size
   · have hx := fun W => next_at s a W (by omega)
     have hr := NN_range s a
     by_cases hn : NN s a = 0
     · have Hd : Hid (a = upto s) := Lib.hid (by have := hd.out; rwa [dec_stop hn] at this)
       rw [hn] at hx
       have Hx := Lib.hid hx
       clear hx hd hr hn
       go_wp2_with (go_at_call 100; refine (Hx.out _).mono ?_; rintro e w' ⟨rfl, rfl⟩)
       go_ret
       exact ⟨by rw [← Hd.out]; rfl, rfl⟩
     · have Hd : Hid ((dec s (a + (NN s a).toNat)).2 = upto s) := Lib.hid (by have := hd.out; rwa [dec_step hn] at this)
       rw [show nxE (NN s a) = 0 from by unfold nxE; rw [if_neg hn]] at hx
       obtain ⟨n, hN⟩ : ∃ n : Nat, NN s a = n := ⟨(NN s a).toNat, by omega⟩
       rw [hN] at hx Hd hr
       rw [Int.toNat_natCast] at Hd
       have h0 : 0 < n := by omega
       have h2 : a + n ≤ s.size := by omega
       have Hx := Lib.hid hx
       clear hx hd hr hn hN
       go_wp2_with (go_at_call 100; refine (Hx.out _).mono ?_; rintro e w' ⟨rfl, rfl⟩)
       go_round
       case rel => exact ⟨a + n, by go_num, h2, Hd⟩
       case measure => simp [intOf]; omega
   · have Hd : Hid (a = upto s) := Lib.hid (by have := hd.out; rwa [dec_stop (NN_zero_past s a (by omega))] at this)
     clear hd
     go_wp2
     go_ret
     exact ⟨by rw [← Hd.out]; rfl, rfl⟩
theorem valid_any (s : ByteArray) (w : World) (h1 : s.size ≤ 40000) :
   Calls Tryz.prog 90 #[.string s] w fun e w' => e = .returned (.bool (decide (upto s = s.size))) ∧ w = w' := by
 by_cases h : upto s = s.size
 · have hw := fun W => where_any s W h1
   rw [h] at hw
   have Hw := Lib.hid hw
   have H := Lib.hid h
   clear hw h
   go_enter Tryz.func90, Tryz.ntmps90
   go_wp2_with (go_at_call 97; refine (Hw.out _).mono ?_; rintro e w' ⟨rfl, rfl⟩)
   go_ret
   exact ⟨by rw [decide_eq_true H.out]; rfl, rfl⟩
 · have hw := fun W => where_any s W h1
   have hne : (((upto s : Nat) : Int) == (s.size : Int)) = false := by simp; omega
   have H := Lib.hid h
   generalize upto s = u at *
   have Hw := Lib.hid hw
   clear hw h
   go_enter Tryz.func90, Tryz.ntmps90
   go_wp2_with (go_at_call 97; refine (Hw.out _).mono ?_; rintro e w' ⟨rfl, rfl⟩)
   go_ret
   exact ⟨by rw [decide_eq_false H.out]; rfl, rfl⟩
theorem info21 : (Tryz.prog.info? 21).map (fun i => (i.zero, i.size, i.bytes)) = some (some (.int .i32 0), 1, 4) := by kernel_rfl
def Row32 (w : World) (base : Nat) (v : Value) (l : List Int) : Prop := w.ownsRow base 21 1 v l.length (l.map (Value.int .i32))
theorem wpList_rune {w : World} {ops : Array Oper} {rest : List Oper} {o : Oper} {a : Act} {Q : Exit → Act → World → Prop} (hgd : o.guard = none) (s x : Operand)
   (ho : o.op = .call { callee := .builtin .append, args := #[s, x], argTypes := #[127, 127] })
   {base : Nat} {v : Value} {l : List Int} (y : Int) (hs : a.eval s = v) (hown : Row32 w base v l) (hx : a.eval x = .slice (some ⟨w.heap.size, 0, none⟩) 1 1)
   (hn : l.length + 1 ≤ 35184372088832) (hb : base ≤ w.heap.size)
   (h : ∀ v' w', Row32 w' base v' (l ++ [y]) → Below base w w' → wpList Tryz.prog ops Q rest (a.put o.dst v') w') :
   wpList Tryz.prog ops Q (o :: rest) a (w.alloc (.cells #[.int .i32 y] 21)) := by
 obtain ⟨i0, hi, hz0, hz1, hz2⟩ := info_parts info21
 refine wpList_append_own (w := w.alloc (.cells #[.int .i32 y] 21)) hgd s x 127 ho base 21 i0 (.int .i32 0) 1 4 Tryz.underlying127 hi hz0 hz1 hz2 rfl (by decide) v l.length (l.map (Value.int .i32)) hs
   (World.ownsRow.alloc hown _) ⟨w.heap.size, 0, none⟩ 1 1 [.int .i32 y] hx rfl ?_ ?_ ?_ ?_ ?_ ?_
 · intro j u hu
   have hj : j = 0 := by cases j with | zero => rfl | succ k => simp at hu
   subst hj
   have hu' : Value.int .i32 y = u := by simpa using hu
   rw [show (⟨w.heap.size, 0, none⟩ : Addr).add 0 = ⟨w.heap.size, 0, none⟩ from by simp [Addr.add], World.cell?_alloc_at _ _ _ _ rfl, ← hu']
   rfl
 · intro u hu; simp at hu; subst hu; rfl
 · unfold maxLen; omega
 · omega
 · simp; omega
 · intro v' w' h2 h3 _
   refine h v' w' ?_ ?_
   · unfold Row32; simpa using h2
   · exact ((Below.refl base w).alloc hb _).grown h3 (by simp; omega) (fun k hk => (World.ownsRow.lt hown k hk).1)
theorem below_row {w w' : World} {base : Nat} {v : Value} {l : List Int} (h : Row32 w base v l) (hb : base ≤ w.heap.size) (hB : Below w.heap.size w w') : Row32 w' base v l :=
 World.ownsRow.kept (row := none) h ⟨hB.os, hB.tape, hB.output, hB.size, fun k hk _ => hB.block k hk⟩ (by
   by_cases e : v.ownBlock = none
   · exact .inl e
   · exact .inr e)
theorem slice4 (s : ByteArray) (a : Nat) (W : World) (h : a + 4 ≤ s.size) :
   (Instr.slice 9 (.string s) (some (.int .i64 (a : Int))) (some (.int .i64 ((a : Int) + 4))) none).run Tryz.prog W = .ok (.string (s.extract a (a + 4))) W := by
 have := run_slice_string (P := Tryz.prog) W 9 s .i64 .i64 (a : Int) ((a : Int) + 4) Tryz.underlying9 (by omega) (by omega) (by omega)
 rw [this]
 rfl
theorem dec_go {s : ByteArray} {a : Nat} {zs : List Int} (hn : NN s a ≠ 0) (h : runes s = zs ++ (dec s a).1 ∧ upto s = (dec s a).2) :
   runes s = (zs ++ [RR s a]) ++ (dec s (a + (NN s a).toNat)).1 ∧ upto s = (dec s (a + (NN s a).toNat)).2 := by
 rw [dec_step hn] at h
 simpa using h
theorem dec_end {s : ByteArray} {a : Nat} {zs : List Int} (hn : NN s a = 0) (h : runes s = zs ++ (dec s a).1 ∧ upto s = (dec s a).2) : runes s = zs ∧ upto s = a := by
 rw [dec_stop hn] at h
 simpa using h
set_option maxHeartbeats 2000000 in
theorem refDec_any (s : ByteArray) (w : World) (h1 : s.size ≤ 40000) :
   Calls Tryz.prog 80 #[.string s] w fun e w' => ∃ v, e = .returned (.tuple #[v, .int .i64 (upto s)]) ∧ Row32 w' w.heap.size v (runes s) ∧ Below w.heap.size w w' := by
 go_enter Tryz.func80, Tryz.ntmps80
 go_wp2
 go_loopw [4, 5] (fun v i wr => ∃ (a : Nat) (zs : List Int), i = .int .i64 a ∧ a ≤ s.size ∧ zs.length ≤ a ∧ Hid (runes s = zs ++ (dec s a).1 ∧ upto s = (dec s a).2) ∧ Row32 wr w.heap.size v zs ∧ Below w.heap.size w wr) (fun _ i _ => s.size - (intOf i).toNat)
 case atStart => exact ⟨0, [], rfl, Nat.zero_le _, Nat.zero_le _, Lib.hid ⟨rfl, rfl⟩, World.ownsRow_nil _ _ _ _, Below.refl _ _⟩
 case round =>
   obtain ⟨a, zs, rfl, ha, hzl, hd, hrow, hb⟩ := hrel
   by_cases hlt : a < s.size
   · have hr := NN_range s a
     have he : (a + 4 < s.size ∧ min s.size (a + 4) = a + 4) ∨ (s.size ≤ a + 4 ∧ min s.size (a + 4) = s.size) := by omega
     have hx0 := fun W => refNext_at s a _ W rfl (by omega)
     by_cases hn : NN s a = 0
     · have Hd := Lib.hid (dec_end hn hd.out)
       rw [hn] at hx0
       rcases he with ⟨h4, he⟩ | ⟨h4, he⟩
       all_goals
         have hx := hx0
         rw [he] at hx
         have Hx := Lib.hid hx
         first | have hsl := fun W => slice4 s a W (by omega) | skip
         clear hx hd hr hn hx0 he
         go_wp2_with (go_at_call 89; refine (Hx.out _).mono ?_; rintro e w1 ⟨rfl, hb1⟩)
         go_ret2
         exact ⟨u4, by rw [Hd.out.2]; rfl, by rw [Hd.out.1]; exact below_row hrow hb.size hb1, hb.trans (hb1.mono hb.size)⟩
     · have Hd := Lib.hid (dec_go hn hd.out)
       obtain ⟨n, hN⟩ : ∃ n : Nat, NN s a = n := ⟨(NN s a).toNat, by omega⟩
       rw [hN] at hx0 Hd hr
       rw [Int.toNat_natCast] at Hd
       have h0 : 0 < n := by omega
       have h2 : a + n ≤ s.size := by omega
       have hn0 : ((n : Int) == 0) = false := by simp; omega
       generalize RR s a = r at *
       rcases he with ⟨h4, he⟩ | ⟨h4, he⟩
       all_goals
         have hx := hx0
         rw [he] at hx
         have Hx := Lib.hid hx
         first | have hsl := fun W => slice4 s a W (by omega) | skip
         clear hx hd hr hn hx0 he hN
         go_wp2_with (first
           | (go_at_call 89; refine (Hx.out _).mono ?_; rintro e w1 ⟨rfl, hb1⟩; have hrow1 := below_row hrow hb.size hb1)
           | (at_builtin; refine wpList_rune rfl _ _ rfl r rfl hrow1 rfl (by omega) (by have := hb.size; have := hb1.size; omega) ?_; intro v2 w2 hrow2 hb2))
         go_roundw
         case rel => exact ⟨a + n, zs ++ [r], by go_num, h2, by simp; omega, Hd, hrow2, (hb.trans (hb1.mono hb.size)).trans hb2⟩
         case measure => simp [intOf]; omega
   · have Hd := Lib.hid (dec_end (NN_zero_past s a (by omega)) hd.out)
     clear hd
     go_wp2
     go_ret2
     exact ⟨u4, by rw [Hd.out.2]; rfl, by rw [Hd.out.1]; exact hrow, hb⟩
end Go.Proofs.YtniaijgejljjbaaGreat.Utf
