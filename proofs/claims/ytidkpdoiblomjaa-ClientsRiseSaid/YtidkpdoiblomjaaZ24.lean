/- Operations as values; which may be. -/
import Derived.Test.YtidkpdoiblomjaaZ21
import Derived.Test.YtidkpdoiblomjaaZ16
import Derived.Test.YtidkpdoiblomjaaZ17
import Derived.Great.BuildSlice
import Derived.Great.Walk
import Derived.Laws.CopyOwn
import Derived.Deep.MidRow
import Derived.Deep.DeepCutAuto
import Derived.Lib.QuietBelow
import Derived.Test.YtidkpdoiblomjaaZ04
import Derived.Test.YtidkpdoiblomjaaZ20
import Derived.Test.YtidkpdoiblomjaaZ23
namespace Go.Proofs.Ytidkpdoiblomjaa.Tlv
open Go.RowKit
set_option maxRecDepth 100000
set_option linter.unusedVariables false
set_option linter.unusedSimpArgs false
def RdC (w : World) (v : Value) (l : List Int) : Prop := ∃ A c, v = .slice A l.length c ∧ ((A = none → c = 0) ∧ l.length ≤ c ∧ c ≤ maxLen) ∧ Rd w w.heap.size A l
theorem RdC.on {w w' : World} {v : Value} {l : List Int} (h : RdC w v l) (hb : Below w.heap.size w w') : RdC w' v l := by
 obtain ⟨A, c, e, h0, h1⟩ := h
 exact ⟨A, c, e, h0, (h1.below hb).more hb.size⟩
theorem RdC.len {w : World} {v : Value} {l : List Int} (h : RdC w v l) : ∃ A c n, v = .slice A n c ∧ Hid (n = l.length) := by
 obtain ⟨A, c, e, _⟩ := h
 exact ⟨A, c, _, e, Lib.hid rfl⟩
theorem rdv_len {w : World} {v : Value} {l : List At} (h : Ytidkpdoiblomjaa.RdV w v l) : ∃ A c n, v = .slice A n c ∧ Hid (n = l.length) ∧ Ytidkpdoiblomjaa.RdK kA w w.heap.size A l := by
 obtain ⟨A, c, e, _, h1⟩ := h
 exact ⟨A, c, _, e, Lib.hid rfl, h1⟩
theorem Blk.row {w : World} {g : Nat} {t : TypeId} {old : Array Value} (h : Blk w g t old) (cs : Array Value) : Blk (w.setRow g cs) g t cs := setRow_heap w g old cs t (0, 0) h
theorem Blk.range {w : World} {g : Nat} {t : TypeId} {cs : Array Value} (h : Blk w g t cs) (o : Nat) (vs : List Value) (he : (cs.toList.drop o).take vs.length = vs) : w.rangeAt g o vs := fun j v hv => by
 rw [h.cell (o + j)]
 rw [← he, List.getElem?_take] at hv
 split at hv
 · rw [List.getElem?_drop] at hv
   simpa using hv
 · cases hv
set_option maxHeartbeats 1000000 in
theorem flag_any (g : Nat) (s : Option (List Int)) (m : Nat) (tag : Int) (b : Bool) (base : Nat) (w : World) (hs : WS w base g s m) (hb : base ≤ w.heap.size) (ht : 0 ≤ tag) (ht2 : tag ≤ 255) (hl : ∀ l, s = some l → l.length ≤ 100000000) (hm : m ≤ 1000000) (hgb : base ≤ g) :
   Calls Try.prog 55 #[.pointer (some ⟨g, 0, none⟩), .int .u8 tag, .bool b] w fun e w' => e = .returned (.pointer (some ⟨g, 0, none⟩)) ∧
     WS w' base g (putS s tag [if b = true then 1 else 0]) (cntS s tag m) ∧ WB base w w' := by
 have hbel : ∀ o, WB base w (w.alloc o) := fun o => WB.of ((Below.refl _ _).alloc (Nat.le_refl _) o) hb
 have hbel' : ∀ o, Below w.heap.size w (w.alloc o) := fun o => (Below.refl _ _).alloc (Nat.le_refl _) o
 cases b with
 | true =>
   have h := Lib.hid (bytes_any g s m [1] tag (some ⟨w.heap.size, 0, none⟩) 1 base (w.alloc (.cells #[.int .u8 1] 5)) (hs.on (hbel' _)) (by simp; omega) (fun l e => by subst e; exact src_new hs [1] _ rfl) (fun e => by cases e) ht ht2 (by decide) hl hm hgb)
   clear hs hl
   go_enter Try.func55, Try.ntmps55
   go_wp2_with fail
   refine h.out.mono ?_
   rintro e w1 ⟨rfl, h1, h2⟩
   go_wp2_with fail
   go_ret
   exact ⟨rfl, h1, (hbel _).trans h2⟩
 | false =>
   have h := Lib.hid (bytes_any g s m [0] tag (some ⟨w.heap.size, 0, none⟩) 1 base (w.alloc (.cells #[.int .u8 0] 5)) (hs.on (hbel' _)) (by simp; omega) (fun l e => by subst e; exact src_new hs [0] _ rfl) (fun e => by cases e) ht ht2 (by decide) hl hm hgb)
   clear hs hl
   go_enter Try.func55, Try.ntmps55
   go_wp2_with fail
   refine h.out.mono ?_
   rintro e w1 ⟨rfl, h1, h2⟩
   go_wp2_with fail
   go_ret
   exact ⟨rfl, h1, (hbel _).trans h2⟩
set_option maxHeartbeats 4000000 in
theorem number_any (g : Nat) (s : Option (List Int)) (m : Nat) (tag : Int) (n : Int) (base : Nat) (w : World) (hs : WS w base g s m) (hb : base ≤ w.heap.size) (ht : 0 ≤ tag) (ht2 : tag ≤ 255) (hn : 0 ≤ n) (hn2 : n < 18446744073709551616) (hl : ∀ l, s = some l → l.length ≤ 100000000) (hm : m ≤ 1000000) (hgb : base ≤ g) :
   Calls Try.prog 54 #[.pointer (some ⟨g, 0, none⟩), .int .u8 tag, .int .u64 n] w fun e w' => e = .returned (.pointer (some ⟨g, 0, none⟩)) ∧
     WS w' base g (putS s tag (be8 n)) (cntS s tag m) ∧ WB base w w' := by
 have hmk := make8
 have hbel : ∀ o, WB base w (w.alloc o) := fun o => WB.of ((Below.refl _ _).alloc (Nat.le_refl _) o) hb
 have hbel' : ∀ o, Below w.heap.size w (w.alloc o) := fun o => (Below.refl _ _).alloc (Nat.le_refl _) o
 have h := Lib.hid (bytes_any g s m (be8 n) tag (some ⟨w.heap.size, 0, none⟩) 8 base (w.alloc (.cells ((be8 n).map (Value.int .u8)).toArray 5)) (hs.on (hbel' _)) (by simp; omega) (fun l e => by subst e; exact src_new hs (be8 n) _ (by rw [flat_b])) (fun e => by cases e) ht ht2 (by simp [be8]) hl hm hgb)
 clear hs hl
 go_enter Try.func54, Try.ntmps54
 go_wp2
 refine wp_loop_rounds 9 ?_
 iterate 8
   rw [rounds_succ]
   go_wp2
 rw [rounds_succ]
 go_wp2_with fail
 refine h.out.mono ?_
 rintro e w1 ⟨rfl, h1, h2⟩
 go_wp2_with fail
 go_ret
 exact ⟨rfl, h1, (hbel _).trans h2⟩
set_option maxHeartbeats 1000000 in
theorem refFlag_any (tag : Int) (b : Bool) (w : World) :
   Calls Try.prog 34 #[.int .u8 tag, .bool b] w fun e w' => ∃ v, e = .returned v ∧ Row w' w.heap.size v (valB tag [if b = true then 1 else 0]) ∧ Below w.heap.size w w' := by
 have hb1 : ∀ o, Below w.heap.size w (w.alloc o) := fun o => (Below.refl _ _).alloc (Nat.le_refl _) o
 have hr : ∀ x : Int, Hid (Calls Try.prog 35 #[.int .u8 tag, .slice (some ⟨w.heap.size, 0, none⟩) 1 1] (w.alloc (.cells #[.int .u8 x] 5)) fun e w' => ∃ v, e = .returned v ∧ Row w' (w.alloc (.cells #[.int .u8 x] 5)).heap.size v (valB tag [x]) ∧ Below (w.alloc (.cells #[.int .u8 x] 5)).heap.size (w.alloc (.cells #[.int .u8 x] 5)) w') := fun x =>
   Lib.hid (refValue_any tag [x] (some ⟨w.heap.size, 0, none⟩) 1 _ (k_rd (rd_block (K := kB) (Blk.new w 5 #[.int .u8 x]) rfl)) (fun e => by cases e) (by simp))
 have fin : ∀ {x : Int} {v : Value} {w' : World}, Row w' (w.alloc (.cells #[.int .u8 x] 5)).heap.size v (valB tag [x]) → Row w' w.heap.size v (valB tag [x]) := fun {x v w'} h => ⟨h.1, h.2.imp id fun ⟨g, c', cur, e1, e2, e3⟩ => ⟨g, c', cur, e1, by simp at e2; omega, e3⟩⟩
 cases b with
 | true =>
   have h := hr 1
   clear hr
   go_enter Try.func34, Try.ntmps34
   go_wp2_with fail
   refine h.out.mono ?_
   rintro e w1 ⟨v1, rfl, h1, h2⟩
   go_wp2_with fail
   go_ret
   exact ⟨v1, rfl, fin h1, (hb1 _).trans (h2.mono (by simp))⟩
 | false =>
   have h := hr 0
   clear hr
   go_enter Try.func34, Try.ntmps34
   go_wp2_with fail
   refine h.out.mono ?_
   rintro e w1 ⟨v1, rfl, h1, h2⟩
   go_wp2_with fail
   go_ret
   exact ⟨v1, rfl, fin h1, (hb1 _).trans (h2.mono (by simp))⟩
set_option maxHeartbeats 4000000 in
theorem refNumber_any (tag : Int) (n : Int) (w : World) (hn : 0 ≤ n) (hn2 : n < 18446744073709551616) :
   Calls Try.prog 33 #[.int .u8 tag, .int .u64 n] w fun e w' => ∃ v, e = .returned v ∧ Row w' w.heap.size v (valB tag (be8 n)) ∧ Below w.heap.size w w' := by
 have hmk := make8
 have hb1 : ∀ o, Below w.heap.size w (w.alloc o) := fun o => (Below.refl _ _).alloc (Nat.le_refl _) o
 have e8 : [Value.int .u8 (n / 256 / 256 / 256 / 256 / 256 / 256 / 256 % 256), .int .u8 (n / 256 / 256 / 256 / 256 / 256 / 256 % 256), .int .u8 (n / 256 / 256 / 256 / 256 / 256 % 256), .int .u8 (n / 256 / 256 / 256 / 256 % 256), .int .u8 (n / 256 / 256 / 256 % 256), .int .u8 (n / 256 / 256 % 256), .int .u8 (n / 256 % 256), .int .u8 (n % 256)] = (be8 n).map (Value.int .u8) := by
   simp [be8]
   omega
 have h := Lib.hid (refValue_any tag (be8 n) (some ⟨w.heap.size, 0, none⟩) 8 _ (k_rd (rd_block (K := kB) (Blk.new w 5 #[Value.int .u8 (n / 256 / 256 / 256 / 256 / 256 / 256 / 256 % 256), .int .u8 (n / 256 / 256 / 256 / 256 / 256 / 256 % 256), .int .u8 (n / 256 / 256 / 256 / 256 / 256 % 256), .int .u8 (n / 256 / 256 / 256 / 256 % 256), .int .u8 (n / 256 / 256 / 256 % 256), .int .u8 (n / 256 / 256 % 256), .int .u8 (n / 256 % 256), .int .u8 (n % 256)]) (by rw [flat_b, ← e8]))) (fun e => by cases e) (by simp [be8]))
 clear e8
 go_enter Try.func33, Try.ntmps33
 go_wp2
 refine wp_loop_rounds 9 ?_
 iterate 8
   rw [rounds_succ]
   go_wp2
 rw [rounds_succ]
 go_wp2_with fail
 refine h.out.mono ?_
 rintro e w1 ⟨v1, rfl, h1, h2⟩
 go_wp2_with fail
 go_ret
 exact ⟨v1, rfl, ⟨h1.1, h1.2.imp id fun ⟨g, c', cur, e1, e2, e3⟩ => ⟨g, c', cur, e1, by simp at e2; omega, e3⟩⟩, (hb1 _).trans (h2.mono (by simp))⟩
theorem puts_app {q xs : List Int} {tag : Int} (h : tag ≠ 0) : putS (some q) tag xs = some (q ++ valB tag xs) := by
 unfold putS valB
 simp [h]
theorem cnts_app {q : List Int} {tag : Int} {m : Nat} (h : tag ≠ 0) : cntS (some q) tag m = m + 1 := by
 unfold cntS
 simp [h]
theorem ws_new (w : World) : WS (w.alloc (.cells #[.slice none 0 0, .int .i64 0, .int .i64 0] 108)) w.heap.size w.heap.size (some []) 0 := ⟨_, Blk.new w 108 #[.slice none 0 0, .int .i64 0, .int .i64 0], World.ownsRow_nil _ _ _ _⟩
abbrev ptr (g : Nat) : Value := .pointer (some ⟨g, 0, none⟩)
abbrev Put1 (g : Nat) (q : List Int) (m : Nat) (W : World) (e : Ending) (w' : World) : Prop := e = .returned (ptr g) ∧ WS w' g g (some q) (m + 1) ∧ WB g W w'
theorem w_num (g : Nat) (q : List Int) (m : Nat) (tag n : Int) (W : World) (hs : WS W g g (some q) m) (ht : 0 < tag) (ht2 : tag ≤ 255) (hn : 0 ≤ n) (hn2 : n < 18446744073709551616) (hq : q.length ≤ 100000000) (hm : m ≤ 1000000) :
   Hid (Calls Try.prog 54 #[ptr g, .int .u8 tag, .int .u64 n] W (Put1 g (q ++ valB tag (be8 n)) m W)) := Lib.hid (by
 have h := number_any g (some q) m tag n g W hs (Nat.le_of_lt hs.lt) (by omega) ht2 hn hn2 (fun l e => by injection e with e; subst e; exact hq) hm (Nat.le_refl _)
 rw [puts_app (by omega), cnts_app (by omega)] at h
 exact h.mono fun e w' ⟨h1, h2, h3⟩ => ⟨h1, h2, h3⟩)
theorem w_flag (g : Nat) (q : List Int) (m : Nat) (tag : Int) (b : Bool) (W : World) (hs : WS W g g (some q) m) (ht : 0 < tag) (ht2 : tag ≤ 255) (hq : q.length ≤ 100000000) (hm : m ≤ 1000000) :
   Hid (Calls Try.prog 55 #[ptr g, .int .u8 tag, .bool b] W (Put1 g (q ++ valB tag [if b = true then 1 else 0]) m W)) := Lib.hid (by
 have h := flag_any g (some q) m tag b g W hs (Nat.le_of_lt hs.lt) (by omega) ht2 (fun l e => by injection e with e; subst e; exact hq) hm (Nat.le_refl _)
 rw [puts_app (by omega), cnts_app (by omega)] at h
 exact h.mono fun e w' ⟨h1, h2, h3⟩ => ⟨h1, h2, h3⟩)
theorem w_bytes (g : Nat) (q : List Int) (m : Nat) (tag : Int) (xs : List Int) (A : Option Addr) (c n : Nat) (W : World) (hs : WS W g g (some q) m) (hn : n = xs.length) (hr : Rd W g A xs) (hA : A = none → c = 0) (ht : 0 < tag) (ht2 : tag ≤ 255) (hl : xs.length ≤ 4194304) (hq : q.length ≤ 100000000) (hm : m ≤ 1000000) :
   Hid (Calls Try.prog 58 #[ptr g, .int .u8 tag, .slice A n c] W (Put1 g (q ++ valB tag xs) m W)) := Lib.hid (by
 subst hn
 have h := bytes_any g (some q) m xs tag A c g W hs (Nat.le_of_lt hs.lt) (fun l e => by injection e with e; subst e; exact src_low hs hr (Nat.le_refl _)) hA (by omega) ht2 hl (fun l e => by injection e with e; subst e; exact hq) hm (Nat.le_refl _)
 rw [puts_app (by omega), cnts_app (by omega)] at h
 exact h.mono fun e w' ⟨h1, h2, h3⟩ => ⟨h1, h2, h3⟩)
end Go.Proofs.Ytidkpdoiblomjaa.Tlv
