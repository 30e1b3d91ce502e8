/- A writer's Text, Number, Flag, End; the reference's Value, Number, Flag. -/
import Derived.Test.YtknjlholbelpbaaTPutB
import Derived.Lib.ConvBytes
namespace Go.Proofs.Ytknjlholbelpbaa.Tlv
open Go.RowKit
set_option maxRecDepth 100000
set_option linter.unusedVariables false
set_option linter.unusedSimpArgs false

/-- Bytes in a block that was made behind the writer's. -/
theorem src_fresh {w w1 : World} {base g m : Nat} {l : List Int} (hs : WS w base g (some l) m) (hb : Below w.heap.size w w1) {xs : List Int} {A : Option Addr} (hr : Rd w1 w1.heap.size A xs) (hA : 0 < xs.length → ∀ ad, A = some ad → w.heap.size ≤ ad.block) : Src w1 g A xs := by
  refine ⟨hr, fun hp ad v he hc => ?_⟩
  have hlt := hs.lt
  have hle := hA hp ad he
  refine ⟨by omega, ?_⟩
  obtain ⟨v0, h1, h2⟩ := hs
  have := (h1.on hb).cell 0
  rw [hc] at this
  obtain rfl : v = v0 := by injection this
  intro e2
  have := (World.ownsRow.lt h2 _ e2).2
  omega
theorem src_new {w : World} {base g m : Nat} {l : List Int} (hs : WS w base g (some l) m) (xs : List Int) (cs : Array Value) (e : cs.toList = flatK kB xs) : Src (w.alloc (.cells cs 5)) g (some ⟨w.heap.size, 0, none⟩) xs :=
  src_fresh hs ((Below.refl _ _).alloc (Nat.le_refl _) _) (k_rd (rd_block (K := kB) (Blk.new w 5 cs) e)) (fun _ ad e => by injection e with e; subst e; exact Nat.le_refl _)
/-- Bytes below all of the writer's. -/
theorem src_low {w : World} {base g m : Nat} {l : List Int} (hs : WS w base g (some l) m) {xs : List Int} {A : Option Addr} (h : Rd w base A xs) (hgb : base ≤ g) : Src w g A xs := by
  refine ⟨h.more (by have := hs.lt; omega), fun hp ad v he hc => ?_⟩
  obtain ⟨b, off, e, hlt, _⟩ := h hp
  rw [he] at e
  injection e with e
  subst e
  refine ⟨by show b ≠ g; omega, fun e2 => ?_⟩
  obtain ⟨v0, h1, h2⟩ := hs
  have := h1.cell 0
  rw [hc] at this
  obtain rfl : v = v0 := by injection this
  have := (World.ownsRow.lt h2 _ e2).1
  have : base ≤ b := this
  omega
theorem row_new (w : World) (xs : List Int) (cs : Array Value) (e : cs.toList = xs.map (Value.int .u8)) (hx : xs.length ≤ maxLen) : Row (w.alloc (.cells cs 5)) w.heap.size (.slice (some ⟨w.heap.size, 0, none⟩) xs.length xs.length) xs := by
  have hz : cs.size = xs.length := by rw [← Array.length_toList, e, List.length_map]
  exact ⟨by simp, .inr ⟨w.heap.size, xs.length, cs, rfl, Nat.le_refl _, heap_alloc_new w _, Nat.le_refl _, hx, by omega, by rw [e, Nat.mul_one]; exact List.take_of_length_le (by simp)⟩⟩
/-- Where a row's bytes stand. -/
theorem row_at {w : World} {base n c : Nat} {A : Option Addr} {xs : List Int} (h : Row w base (.slice A n c) xs) {ad : Addr} (e : A = some ad) : base ≤ ad.block := by
  subst e
  rcases h.2 with ⟨e0, _⟩ | ⟨g', cap, cur, e0, h3, _⟩
  · cases e0
  · injection e0 with e0
    injection e0 with e0
    subst e0
    exact h3

/-- Eight bytes of a number. -/
def be8 (n : Int) : List Int := [n / 72057594037927936, n / 281474976710656 % 256, n / 1099511627776 % 256, n / 4294967296 % 256, n / 16777216 % 256, n / 65536 % 256, n / 256 % 256, n % 256]

set_option maxHeartbeats 4000000 in
theorem number_any (g : Nat) (s : Option (List Int)) (m : Nat) (tag : Int) (n : Int) (base : Nat) (w : World) (hs : WS w base g s m) (hb : base ≤ w.heap.size) (ht : 0 ≤ tag) (ht2 : tag ≤ 255) (hn : 0 ≤ n) (hn2 : n < 18446744073709551616) (hl : ∀ l, s = some l → l.length ≤ 100000000) (hm : m ≤ 1000000) (hgb : base ≤ g) :
    Calls Try.prog 32 #[.pointer (some ⟨g, 0, none⟩), .int .u8 tag, .int .u64 n] w fun e w' => e = .returned (.pointer (some ⟨g, 0, none⟩)) ∧
      WS w' base g (putS s tag (be8 n)) (cntS s tag m) ∧ WB base w w' := by
  have hmk := make8
  have hbel : ∀ o, WB base w (w.alloc o) := fun o => WB.of ((Below.refl _ _).alloc (Nat.le_refl _) o) hb
  have hbel' : ∀ o, Below w.heap.size w (w.alloc o) := fun o => (Below.refl _ _).alloc (Nat.le_refl _) o
  have h := Lib.hid (bytes_any g s m (be8 n) tag (some ⟨w.heap.size, 0, none⟩) 8 base (w.alloc (.cells ((be8 n).map (Value.int .u8)).toArray 5)) (hs.on (hbel' _)) (by simp; omega) (fun l e => by subst e; exact src_new hs (be8 n) _ (by rw [flat_b])) (fun e => by cases e) ht ht2 (by simp [be8]) hl hm hgb)
  clear hs hl
  go_enter Try.func32, Try.ntmps32
  go_wp2
  refine wp_loop_rounds 9 ?_
  iterate 8
    rw [rounds_succ]
    go_wp2
  rw [rounds_succ]
  go_wp2_with fail
  refine h.out.mono ?_
  rintro e w1 ⟨rfl, h1, h2⟩
  go_wp2_with fail
  go_ret
  exact ⟨rfl, h1, (hbel _).trans h2⟩

/-- Text: the bytes of a text. -/
def bytesOf (s : ByteArray) : List Int := s.data.toList.map fun b => (b.toNat : Int)

/-- A value's bytes. -/
def valB (tag : Int) (xs : List Int) : List Int := (tag :: be4 xs.length) ++ xs
theorem grown_below {w w' : World} {base : Nat} {v : Value} {l : List Int} (h : Row w base v l) (hg : w.grownBy w' v.ownBlock) (hb : base ≤ w.heap.size) : Below base w w' :=
  (Below.refl base w).grown hg hb (fun k hk => (World.ownsRow.lt h k hk).1)

theorem bytesOf_length (s : ByteArray) : (bytesOf s).length = s.size := by simp [bytesOf]
/-- []byte of a text. -/
theorem text_conv (W : World) (s : ByteArray) : ∃ W1 c, (convert 9 30 (.string s)).run Try.prog W = .ok (.slice (some ⟨W.heap.size, 0, none⟩) (bytesOf s).length c) W1 ∧ Rd W1 W1.heap.size (some ⟨W.heap.size, 0, none⟩) (bytesOf s) ∧ Below W.heap.size W W1 := by
  refine ⟨_, _, by rw [bytesOf_length]; exact Lib.run_convert_string_bytes (P := Try.prog) W 9 30 5 s Try.underlying9 Try.underlying30 Try.underlying5, ?_, ?_⟩
  · intro hp
    rw [Lib.bytesWorld_size]
    refine ⟨W.heap.size, 0, rfl, by omega, fun j hj => ?_⟩
    rw [bytesOf_length] at hj
    rw [Nat.zero_add, Lib.bytesWorld_cell W 5 s j hj]
    have hj' : j < s.data.toList.length := by simpa using hj
    simp [bytesOf, List.getD_eq_getElem?_getD, List.getElem?_eq_getElem hj']
  · exact ⟨rfl, rfl, rfl, by rw [Lib.bytesWorld_size]; omega, fun k hk => Lib.bytesWorld_at_old W 5 s k hk⟩

set_option maxHeartbeats 1000000 in
theorem text_any (g : Nat) (s : Option (List Int)) (m : Nat) (tag : Int) (t : ByteArray) (base : Nat) (w : World) (hs : WS w base g s m) (hb : base ≤ w.heap.size) (ht : 0 ≤ tag) (ht2 : tag ≤ 255) (hx : t.size ≤ 4194304) (hl : ∀ l, s = some l → l.length ≤ 100000000) (hm : m ≤ 1000000) (hgb : base ≤ g) :
    Calls Try.prog 47 #[.pointer (some ⟨g, 0, none⟩), .int .u8 tag, .string t] w fun e w' => e = .returned (.pointer (some ⟨g, 0, none⟩)) ∧
      WS w' base g (putS s tag (bytesOf t)) (cntS s tag m) ∧ WB base w w' := by
  obtain ⟨W1, c, hcv, hrd, hb1⟩ := text_conv w t
  have h := Lib.hid (bytes_any g s m (bytesOf t) tag (some ⟨w.heap.size, 0, none⟩) c base W1 (hs.on hb1) (Nat.le_trans hb hb1.size) (fun l e => by subst e; exact src_fresh hs hb1 hrd (fun _ ad e => by injection e with e; subst e; exact Nat.le_refl _)) (fun e => by cases e) ht ht2 (by rw [bytesOf_length]; exact hx) hl hm hgb)
  clear hs hl hrd
  go_enter Try.func47, Try.ntmps47
  go_wp2_with fail
  refine h.out.mono ?_
  rintro e w2 ⟨rfl, h1, h2⟩
  go_wp2_with fail
  go_ret
  exact ⟨rfl, h1, (WB.of hb1 hb).trans h2⟩

set_option maxHeartbeats 2000000 in
set_option maxHeartbeats 1000000 in
/-- End of a writer that has failed. -/
theorem end_fail (g base m : Nat) (w : World) (hs : WS w base g none m) :
    Calls Try.prog 49 #[.pointer (some ⟨g, 0, none⟩)] w fun e w' => e = .returned (.tuple #[.slice none 0 0, .int .i64 2]) ∧ Below w.heap.size w w' := by
  obtain ⟨v, hblk⟩ := hs
  have c2 : w.cell? ⟨g, 2, none⟩ = some (.int .i64 2) := hblk.cell 2
  clear hblk
  go_enter Try.func49, Try.ntmps49
  go_wp2
  go_quiet (fail)
  go_wp2
  go_ret2
  exact ⟨rfl, below_drewN (Below.refl _ _) _⟩
end Go.Proofs.Ytknjlholbelpbaa.Tlv
