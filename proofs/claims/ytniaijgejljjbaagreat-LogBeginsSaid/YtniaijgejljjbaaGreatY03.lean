/- A writer's Text, Number, Flag, End; the reference's Value, Number, Flag. -/
import Derived.Test.YtniaijgejljjbaaGreatY02
import Derived.Lib.ConvBytes
namespace Go.Proofs.YtniaijgejljjbaaGreat.Tlv
open Go.RowKit
set_option maxRecDepth 100000
set_option linter.unusedVariables false
set_option linter.unusedSimpArgs false
theorem src_fresh {w w1 : World} {base g m : Nat} {l : List Int} (hs : WS w base g (some l) m) (hb : Below w.heap.size w w1) {xs : List Int} {A : Option Addr} (hr : Rd w1 w1.heap.size A xs) (hA : 0 < xs.length → ∀ ad, A = some ad → w.heap.size ≤ ad.block) : Src w1 g A xs := by
 refine ⟨hr, fun hp ad v he hc => ?_⟩
 have hlt := hs.lt
 have hle := hA hp ad he
 refine ⟨by omega, ?_⟩
 obtain ⟨v0, h1, h2⟩ := hs
 have := (h1.on hb).cell 0
 rw [hc] at this
 obtain rfl : v = v0 := by injection this
 intro e2
 have := (World.ownsRow.lt h2 _ e2).2
 omega
theorem src_new {w : World} {base g m : Nat} {l : List Int} (hs : WS w base g (some l) m) (xs : List Int) (cs : Array Value) (e : cs.toList = flatK kB xs) : Src (w.alloc (.cells cs 5)) g (some ⟨w.heap.size, 0, none⟩) xs :=
 src_fresh hs ((Below.refl _ _).alloc (Nat.le_refl _) _) (k_rd (rd_block (K := kB) (Blk.new w 5 cs) e)) (fun _ ad e => by injection e with e; subst e; exact Nat.le_refl _)
theorem src_low {w : World} {base g m : Nat} {l : List Int} (hs : WS w base g (some l) m) {xs : List Int} {A : Option Addr} (h : Rd w base A xs) (hgb : base ≤ g) : Src w g A xs := by
 refine ⟨h.more (by have := hs.lt; omega), fun hp ad v he hc => ?_⟩
 obtain ⟨b, off, e, hlt, _⟩ := h hp
 rw [he] at e
 injection e with e
 subst e
 refine ⟨by show b ≠ g; omega, fun e2 => ?_⟩
 obtain ⟨v0, h1, h2⟩ := hs
 have := h1.cell 0
 rw [hc] at this
 obtain rfl : v = v0 := by injection this
 have := (World.ownsRow.lt h2 _ e2).1
 have : base ≤ b := this
 omega
theorem row_new (w : World) (xs : List Int) (cs : Array Value) (e : cs.toList = xs.map (Value.int .u8)) (hx : xs.length ≤ maxLen) : Row (w.alloc (.cells cs 5)) w.heap.size (.slice (some ⟨w.heap.size, 0, none⟩) xs.length xs.length) xs := by
 have hz : cs.size = xs.length := by rw [← Array.length_toList, e, List.length_map]
 exact ⟨by simp, .inr ⟨w.heap.size, xs.length, cs, rfl, Nat.le_refl _, heap_alloc_new w _, Nat.le_refl _, hx, by omega, by rw [e, Nat.mul_one]; exact List.take_of_length_le (by simp)⟩⟩
theorem row_at {w : World} {base n c : Nat} {A : Option Addr} {xs : List Int} (h : Row w base (.slice A n c) xs) {ad : Addr} (e : A = some ad) : base ≤ ad.block := by
 subst e
 rcases h.2 with ⟨e0, _⟩ | ⟨g', cap, cur, e0, h3, _⟩
 · cases e0
 · injection e0 with e0
   injection e0 with e0
   subst e0
   exact h3
def be8 (n : Int) : List Int := [n / 72057594037927936, n / 281474976710656 % 256, n / 1099511627776 % 256, n / 4294967296 % 256, n / 16777216 % 256, n / 65536 % 256, n / 256 % 256, n % 256]
def bytesOf (s : ByteArray) : List Int := s.data.toList.map fun b => (b.toNat : Int)
def valB (tag : Int) (xs : List Int) : List Int := (tag :: be4 xs.length) ++ xs
theorem bytesOf_length (s : ByteArray) : (bytesOf s).length = s.size := by simp [bytesOf]
theorem text_conv (W : World) (s : ByteArray) : ∃ W1 c, (convert 9 42 (.string s)).run Tryz.prog W = .ok (.slice (some ⟨W.heap.size, 0, none⟩) (bytesOf s).length c) W1 ∧ Rd W1 W1.heap.size (some ⟨W.heap.size, 0, none⟩) (bytesOf s) ∧ Below W.heap.size W W1 := by
 refine ⟨_, _, by rw [bytesOf_length]; exact Lib.run_convert_string_bytes (P := Tryz.prog) W 9 42 5 s Tryz.underlying9 Tryz.underlying42 Tryz.underlying5, ?_, ?_⟩
 · intro hp
   rw [Lib.bytesWorld_size]
   refine ⟨W.heap.size, 0, rfl, by omega, fun j hj => ?_⟩
   rw [bytesOf_length] at hj
   rw [Nat.zero_add, Lib.bytesWorld_cell W 5 s j hj]
   have hj' : j < s.data.toList.length := by simpa using hj
   simp [bytesOf, List.getD_eq_getElem?_getD, List.getElem?_eq_getElem hj']
 · exact ⟨rfl, rfl, rfl, by rw [Lib.bytesWorld_size]; omega, fun k hk => Lib.bytesWorld_at_old W 5 s k hk⟩
set_option maxHeartbeats 1000000 in
theorem text_any (g : Nat) (s : Option (List Int)) (m : Nat) (tag : Int) (t : ByteArray) (base : Nat) (w : World) (hs : WS w base g s m) (hb : base ≤ w.heap.size) (ht : 0 ≤ tag) (ht2 : tag ≤ 255) (hx : t.size ≤ 4194304) (hl : ∀ l, s = some l → l.length ≤ 100000000) (hm : m ≤ 1000000) (hgb : base ≤ g) :
   Calls Tryz.prog 64 #[.pointer (some ⟨g, 0, none⟩), .int .u8 tag, .string t] w fun e w' => e = .returned (.pointer (some ⟨g, 0, none⟩)) ∧
     WS w' base g (putS s tag (bytesOf t)) (cntS s tag m) ∧ WB base w w' := by
 obtain ⟨W1, c, hcv, hrd, hb1⟩ := text_conv w t
 have h := Lib.hid (bytes_any g s m (bytesOf t) tag (some ⟨w.heap.size, 0, none⟩) c base W1 (hs.on hb1) (Nat.le_trans hb hb1.size) (fun l e => by subst e; exact src_fresh hs hb1 hrd (fun _ ad e => by injection e with e; subst e; exact Nat.le_refl _)) (fun e => by cases e) ht ht2 (by rw [bytesOf_length]; exact hx) hl hm hgb)
 clear hs hl hrd
 go_enter Tryz.func64, Tryz.ntmps64
 go_wp2_with fail
 refine h.out.mono ?_
 rintro e w2 ⟨rfl, h1, h2⟩
 go_wp2_with fail
 go_ret
 exact ⟨rfl, h1, (WB.of hb1 hb).trans h2⟩
set_option maxHeartbeats 2000000 in
theorem refValue_any (tag : Int) (xs : List Int) (A : Option Addr) (c : Nat) (w : World) (hr : Rd w w.heap.size A xs) (hA : A = none → c = 0) (hx : xs.length ≤ 4194304) :
   Calls Tryz.prog 53 #[.int .u8 tag, .slice A xs.length c] w fun e w' => ∃ v, e = .returned v ∧ Row w' w.heap.size v (valB tag xs) ∧ Below w.heap.size w w' := by
 have hb1 : ∀ o, Below w.heap.size w (w.alloc o) := fun o => (Below.refl _ _).alloc (Nat.le_refl _) o
 have HR := Lib.hid hr
 have hln : (tag :: be4 xs.length).length + xs.length ≤ 1000000000 := by show 5 + xs.length ≤ _; omega
 have hrow : Row (w.alloc (.cells #[.int .u8 tag, .int .u8 ((xs.length : Int) / 16777216), .int .u8 ((xs.length : Int) / 65536 % 256), .int .u8 ((xs.length : Int) / 256 % 256), .int .u8 ((xs.length : Int) % 256)] 5)) w.heap.size (.slice (some ⟨w.heap.size, 0, none⟩) 5 5) (tag :: be4 xs.length) :=
   row_new w (tag :: be4 xs.length) _ (by simp [be4]; omega) (by simp [be4, maxLen])
 have HW := Lib.hid (row_k.2 hrow)
 have hbs : ∀ o, w.heap.size ≤ (w.alloc o).heap.size := fun o => by simp
 clear hr hrow
 go_enter Tryz.func53, Tryz.ntmps53
 go_wp2_with (at_builtin; refine wpList_appK kB rfl _ _ rfl xs rfl HW.out rfl (rd_k (HR.out.below (hb1 _))) hA hln (hbs _) ?_; intro v1 w1 hrow1 hg1)
 go_ret
 exact ⟨v1, rfl, row_k.1 hrow1, (hb1 _).trans (row_below HW.out hg1 (hbs _))⟩
theorem valB_length (t : Int) (xs : List Int) : (valB t xs).length = 5 + xs.length := by simp [valB, be4]; omega
theorem mkS_size (l : List Int) : (mkS l).size = l.length := by
 have key : ∀ (l : List Int) (r : ByteArray), (l.foldl (fun r n => r.push (UInt8.ofNat n.toNat)) r).size = r.size + l.length := by
   intro l
   induction l with
   | nil => intro r; rfl
   | cons x t ih => intro r; simp only [List.foldl_cons, List.length_cons]; rw [ih, ByteArray.size_push]; omega
 have := key l ByteArray.empty
 rw [show ByteArray.empty.size = 0 from rfl, Nat.zero_add] at this
 exact this
theorem toList_inj {a b : ByteArray} (h : a.toList = b.toList) : a = b := by
 have : ∀ x : ByteArray, x.toList = x.data.toList := fun x => ByteArray.toList_eq x
 rw [this, this] at h
 cases a; cases b
 simp_all
def tk (f : Bool) (r : List Int) (tag : Int) : Option (List Int) × (Bool × List Int) :=
 if f = true then (none, (true, r)) else if stands r = true ∧ r.getD 0 0 = tag then (some ((r.drop 5).take (nv r)), (false, r.drop (5 + nv r))) else (none, (true, r))
set_option maxHeartbeats 4000000 in
theorem number_any (g : Nat) (s : Option (List Int)) (m : Nat) (tag : Int) (n : Int) (base : Nat) (w : World) (hs : WS w base g s m) (hb : base ≤ w.heap.size) (ht : 0 ≤ tag) (ht2 : tag ≤ 255) (hn : 0 ≤ n) (hn2 : n < 18446744073709551616) (hl : ∀ l, s = some l → l.length ≤ 100000000) (hm : m ≤ 1000000) (hgb : base ≤ g) :
   Calls Tryz.prog 46 #[.pointer (some ⟨g, 0, none⟩), .int .u8 tag, .int .u64 n] w fun e w' => e = .returned (.pointer (some ⟨g, 0, none⟩)) ∧
     WS w' base g (putS s tag (be8 n)) (cntS s tag m) ∧ WB base w w' := by
 have hmk := make8
 have hbel : ∀ o, WB base w (w.alloc o) := fun o => WB.of ((Below.refl _ _).alloc (Nat.le_refl _) o) hb
 have hbel' : ∀ o, Below w.heap.size w (w.alloc o) := fun o => (Below.refl _ _).alloc (Nat.le_refl _) o
 have h := Lib.hid (bytes_any g s m (be8 n) tag (some ⟨w.heap.size, 0, none⟩) 8 base (w.alloc (.cells ((be8 n).map (Value.int .u8)).toArray 5)) (hs.on (hbel' _)) (by simp; omega) (fun l e => by subst e; exact src_new hs (be8 n) _ (by rw [flat_b])) (fun e => by cases e) ht ht2 (by simp [be8]) hl hm hgb)
 clear hs hl
 go_enter Tryz.func46, Tryz.ntmps46
 go_wp2
 refine wp_loop_rounds 9 ?_
 iterate 8
   rw [rounds_succ]
   go_wp2
 rw [rounds_succ]
 go_wp2_with fail
 refine h.out.mono ?_
 rintro e w1 ⟨rfl, h1, h2⟩
 go_wp2_with fail
 go_ret
 exact ⟨rfl, h1, (hbel _).trans h2⟩
set_option maxHeartbeats 4000000 in
theorem refNumber_any (tag : Int) (n : Int) (w : World) (hn : 0 ≤ n) (hn2 : n < 18446744073709551616) :
   Calls Tryz.prog 52 #[.int .u8 tag, .int .u64 n] w fun e w' => ∃ v, e = .returned v ∧ Row w' w.heap.size v (valB tag (be8 n)) ∧ Below w.heap.size w w' := by
 have hmk := make8
 have hb1 : ∀ o, Below w.heap.size w (w.alloc o) := fun o => (Below.refl _ _).alloc (Nat.le_refl _) o
 have e8 : [Value.int .u8 (n / 256 / 256 / 256 / 256 / 256 / 256 / 256 % 256), .int .u8 (n / 256 / 256 / 256 / 256 / 256 / 256 % 256), .int .u8 (n / 256 / 256 / 256 / 256 / 256 % 256), .int .u8 (n / 256 / 256 / 256 / 256 % 256), .int .u8 (n / 256 / 256 / 256 % 256), .int .u8 (n / 256 / 256 % 256), .int .u8 (n / 256 % 256), .int .u8 (n % 256)] = (be8 n).map (Value.int .u8) := by
   simp [be8]
   omega
 have h := Lib.hid (refValue_any tag (be8 n) (some ⟨w.heap.size, 0, none⟩) 8 _ (k_rd (rd_block (K := kB) (Blk.new w 5 #[Value.int .u8 (n / 256 / 256 / 256 / 256 / 256 / 256 / 256 % 256), .int .u8 (n / 256 / 256 / 256 / 256 / 256 / 256 % 256), .int .u8 (n / 256 / 256 / 256 / 256 / 256 % 256), .int .u8 (n / 256 / 256 / 256 / 256 % 256), .int .u8 (n / 256 / 256 / 256 % 256), .int .u8 (n / 256 / 256 % 256), .int .u8 (n / 256 % 256), .int .u8 (n % 256)]) (by rw [flat_b, ← e8]))) (fun e => by cases e) (by simp [be8]))
 clear e8
 go_enter Tryz.func52, Tryz.ntmps52
 go_wp2
 refine wp_loop_rounds 9 ?_
 iterate 8
   rw [rounds_succ]
   go_wp2
 rw [rounds_succ]
 go_wp2_with fail
 refine h.out.mono ?_
 rintro e w1 ⟨v1, rfl, h1, h2⟩
 go_wp2_with fail
 go_ret
 exact ⟨v1, rfl, ⟨h1.1, h1.2.imp id fun ⟨g, c', cur, e1, e2, e3⟩ => ⟨g, c', cur, e1, by simp at e2; omega, e3⟩⟩, (hb1 _).trans (h2.mono (by simp))⟩
end Go.Proofs.YtniaijgejljjbaaGreat.Tlv
namespace Go.Proofs.YtniaijgejljjbaaGreat.Tlv
open Go.RowKit
set_option maxRecDepth 100000
set_option linter.deprecated false
set_option linter.unusedVariables false
set_option linter.unusedSimpArgs false
def allT (of : Int) (v : List Int) : Bool := (items v).all (fun x => x.1 == of) && decide (endP v = v.length)
theorem RowK.lowR {α : Type} [Inhabited α] {K : Kind α} {w : World} {base base' : Nat} {v : Value} {l : List α} (h : RowK K w base v l) (hb : base' ≤ base) : RowK K w base' v l := by
 refine ⟨h.1, ?_⟩
 rcases h.2 with h0 | ⟨g, cap, cur, hv, hg, rest⟩
 · exact .inl h0
 · exact .inr ⟨g, cap, cur, hv, Nat.le_trans hb hg, rest⟩
end Go.Proofs.YtniaijgejljjbaaGreat.Tlv
