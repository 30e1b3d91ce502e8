/- Operations as values; which may be. -/
import Derived.Test.YtcjiofhjognklaaGreatY19
import Derived.Test.YtcjiofhjognklaaGreatY15
import Derived.Great.BuildSlice
import Derived.Great.Walk
import Derived.Laws.CopyOwn
import Derived.Deep.MidRow
import Derived.Deep.DeepCutAuto
import Derived.Lib.QuietBelow
import Derived.Test.YtcjiofhjognklaaGreatY05
import Derived.Test.YtcjiofhjognklaaGreatY18
import Derived.Test.YtcjiofhjognklaaGreatY21
import Derived.Test.YtcjiofhjognklaaGreatY31
import Derived.Test.YtcjiofhjognklaaGreatY28
namespace Go.Proofs.YtcjiofhjognklaaGreat.Tlv
open Go.RowKit
set_option maxRecDepth 100000
set_option linter.unusedVariables false
set_option linter.unusedSimpArgs false
structure Opn where
 k : Int
 name : List UInt8
 dst : List UInt8
 attrs : List At
 parts : List (List UInt8)
 cur : List Int
 n : Int
deriving Inhabited
theorem info9 : ∃ (i : TypeInfo) (z : Value), Tryz.prog.info? 9 = some i ∧ i.zero = some z ∧ i.size = 1 ∧ i.bytes = 16 ∧ z.cells.size = 1 := by
 have h : (Tryz.prog.info? 9).map (fun i => (i.zero, i.size, i.bytes)) = some (some (.string ⟨#[]⟩), 1, 16) := by kernel_rfl
 obtain ⟨i, hi, h0, h1, h2⟩ := info_parts h
 exact ⟨i, _, hi, h0, h1, h2, rfl⟩
def kStr : Kind (List UInt8) where
 e := 9
 st := 24
 size := 1
 bytes := 16
 cs := fun s => [.string (sx s)]
 len := fun _ => rfl
 one := fun x u hu => by simp at hu; subst hu; rfl
 pos := by decide
 sl := Tryz.underlying24
 zero := info9
 small := by decide
def RdP (w : World) (v : Value) (l : List (List UInt8)) : Prop := ∃ A c, v = .slice A l.length c ∧ ((A = none → c = 0) ∧ l.length ≤ c ∧ c ≤ maxLen) ∧ RdK kStr w w.heap.size A l
def RdC (w : World) (v : Value) (l : List Int) : Prop := ∃ A c, v = .slice A l.length c ∧ ((A = none → c = 0) ∧ l.length ≤ c ∧ c ≤ maxLen) ∧ Rd w w.heap.size A l
theorem RdP.on {w w' : World} {v : Value} {l : List (List UInt8)} (h : RdP w v l) (hb : Below w.heap.size w w') : RdP w' v l := by
 obtain ⟨A, c, e, h0, h1⟩ := h
 exact ⟨A, c, e, h0, h1.on hb⟩
theorem RdC.on {w w' : World} {v : Value} {l : List Int} (h : RdC w v l) (hb : Below w.heap.size w w') : RdC w' v l := by
 obtain ⟨A, c, e, h0, h1⟩ := h
 exact ⟨A, c, e, h0, (h1.below hb).more hb.size⟩
theorem RdP.nil (w : World) : RdP w (.slice none 0 0) [] := ⟨none, 0, rfl, ⟨fun _ => rfl, Nat.le_refl _, Nat.zero_le _⟩, fun h => by simp at h⟩
theorem RdC.nil (w : World) : RdC w (.slice none 0 0) [] := ⟨none, 0, rfl, ⟨fun _ => rfl, Nat.le_refl _, Nat.zero_le _⟩, fun h => by simp at h⟩
structure OpAt (w : World) (o : Opn) (va vp vc : Value) : Prop where
 a : YtcjiofhjognklaaGreat.RdV w va o.attrs
 p : RdP w vp o.parts
 c : RdC w vc o.cur
theorem OpAt.on {w w' : World} {o : Opn} {va vp vc : Value} (h : OpAt w o va vp vc) (hb : Below w.heap.size w w') : OpAt w' o va vp vc := ⟨YtcjiofhjognklaaGreat.RdV.on h.a hb, h.p.on hb, h.c.on hb⟩
abbrev opCs (o : Opn) (va vp vc : Value) : Array Value := #[.int .i64 o.k, .string (sx o.name), .string (sx o.dst), va, vp, vc, .int .i64 o.n]
structure Lim (o : Opn) : Prop where
 ln : o.name.length ≤ 9223372036854775807
 lt : o.dst.length ≤ 9223372036854775807
 sa : YtcjiofhjognklaaGreat.Sm o.attrs
 la : o.attrs.length ≤ 1000000
 lp : o.parts.length ≤ 1000000
 sp : ∀ s ∈ o.parts, s.length ≤ 9223372036854775807
 lc : o.cur.length ≤ 9223372036854775807
 byt : Byt o.cur
def fA (k : Int) : Bool := k == 1 || k == 3 || k == 5
end Go.Proofs.YtcjiofhjognklaaGreat.Tlv
namespace Go.Proofs.YtcjiofhjognklaaGreat.Tlv
open Go.RowKit
set_option maxRecDepth 100000
set_option linter.unusedVariables false
set_option linter.unusedSimpArgs false
open Go.Shelf Go.Lib
theorem str_cell {w w' : World} {n k : Nat} {A : Option Addr} {l : List (List UInt8)} (h : RdK kStr w n A l) (hb : Below n w w') (hk : k < l.length) : ∃ b off, A = some ⟨b, off, none⟩ ∧ b < n ∧ w'.cell? ⟨b, off + k, none⟩ = some (.string (sx (l.getD k default))) := by
 obtain ⟨b, off, e, hlt, hc⟩ := h (by omega)
 have := hc k hk 0 _ rfl
 refine ⟨b, off, e, hlt, (hb.cell (p := ⟨b, off + k, none⟩) hlt).trans ?_⟩
 simpa [kStr] using this
end Go.Proofs.YtcjiofhjognklaaGreat.Tlv
namespace Go.Proofs.YtcjiofhjognklaaGreat.Tlv
open Go.RowKit
set_option maxRecDepth 100000
set_option linter.unusedVariables false
set_option linter.unusedSimpArgs false
abbrev opVal (o : Opn) (va vp vc : Value) : Value := .agg (opCs o va vp vc)
theorem RdC.len {w : World} {v : Value} {l : List Int} (h : RdC w v l) : ∃ A c n, v = .slice A n c ∧ Hid (n = l.length) := by
 obtain ⟨A, c, e, _⟩ := h
 exact ⟨A, c, _, e, Lib.hid rfl⟩
theorem rdv_len {w : World} {v : Value} {l : List At} (h : YtcjiofhjognklaaGreat.RdV w v l) : ∃ A c n, v = .slice A n c ∧ Hid (n = l.length) ∧ YtcjiofhjognklaaGreat.RdK kA w w.heap.size A l := by
 obtain ⟨A, c, e, _, h1⟩ := h
 exact ⟨A, c, _, e, Lib.hid rfl, h1⟩
theorem Blk.row {w : World} {g : Nat} {t : TypeId} {old : Array Value} (h : Blk w g t old) (cs : Array Value) : Blk (w.setRow g cs) g t cs := setRow_heap w g old cs t (0, 0) h
theorem Blk.rowFar {w : World} {g k : Nat} {t : TypeId} {cs : Array Value} (h : Blk w k t cs) (hne : k ≠ g) (c : Array Value) : Blk (w.setRow g c) k t cs := (setRow_other w g k c hne).trans h
theorem Blk.range {w : World} {g : Nat} {t : TypeId} {cs : Array Value} (h : Blk w g t cs) (o : Nat) (vs : List Value) (he : (cs.toList.drop o).take vs.length = vs) : w.rangeAt g o vs := fun j v hv => by
 rw [h.cell (o + j)]
 rw [← he, List.getElem?_take] at hv
 split at hv
 · rw [List.getElem?_drop] at hv
   simpa using hv
 · cases hv
theorem puts_app {q xs : List Int} {tag : Int} (h : tag ≠ 0) : putS (some q) tag xs = some (q ++ valB tag xs) := by
 unfold putS valB
 simp [h]
theorem cnts_app {q : List Int} {tag : Int} {m : Nat} (h : tag ≠ 0) : cntS (some q) tag m = m + 1 := by
 unfold cntS
 simp [h]
theorem ws_new (w : World) : WS (w.alloc (.cells #[.slice none 0 0, .int .i64 0, .int .i64 0] 88)) w.heap.size w.heap.size (some []) 0 := ⟨_, Blk.new w 88 #[.slice none 0 0, .int .i64 0, .int .i64 0], World.ownsRow_nil _ _ _ _⟩
abbrev ptr (g : Nat) : Value := .pointer (some ⟨g, 0, none⟩)
abbrev Put1 (g : Nat) (q : List Int) (m : Nat) (W : World) (e : Ending) (w' : World) : Prop := e = .returned (ptr g) ∧ WS w' g g (some q) (m + 1) ∧ WB g W w'
theorem w_num (g : Nat) (q : List Int) (m : Nat) (tag n : Int) (W : World) (hs : WS W g g (some q) m) (ht : 0 < tag) (ht2 : tag ≤ 255) (hn : 0 ≤ n) (hn2 : n < 18446744073709551616) (hq : q.length ≤ 100000000) (hm : m ≤ 1000000) :
   Hid (Calls Tryz.prog 45 #[ptr g, .int .u8 tag, .int .u64 n] W (Put1 g (q ++ valB tag (be8 n)) m W)) := Lib.hid (by
 have h := number_any g (some q) m tag n g W hs (Nat.le_of_lt hs.lt) (by omega) ht2 hn hn2 (fun l e => by injection e with e; subst e; exact hq) hm (Nat.le_refl _)
 rw [puts_app (by omega), cnts_app (by omega)] at h
 exact h.mono fun e w' ⟨h1, h2, h3⟩ => ⟨h1, h2, h3⟩)
theorem w_flag (g : Nat) (q : List Int) (m : Nat) (tag : Int) (b : Bool) (W : World) (hs : WS W g g (some q) m) (ht : 0 < tag) (ht2 : tag ≤ 255) (hq : q.length ≤ 100000000) (hm : m ≤ 1000000) :
   Hid (Calls Tryz.prog 84 #[ptr g, .int .u8 tag, .bool b] W (Put1 g (q ++ valB tag [if b = true then 1 else 0]) m W)) := Lib.hid (by
 have h := flag_any g (some q) m tag b g W hs (Nat.le_of_lt hs.lt) (by omega) ht2 (fun l e => by injection e with e; subst e; exact hq) hm (Nat.le_refl _)
 rw [puts_app (by omega), cnts_app (by omega)] at h
 exact h.mono fun e w' ⟨h1, h2, h3⟩ => ⟨h1, h2, h3⟩)
theorem w_bytes (g : Nat) (q : List Int) (m : Nat) (tag : Int) (xs : List Int) (A : Option Addr) (c n : Nat) (W : World) (hs : WS W g g (some q) m) (hn : n = xs.length) (hr : Rd W g A xs) (hA : A = none → c = 0) (ht : 0 < tag) (ht2 : tag ≤ 255) (hl : xs.length ≤ 4194304) (hq : q.length ≤ 100000000) (hm : m ≤ 1000000) :
   Hid (Calls Tryz.prog 50 #[ptr g, .int .u8 tag, .slice A n c] W (Put1 g (q ++ valB tag xs) m W)) := Lib.hid (by
 subst hn
 have h := bytes_any g (some q) m xs tag A c g W hs (Nat.le_of_lt hs.lt) (fun l e => by injection e with e; subst e; exact src_low hs hr (Nat.le_refl _)) hA (by omega) ht2 hl (fun l e => by injection e with e; subst e; exact hq) hm (Nat.le_refl _)
 rw [puts_app (by omega), cnts_app (by omega)] at h
 exact h.mono fun e w' ⟨h1, h2, h3⟩ => ⟨h1, h2, h3⟩)
abbrev numB (t n : Int) : List Int := valB t (be8 n)
theorem be8_length (n : Int) : (be8 n).length = 8 := rfl
theorem RdP.full {w : World} {v : Value} {l : List (List UInt8)} (h : RdP w v l) : ∃ A c n, v = .slice A n c ∧ Hid (n = l.length) ∧ Hid (RdK kStr w w.heap.size A l) := by
 obtain ⟨A, c, e, _, h1⟩ := h
 exact ⟨A, c, _, e, Lib.hid rfl, Lib.hid h1⟩
theorem RdC.full {w : World} {v : Value} {l : List Int} (h : RdC w v l) : ∃ A c n, v = .slice A n c ∧ Hid (n = l.length) ∧ Hid (Rd w w.heap.size A l ∧ (A = none → c = 0)) := by
 obtain ⟨A, c, e, h0, h1⟩ := h
 exact ⟨A, c, _, e, Lib.hid rfl, Lib.hid ⟨h1, h0.1⟩⟩
theorem Row.lowC {w : World} {base base' : Nat} {v : Value} {l : List Int} (h : Row w base v l) (hb : base' ≤ base) : Row w base' v l := by
 refine ⟨h.1, ?_⟩
 rcases h.2 with h0 | ⟨g, cap, cur, hv, hg, rest⟩
 · exact .inl h0
 · exact .inr ⟨g, cap, cur, hv, Nat.le_trans hb hg, rest⟩
theorem num_len {t n : Int} : (numB t n).length ≤ 100 := by simp [valB_length, be8_length]
def handB (hs : List Hand) (k : Nat) : List Int := valB 1 (hs.getD k default).bs
theorem hand_cell {w : World} {n k : Nat} {A : Option Addr} {hs : List Hand} (h : RdK kS w n A hs) (hk : k < hs.length) : ∃ b off, A = some ⟨b, off, none⟩ ∧ b < n ∧ w.cell? ⟨b, off + k, none⟩ = some (.slice (hs.getD k default).A (hs.getD k default).bs.length (hs.getD k default).c) := by
 obtain ⟨b, off, e, hlt, hc⟩ := h (by omega)
 refine ⟨b, off, e, hlt, ?_⟩
 have := hc k hk 0 _ rfl
 rwa [show off + k * kS.size + 0 = off + k from by show off + k * 1 + 0 = off + k; omega] at this
theorem mem_getH {l : List Hand} {k : Nat} (h : k < l.length) : l.getD k default ∈ l := by rw [List.getD_eq_getElem?_getD, List.getElem?_eq_getElem h]; exact List.getElem_mem _
theorem handPut (g B k m : Nat) (q : List Int) (hs : List Hand) (A : Option Addr) (c n : Nat) (W : World) (hw : WS W g g (some q) m) (hB : Blk W B 110 #[.slice A n c]) (hr : RdK kS W W.heap.size A hs) (hn : n = hs.length) (hk : k < hs.length) (hsz : ∀ x ∈ hs, Rd W g x.A x.bs ∧ (x.A = none → x.c = 0) ∧ x.bs.length ≤ 4194304) (hq : q.length ≤ 4000000) (hm : m ≤ 1000000) :
   Calls Tryz.prog 85 #[ptr g, .int .i64 (k : Int), ptr B] W fun e w' => (∃ v, e = .returned v) ∧ WS w' g g (some (q ++ handB hs k)) (m + 1) ∧ WB g W w' := by
 obtain ⟨b, off, rfl, _, c0⟩ := hand_cell hr hk
 have d0 : W.cell? ⟨B, 0, none⟩ = some (.slice (some ⟨b, off, none⟩) n c) := hB.cell 0
 obtain ⟨h1, h2, h3⟩ := hsz _ (mem_getH hk)
 have hE : Hid (q ++ handB hs k = q ++ valB 1 (hs.getD k default).bs) := Lib.hid rfl
 rw [hE.out]
 generalize hs.getD k default = x at c0 h1 h2 h3 ⊢
 obtain ⟨xt, xA, xc, xb⟩ := x
 dsimp only at c0 h1 h2 h3 ⊢
 obtain ⟨xn, hxn⟩ : ∃ j, j = xb.length := ⟨_, rfl⟩
 have HT := w_bytes g q m 1 xb xA xc xn W hw hxn h1 h2 (by decide) (by decide) h3 (by omega) hm
 rw [← hxn] at c0
 have hlt : k < n := by omega
 clear hw hB hr hn hk hsz hq hm hE h1 h2 h3 hxn
 go_enter Tryz.func85, Tryz.ntmps85
 go_wp2_with ((with_reducible refine HT.out.mono ?_); rintro e w1 ⟨rfl, h1, h2⟩; have H1 := Lib.hid (And.intro h1 h2); clear h1 h2)
 exact bodyPost_end (v := .tuple #[]) (by simp [results, Tryz.f85, go_sem]) rfl ⟨⟨_, rfl⟩, H1.out⟩
def handsB (hs : List Hand) : List Int := hs.flatMap fun x => valB 1 x.bs
theorem allI_hands (l : List Hand) : ∀ k, k ≤ l.length → allI (handB l) k = handsB (l.take k) := by
 intro k
 induction k with
 | zero => intro _; rfl
 | succ k ih =>
   intro h
   rw [allI_succ, ih (by omega), take_snocH l k (by omega)]
   unfold handsB
   rw [List.flatMap_append]
   simp [handB]
theorem w_hands (g B m : Nat) (q : List Int) (hs : List Hand) (A : Option Addr) (c n : Nat) (W : World) (hw : WS W g g (some q) m) (hB : Blk W B 110 #[.slice A n c]) (hr : RdK kS W g A hs) (hn : n = hs.length) (hl : hs.length ≤ 1000) (hsz : ∀ x ∈ hs, Rd W g x.A x.bs ∧ (x.A = none → x.c = 0) ∧ x.bs.length ≤ 4194304) (hall : ∀ k, k ≤ hs.length → (handsB (hs.take k)).length ≤ 4000000) (hq : q.length ≤ 100000000) (hm : m ≤ 1000000) :
   Hid (Calls Tryz.prog 48 #[ptr g, .int .u8 3, .int .i64 (n : Int), .func (.func 85) #[] #[ptr B]] W (Put1 g (q ++ valB 3 (handsB hs)) m W)) := Lib.hid (by
 subst hn
 have hgl := hw.lt
 have h := listR_any g B g (some q) m hs.length (handB hs) 3 W hw (Nat.le_of_lt hgl) hl
   (fun k q' m' W' hk hs' hwb hq' hm' => (handPut W.heap.size B k m' q' hs A c hs.length W' hs' (hwb.kp _ 110 _ (by decide) (by decide) (hB.alloc _)) ((((hr.more (Nat.le_of_lt hgl)).below ((Below.refl _ _).alloc (Nat.le_refl _) (.cells #[.slice none 0 0, .int .i64 0, .int .i64 0] 88))).below hwb.bel).more (Nat.le_of_lt hs'.lt)) rfl hk (fun x hx => ⟨(((hsz x hx).1.more (Nat.le_of_lt hgl)).below ((Below.refl _ _).alloc (Nat.le_refl _) (.cells #[.slice none 0 0, .int .i64 0, .int .i64 0] 88))).below hwb.bel, (hsz x hx).2⟩) hq' hm').mono fun e w' ⟨h1, h2, h3⟩ => ⟨h1, h2, h3⟩)
   (fun k hk => by rw [allI_hands hs k hk]; exact hall k hk) (Nat.le_refl _) (by decide) (by decide) (fun l' e => by injection e with e; subst e; exact hq) hm
 rw [puts_app (by decide), cnts_app (by decide), allI_hands hs hs.length (Nat.le_refl _), List.take_length] at h
 exact h)
end Go.Proofs.YtcjiofhjognklaaGreat.Tlv
