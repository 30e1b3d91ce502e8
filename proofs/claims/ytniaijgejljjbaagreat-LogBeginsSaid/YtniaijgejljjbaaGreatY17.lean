/- A list of texts put into a writer. -/
import Derived.Test.YtniaijgejljjbaaGreatY14
import Derived.Test.YtniaijgejljjbaaGreatY15
import Derived.Test.YtniaijgejljjbaaGreatY16
import Derived.Test.YtniaijgejljjbaaGreatY03
import Derived.Defers
import Derived.Recover
import Derived.Deep.RegionHeld3
import Derived.Deep.RegionLaw
namespace Go.Proofs.YtniaijgejljjbaaGreat.Tlv
open Go.RowKit
set_option maxRecDepth 100000
set_option linter.unusedVariables false
set_option linter.unusedSimpArgs false
set_option maxHeartbeats 4000000 in
theorem fillP_any (g B5 base n : Nat) (item : Nat → List Int) (w : World) (hs : WS w base g (some []) 0) (hb : base ≤ w.heap.size) (hn : n ≤ 1000)
   (hput : ∀ k q m W, k < n → WS W base g (some q) m → WB base w W → q.length ≤ 4000000 → m ≤ 1000000 → Calls Tryz.prog 67 #[.pointer (some ⟨g, 0, none⟩), .int .i64 (k : Int), .pointer (some ⟨B5, 0, none⟩)] W fun e w' => (∃ v, e = .returned v) ∧ WS w' base g (some (q ++ item k)) (m + 1) ∧ WB base W w')
   (hlb : ∀ k, k ≤ n → (allI item k).length ≤ 4000000) (hgb : base ≤ g) :
   Calls Tryz.prog 79 #[.pointer (some ⟨g, 0, none⟩), .int .i64 (n : Int), .func (.func 67) #[] #[.pointer (some ⟨B5, 0, none⟩)]] w fun e w' => e = .returned (.int .i64 0) ∧ (∃ m, WS w' base g (some (allI item n)) m) ∧ WB base w w' := by
 have hmf : ∀ (fn : Fn) (first cap : Array Value) (w : World), (Instr.makeFunc fn first cap).run Tryz.prog w = .ok (.func fn first cap) w := fun _ _ _ _ => rfl
 have hnf : ∀ W, (binOp BinOp.eql 117 (Value.func (.func 67) #[] #[.pointer (some ⟨B5, 0, none⟩)]) Value.nilFunc).run Tryz.prog W = .ok (.bool false) W := fun W => rfl
 have hb1 : Below w.heap.size w (w.alloc (.cells #[.int .i64 0] 28)) := (Below.refl _ _).alloc (Nat.le_refl _) _
 have H := Lib.hid (And.intro (hs.on hb1) (And.intro (Blk.new w 28 #[.int .i64 0]) (WB.of hb1 hb)))
 have hbs : base ≤ (w.alloc (.cells #[.int .i64 0] 28)).heap.size := by simp; omega
 have HP := Lib.hid hput
 clear hs hb1 hput
 by_cases h0 : n = 0
 · have e0 : allI item n = [] := by rw [h0]; rfl
   have c6 := H.out.2.1.cell 0
   have f6 := H.out.2.1.frozen 0
   rw [e0]
   subst h0
   clear hlb
   go_enter_defers Tryz.func79, Tryz.ntmps79
   go_wp2
   refine wp_loop_rounds 1 ?_
   rw [rounds_succ]
   go_wp2
   refine leaves_cons (f := 88) (args := #[.pointer (some ⟨w.heap.size, 0, none⟩)]) (by simp) (by simp [go_sem]) ?_
   refine (fill1_idle _ _).mono ?_
   rintro e u' w'' ⟨rfl, rfl, rfl⟩
   have hres : (∃ m, WS (w.alloc (.cells #[.int .i64 0] 28)) base g (some []) m) ∧ WB base w (w.alloc (.cells #[.int .i64 0] 28)) := ⟨⟨0, H.out.1⟩, H.out.2.2⟩
   simp [Leaves, settle, results, Tryz.results79, go_sem, c6]
   exact hres
 · have hpos : 0 < n := by omega
   go_enter_defers Tryz.func79, Tryz.ntmps79
   go_wp2
   go_loopw [21] (fun i wr => ∃ k : Nat, i = .int .i64 k ∧ k ≤ n ∧ Hid (WS wr base g (some (allI item k)) k) ∧ Hid (WB base (w.alloc (.cells #[.int .i64 0] 28)) wr)) (fun i _ => n - (intOf i).toNat)
   case atStart => exact ⟨0, rfl, Nat.zero_le _, Lib.hid H.out.1, Lib.hid (WB.refl _ _)⟩
   case round =>
     obtain ⟨k, rfl, hk, HS, HB⟩ := hrel
     by_cases hlt : k < n
     · obtain ⟨v, hblk, hrow⟩ := HS.out
       have c1 := hblk.cell 1
       have hle : base ≤ wr.heap.size := Nat.le_trans hbs HB.out.bel.size
       have hp := Lib.hid (HP.out k _ k wr hlt HS.out (H.out.2.2.trans HB.out) (hlb k hk) (by omega))
       have HL := Lib.hid (hlb (k + 1) hlt)
       have HE := Lib.hid (allI_succ item k)
       clear hblk hrow
       go_wp2_with fail
       refine hp.out.mono ?_
       clear hp
       rintro e w2 ⟨⟨v2, rfl⟩, h1, h2⟩
       have HS2 := Lib.hid h1
       obtain ⟨v3, hblk3, hrow3⟩ := h1
       obtain ⟨A3, c3, rfl, _, _⟩ := hrow3.rd
       have hlen : Hid ((allI item k ++ item k).length ≤ 4000000) := Lib.hid (by rw [← HE.out]; exact HL.out)
       generalize allI item k ++ item k = X at *
       have d0 := hblk3.cell 0
       have d1 := hblk3.cell 1
       have d2 := hblk3.cell 2
       have hmx : decide ((4194304 : Int) < X.length) = false := by have := hlen.out; simp; omega
       have HB2 := Lib.hid (HB.out.trans h2)
       clear hblk3 hrow3 h2
       go_wp2_with fail
       go_roundw
       case rel => exact ⟨k + 1, by go_num, by omega, Lib.hid (by rw [HE.out]; exact HS2.out), HB2⟩
       case measure => simp [intOf]; omega
     · have : k = n := by omega
       subst this
       have c6 := (HB.out.kp _ 28 _ (by decide) (by decide) H.out.2.1).cell 0
       have f6 := (HB.out.kp _ 28 _ (by decide) (by decide) H.out.2.1).frozen 0
       clear hlb
       go_wp2_with fail
       refine leaves_cons (f := 88) (args := #[.pointer (some ⟨w.heap.size, 0, none⟩)]) (by simp) (by simp [go_sem]) ?_
       refine (fill1_idle _ _).mono ?_
       rintro e u' w'' ⟨rfl, rfl, rfl⟩
       have hb6 := HB.out.kp _ 28 _ (by decide) (by decide) H.out.2.1
       have c7 := (hb6.set_ 0 (.int .i64 0)).cell 0
       simp [Leaves, settle, results, Tryz.results79, go_sem, c7]
       obtain ⟨v, hblk, hrow⟩ := HS.out
       have hgne : g ≠ w.heap.size := fun e => by
         subst e
         unfold Blk at hblk hb6
         rw [hblk] at hb6
         cases hb6
       refine ⟨⟨k, v, hblk.far (p := ⟨w.heap.size, 0, none⟩) hgne _, Row.set_ hrow (own_ne hrow hb6 (by decide)) _⟩, (H.out.2.2.trans HB.out).bel.setCell (p := ⟨w.heap.size, 0, none⟩) hb _, fun b t cs h1 h2 h3 => ?_⟩
       exact ((H.out.2.2.trans HB.out).kp b t cs h1 h2 h3).far (p := ⟨w.heap.size, 0, none⟩) (fun e => by have := h3.lt; have e' : b = w.heap.size := e; omega) _
theorem listP_any (g B5 base : Nat) (s : Option (List Int)) (m n : Nat) (item : Nat → List Int) (tag : Int) (w : World) (hs : WS w base g s m) (hb : base ≤ w.heap.size) (hn : n ≤ 1000)
   (hput : ∀ k q m W, k < n → WS W w.heap.size w.heap.size (some q) m → WB w.heap.size (w.alloc (.cells #[.slice none 0 0, .int .i64 0, .int .i64 0] 91)) W → q.length ≤ 4000000 → m ≤ 1000000 → Calls Tryz.prog 67 #[.pointer (some ⟨w.heap.size, 0, none⟩), .int .i64 (k : Int), .pointer (some ⟨B5, 0, none⟩)] W fun e w' => (∃ v, e = .returned v) ∧ WS w' w.heap.size w.heap.size (some (q ++ item k)) (m + 1) ∧ WB w.heap.size W w')
   (hlb : ∀ k, k ≤ n → (allI item k).length ≤ 4000000) (hgb : base ≤ g) (ht : 0 ≤ tag) (ht2 : tag ≤ 255) (hl : ∀ l, s = some l → l.length ≤ 100000000) (hm : m ≤ 1000000) :
   Calls Tryz.prog 66 #[.pointer (some ⟨g, 0, none⟩), .int .u8 tag, .int .i64 (n : Int), .func (.func 67) #[] #[.pointer (some ⟨B5, 0, none⟩)]] w fun e w' => e = .returned (.pointer (some ⟨g, 0, none⟩)) ∧ WS w' base g (putS s tag (allI item n)) (cntS s tag m) ∧ WB base w w' := by
 cases s with
 | none =>
   obtain ⟨v, hblk⟩ := hs
   have HB := Lib.hid hblk
   have c2 := hblk.cell 2
   clear hblk hput hlb hl
   go_enter Tryz.func66, Tryz.ntmps66
   go_wp2
   go_ret
   exact ⟨rfl, ⟨v, HB.out⟩, WB.refl _ _⟩
 | some l =>
   have hb1 : Below w.heap.size w (w.alloc (.cells #[.slice none 0 0, .int .i64 0, .int .i64 0] 91)) := (Below.refl _ _).alloc (Nat.le_refl _) _
   have hin : WS (w.alloc (.cells #[.slice none 0 0, .int .i64 0, .int .i64 0] 91)) w.heap.size w.heap.size (some []) 0 := ⟨_, Blk.new w 91 _, World.ownsRow_nil _ _ _ _⟩
   have hf := Lib.hid (fillP_any w.heap.size B5 w.heap.size n item _ hin hb1.size hn hput hlb (Nat.le_refl _))
   have hlt := hs.lt
   obtain ⟨v, hblk, hrow⟩ := hs
   have c2 := hblk.cell 2
   have HS := Lib.hid (⟨v, hblk, hrow⟩ : WS w base g (some l) m)
   have HL := Lib.hid (hlb n (Nat.le_refl _))
   have HLL := Lib.hid (hl l rfl)
   clear hput hlb hl hblk hrow hin
   go_enter Tryz.func66, Tryz.ntmps66
   go_wp2_with fail
   refine hf.out.mono ?_
   clear hf
   rintro e w2 ⟨rfl, ⟨m2, v2, hblk2, hrow2⟩, hwb⟩
   have hbel : Below w.heap.size w w2 := hb1.trans hwb.bel
   have d2 := WS.on (s := some l) HS.out hbel
   obtain ⟨vv, hbb, hrr⟩ := d2
   have e2 := hbb.cell 2
   have f2 := hbb.frozen 2
   obtain ⟨A2, cc2, rfl, hcc, hrd2⟩ := hrow2.rd
   have e0 := hblk2.cell 0
   have hsz2 := hwb.bel.size
   have hmx : decide ((4194304 : Int) < (allI item n).length) = false := by have := HL.out; simp; omega
   have hAc : A2 = none → cc2 = 0 := fun e => by
     subst e
     rcases hrow2.2 with ⟨e0, _⟩ | ⟨g', cap, cur, e0, _⟩
     · injection e0
     · cases e0
   have HBY := Lib.hid (bytes_any g (some l) m (allI item n) tag A2 cc2 base w2 (WS.on (s := some l) HS.out hbel) (Nat.le_trans hb hbel.size) (fun l' e => by injection e with e; subst e; exact src_fresh HS.out hbel hrd2 (fun _ ad e => row_at hrow2 e)) hAc ht ht2 (by have := HL.out; omega) (fun l' e => by injection e with e; subst e; exact HLL.out) hm hgb)
   have HWB := Lib.hid (WB.of hbel hb)
   clear hbb hrr hblk2 hrow2 hrd2 hwb hbel hb1
   go_wp2_with fail
   refine HBY.out.mono ?_
   rintro e w3 ⟨rfl, h1, h2⟩
   go_wp2_with fail
   go_ret
   exact ⟨rfl, h1, HWB.out.trans h2⟩
theorem mayA_len {a : At} (h : mayA a = true) : a.t.length ≤ 32 ∧ a.v.length ≤ 1000 := by
 unfold mayA at h
 obtain ⟨h1, h2⟩ := Bool.and_eq_true_iff.1 h
 unfold mayT at h1
 unfold mayN at h2
 simp at h1 h2
 exact ⟨by omega, by omega⟩
theorem mayN_len {n : List UInt8} (h : mayN n = true) : n.length ≤ 1000 := by
 unfold mayN at h
 simp at h
 omega
theorem puts_app {q xs : List Int} {tag : Int} (h : tag ≠ 0) : putS (some q) tag xs = some (q ++ valB tag xs) := by
 unfold putS valB
 simp [h]
theorem cnts_app {q : List Int} {tag : Int} {m : Nat} (h : tag ≠ 0) : cntS (some q) tag m = m + 1 := by
 unfold cntS
 simp [h]
theorem ws_new (w : World) : WS (w.alloc (.cells #[.slice none 0 0, .int .i64 0, .int .i64 0] 91)) w.heap.size w.heap.size (some []) 0 := ⟨_, Blk.new w 91 #[.slice none 0 0, .int .i64 0, .int .i64 0], World.ownsRow_nil _ _ _ _⟩
abbrev ptr (g : Nat) : Value := .pointer (some ⟨g, 0, none⟩)
abbrev Put1 (g : Nat) (q : List Int) (m : Nat) (W : World) (e : Ending) (w' : World) : Prop := e = .returned (ptr g) ∧ WS w' g g (some q) (m + 1) ∧ WB g W w'
theorem w_num (g : Nat) (q : List Int) (m : Nat) (tag n : Int) (W : World) (hs : WS W g g (some q) m) (ht : 0 < tag) (ht2 : tag ≤ 255) (hn : 0 ≤ n) (hn2 : n < 18446744073709551616) (hq : q.length ≤ 100000000) (hm : m ≤ 1000000) :
   Hid (Calls Tryz.prog 46 #[ptr g, .int .u8 tag, .int .u64 n] W (Put1 g (q ++ valB tag (be8 n)) m W)) := Lib.hid (by
 have h := number_any g (some q) m tag n g W hs (Nat.le_of_lt hs.lt) (by omega) ht2 hn hn2 (fun l e => by injection e with e; subst e; exact hq) hm (Nat.le_refl _)
 rw [puts_app (by omega), cnts_app (by omega)] at h
 exact h.mono fun e w' ⟨h1, h2, h3⟩ => ⟨h1, h2, h3⟩)
theorem w_text (g : Nat) (q : List Int) (m : Nat) (tag : Int) (s : List UInt8) (W : World) (hs : WS W g g (some q) m) (ht : 0 < tag) (ht2 : tag ≤ 255) (hl : s.length ≤ 4194304) (hq : q.length ≤ 100000000) (hm : m ≤ 1000000) :
   Hid (Calls Tryz.prog 64 #[ptr g, .int .u8 tag, .string (sx s)] W (Put1 g (q ++ valB tag (bytesOf (sx s))) m W)) := Lib.hid (by
 have h := text_any g (some q) m tag (sx s) g W hs (Nat.le_of_lt hs.lt) (by omega) ht2 (by rw [sx_size]; exact hl) (fun l e => by injection e with e; subst e; exact hq) hm (Nat.le_refl _)
 rw [puts_app (by omega), cnts_app (by omega)] at h
 exact h.mono fun e w' ⟨h1, h2, h3⟩ => ⟨h1, h2, h3⟩)
theorem w_bytes (g : Nat) (q : List Int) (m : Nat) (tag : Int) (xs : List Int) (A : Option Addr) (c n : Nat) (W : World) (hs : WS W g g (some q) m) (hn : n = xs.length) (hr : Rd W g A xs) (hA : A = none → c = 0) (ht : 0 < tag) (ht2 : tag ≤ 255) (hl : xs.length ≤ 4194304) (hq : q.length ≤ 100000000) (hm : m ≤ 1000000) :
   Hid (Calls Tryz.prog 47 #[ptr g, .int .u8 tag, .slice A n c] W (Put1 g (q ++ valB tag xs) m W)) := Lib.hid (by
 subst hn
 have h := bytes_any g (some q) m xs tag A c g W hs (Nat.le_of_lt hs.lt) (fun l e => by injection e with e; subst e; exact src_low hs hr (Nat.le_refl _)) hA (by omega) ht2 hl (fun l e => by injection e with e; subst e; exact hq) hm (Nat.le_refl _)
 rw [puts_app (by omega), cnts_app (by omega)] at h
 exact h.mono fun e w' ⟨h1, h2, h3⟩ => ⟨h1, h2, h3⟩)
theorem w_attrs (g : Nat) (q : List Int) (m : Nat) (tag : Int) (l : List At) (v : Value) (W : World) (hs : WS W g g (some q) m) (hv : YtniaijgejljjbaaGreat.RdV W v l) (hf : FewA l) (ht : 0 < tag) (ht2 : tag ≤ 255) (hq : q.length ≤ 100000000) (hm : m ≤ 1000000) :
   Hid (Calls Tryz.prog 65 #[ptr g, .int .u8 tag, v] W fun e w' => (∃ u, e = .returned u) ∧ WS w' g g (some (q ++ valB tag (atsB l))) (m + 1) ∧ WB g W w') := Lib.hid (by
 have h := put_any g g m (some q) tag l v W hs (Nat.le_of_lt hs.lt) hv hf (Nat.le_refl _) (by omega) ht2 (fun l e => by injection e with e; subst e; exact hq) hm
 rw [puts_app (by omega), cnts_app (by omega)] at h
 exact h.mono fun e w' ⟨h1, h2, h3⟩ => ⟨h1, h2, h3⟩)
def partB (l : List (List UInt8)) (k : Nat) : List Int := valB 1 (bytesOf (sx (l.getD k default)))
def partsB (l : List (List UInt8)) : List Int := l.flatMap fun s => valB 1 (bytesOf (sx s))
theorem take_snocP (l : List (List UInt8)) (k : Nat) (h : k < l.length) : l.take (k + 1) = l.take k ++ [l.getD k default] := by
 rw [List.take_add_one, List.getD_eq_getElem?_getD, List.getElem?_eq_getElem h]
 rfl
theorem allI_parts (l : List (List UInt8)) : ∀ k, k ≤ l.length → allI (partB l) k = partsB (l.take k) := by
 intro k
 induction k with
 | zero => intro _; rfl
 | succ k ih =>
   intro h
   rw [allI_succ, ih (by omega), take_snocP l k (by omega)]
   unfold partsB partB
   rw [List.flatMap_append]
   simp
theorem partsB_len : ∀ (l : List (List UInt8)), (∀ s ∈ l, s.length ≤ 1000) → (partsB l).length ≤ 1005 * l.length
 | [], _ => by simp [partsB]
 | s :: l, h => by
   have h1 := partsB_len l fun x hx => h x (List.mem_cons_of_mem _ hx)
   have h2 := h s (List.mem_cons_self ..)
   have h3 : partsB (s :: l) = valB 1 (bytesOf (sx s)) ++ partsB l := by unfold partsB; rw [List.flatMap_cons]
   rw [h3, List.length_append, valB_length, bytes_sx, List.length_cons]
   omega
set_option maxHeartbeats 2000000 in
theorem partPut (g B k m : Nat) (q : List Int) (l : List (List UInt8)) (A : Option Addr) (c n : Nat) (cs : Array Value) (W : World) (hs : WS W g g (some q) m) (hB : Blk W B 44 cs) (h4 : cs[4]? = some (.slice A n c)) (hr : RdK kStr W W.heap.size A l) (hn : n = l.length) (hk : k < l.length) (hsz : ∀ s ∈ l, s.length ≤ 1000) (hq : q.length ≤ 4000000) (hm : m ≤ 1000000) :
   Calls Tryz.prog 67 #[ptr g, .int .i64 (k : Int), ptr B] W fun e w' => (∃ v, e = .returned v) ∧ WS w' g g (some (q ++ partB l k)) (m + 1) ∧ WB g W w' := by
 obtain ⟨b, off, rfl, _, c0⟩ := str_cell hr (Below.refl _ _) hk
 have d4 : W.cell? ⟨B, 4, none⟩ = some (.slice (some ⟨b, off, none⟩) n c) := (hB.cell 4).trans h4
 have hmem : l.getD k default ∈ l := by
   rw [List.getD_eq_getElem?_getD, List.getElem?_eq_getElem hk]
   exact List.getElem_mem _
 have HT := w_text g q m 1 (l.getD k default) W hs (by decide) (by decide) (by have := hsz _ hmem; omega) (by omega) hm
 have hE : Hid (q ++ partB l k = q ++ valB 1 (bytesOf (sx (l.getD k default)))) := Lib.hid rfl
 rw [hE.out]
 obtain ⟨x, hx⟩ : ∃ x, x = l.getD k default := ⟨_, rfl⟩
 rw [← hx] at c0 HT ⊢
 have hlt : k < n := by omega
 clear hs hB h4 hr hn hk hsz hq hm hmem hE hx
 go_enter Tryz.func67, Tryz.ntmps67
 go_wp2_with ((with_reducible refine HT.out.mono ?_); rintro e w1 ⟨rfl, h1, h2⟩; have H1 := Lib.hid (And.intro h1 h2); clear h1 h2)
 exact bodyPost_end (v := .tuple #[]) (by simp [results, Tryz.f67, go_sem]) rfl ⟨⟨_, rfl⟩, H1.out⟩
theorem w_parts (g B m : Nat) (q : List Int) (l : List (List UInt8)) (A : Option Addr) (c n : Nat) (cs : Array Value) (W : World) (hs : WS W g g (some q) m) (hB : Blk W B 44 cs) (h4 : cs[4]? = some (.slice A n c)) (hr : RdK kStr W g A l) (hn : n = l.length) (hl8 : l.length ≤ 8) (hsz : ∀ s ∈ l, s.length ≤ 1000) (hq : q.length ≤ 100000000) (hm : m ≤ 1000000) :
   Hid (Calls Tryz.prog 66 #[ptr g, .int .u8 5, .int .i64 (n : Int), .func (.func 67) #[] #[ptr B]] W (Put1 g (q ++ valB 5 (partsB l)) m W)) := Lib.hid (by
 subst hn
 have hgl := hs.lt
 have hall : ∀ k, k ≤ l.length → (allI (partB l) k).length ≤ 4000000 := fun k hk => by
   rw [allI_parts l k hk]
   have := partsB_len (l.take k) (fun s hs => hsz s (List.mem_of_mem_take hs))
   have h2 : (l.take k).length ≤ 8 := by rw [List.length_take]; omega
   omega
 have h := listP_any g B g (some q) m l.length (partB l) 5 W hs (Nat.le_of_lt hgl) (by omega)
   (fun k q' m' W' hk hs' hwb hq' hm' => (partPut W.heap.size B k m' q' l A c l.length cs W' hs' (hwb.kp _ 44 _ (by decide) (by decide) (hB.alloc _)) h4 ((((hr.more (Nat.le_of_lt hgl)).below ((Below.refl _ _).alloc (Nat.le_refl _) (.cells #[.slice none 0 0, .int .i64 0, .int .i64 0] 91))).below hwb.bel).more (Nat.le_of_lt hs'.lt)) rfl hk hsz hq' hm').mono fun e w' ⟨h1, h2, h3⟩ => ⟨h1, h2, h3⟩)
   hall (Nat.le_refl _) (by decide) (by decide) (fun l' e => by injection e with e; subst e; exact hq) hm
 rw [puts_app (by decide), cnts_app (by decide), allI_parts l l.length (Nat.le_refl _), List.take_length] at h
 exact h)
theorem few_all {l : List At} (h1 : l.length ≤ 50) (h2 : ∀ x ∈ l, mayA x = true) : FewA l := by
 have key : ∀ l : List At, (∀ x ∈ l, mayA x = true) → sumA l ≤ 1032 * l.length := by
   intro l
   induction l with
   | nil => intro _; simp [sumA]
   | cons x t ih =>
     intro hx
     have h3 := mayA_len (hx x (List.mem_cons_self ..))
     have h4 := ih fun y hy => hx y (List.mem_cons_of_mem _ hy)
     simp only [sumA, List.map_cons, List.sum_cons, List.length_cons] at h4 ⊢
     omega
 have := key l h2
 exact ⟨by omega, by omega⟩
structure MayD (o : Opn) : Prop where
 k : isK o.k = true
 nm : o.name.length ≤ 1000
 ds : o.dst.length ≤ 1000
 la : o.attrs.length ≤ 50
 aa : ∀ x ∈ o.attrs, mayA x = true
 pl : o.parts.length ≤ 8
 ps : ∀ s ∈ o.parts, mayN s = true
 cl : o.cur.length ≤ 4000
 n0 : 0 ≤ o.n
 n1 : o.n ≤ 1000
theorem mayD {o : Opn} (h : mayO o = true) : MayD o := by
 unfold mayO at h
 simp only [Bool.and_eq_true] at h
 obtain ⟨hk, h1, h2, h3, h4, h5⟩ := h
 have ht : ∀ {b s}, mayText b s = true → s.length ≤ 1000 := fun {b s} h => by
   unfold mayText at h
   simp only [Bool.and_eq_true] at h
   exact mayN_len h.1
 have ha : o.attrs.length ≤ 50 ∧ ∀ x ∈ o.attrs, mayA x = true := by
   unfold mayAt at h3
   split at h3
   · obtain ⟨x1, x2, _⟩ := YtniaijgejljjbaaGreat.mayL_iff.1 h3
     exact ⟨x1, x2⟩
   · split at h3
     · simp only [Bool.and_eq_true, decide_eq_true_eq, List.all_eq_true] at h3
       exact h3
     · split at h3
       · simp only [Bool.and_eq_true, decide_eq_true_eq, List.all_eq_true] at h3
         exact ⟨by omega, h3.2⟩
       · have := of_decide_eq_true h3
         rw [this]
         exact ⟨by simp, fun x hx => by simp at hx⟩
 have hp : o.parts.length ≤ 8 ∧ ∀ s ∈ o.parts, mayN s = true := by
   unfold mayPt at h4
   split at h4
   · simp only [Bool.and_eq_true, decide_eq_true_eq, List.all_eq_true] at h4
     exact h4
   · have := of_decide_eq_true h4
     rw [this]
     exact ⟨by simp, fun x hx => by simp at hx⟩
 have hg : o.cur.length ≤ 4000 ∧ 0 ≤ o.n ∧ o.n ≤ 1000 := by
   unfold mayPg at h5
   split at h5
   · simp only [Bool.and_eq_true, decide_eq_true_eq] at h5
     exact h5
   · simp only [Bool.and_eq_true, decide_eq_true_eq] at h5
     rw [h5.1, h5.2]
     simp
 exact ⟨hk, ht h1, ht h2, ha.1, ha.2, hp.1, hp.2, hg.1, hg.2.1, hg.2.2⟩
theorem MayD.few {o : Opn} (h : MayD o) : FewA o.attrs := few_all h.la h.aa
theorem MayD.psl {o : Opn} (h : MayD o) : ∀ s ∈ o.parts, s.length ≤ 1000 := fun s hs => mayN_len (h.ps s hs)
abbrev numB (t n : Int) : List Int := valB t (be8 n)
abbrev txtB (t : Int) (s : List UInt8) : List Int := valB t (bytesOf (sx s))
def opB (o : Opn) : List Int :=
 if fA o.k = true then [] ++ numB 1 o.k ++ txtB 2 o.name ++ valB 4 (atsB o.attrs)
 else if fT o.k = true then [] ++ numB 1 o.k ++ txtB 2 o.name ++ txtB 3 o.dst
 else if fN o.k = true then [] ++ numB 1 o.k ++ txtB 2 o.name
 else if fP o.k = true then [] ++ numB 1 o.k ++ valB 5 (partsB o.parts) ++ valB 6 o.cur ++ numB 7 o.n
 else [] ++ numB 1 o.k ++ valB 6 o.cur ++ numB 7 o.n
theorem be8_length (n : Int) : (be8 n).length = 8 := rfl
theorem atsB_few {l : List At} (h : FewA l) : (atsB l).length ≤ 103000 := by
 rw [atsB_len]
 have h1 := h.many
 have h2 := h.sum
 omega
structure BW (w : World) (cs fs : Array Value) (b g : Nat) (W : World) : Prop where
 bel : Below w.heap.size w W
 op : Blk W w.heap.size 44 cs
 fd : Blk W b 111 fs
 lo : w.heap.size < g
 lb : b < g
theorem BW.step {w : World} {cs fs : Array Value} {b g : Nat} {W W' : World} (h : BW w cs fs b g W) (hb : WB g W W') : BW w cs fs b g W' :=
 ⟨h.bel.trans (hb.bel.mono (Nat.le_of_lt h.lo)), h.op.below hb.bel h.lo, h.fd.below hb.bel h.lb, h.lo, h.lb⟩
def OpOut (o : Opn) (w : World) (e : Ending) (w' : World) : Prop := ∃ A n c, e = .returned (.tuple #[.slice A n c, .int .i64 0]) ∧ n = (opB o).length ∧ Row w' w.heap.size (.slice A n c) (opB o) ∧ Below w.heap.size w w'
theorem end_ws (g m : Nat) (q : List Int) (W : World) (h : WS W g g (some q) m) (hl : q.length ≤ 1000000000000) :
   Hid (Calls Tryz.prog 68 #[ptr g] W fun e w' => ∃ v', e = .returned (.tuple #[v', .int .i64 0]) ∧ Row w' W.heap.size v' q ∧ Below W.heap.size W w') := Lib.hid (by
 obtain ⟨v, h1, h2⟩ := h
 exact end_ok g v m q g W h1 h2 hl)
theorem opBytes_no (o : Opn) (va vp vc : Value) (w : World) (ho : OpAt w o va vp vc) (hl : Lim o) (hm : mayO o = false) : Calls Tryz.prog 44 #[opVal o va vp vc] w fun e w' => e = .returned (.tuple #[.slice none 0 0, .int .i64 2]) ∧ Below w.heap.size w w' := by
 obtain ⟨Aa, ca, na, rfl, _, _⟩ := rdv_len ho.a
 obtain ⟨Ap, cp, np, rfl⟩ := ho.p.len
 obtain ⟨Ac, cc, nc, rfl, _⟩ := ho.c.len
 have hb : Below w.heap.size w (w.alloc (.cells (opCs o (.slice Aa na ca) (.slice Ap np cp) (.slice Ac nc cc)) 44)) := (Below.refl _ _).alloc (Nat.le_refl _) _
 have h := mayOp_any o _ _ _ _ (ho.on hb) hl
 rw [hm] at h
 have HM := Lib.hid h
 have HB := Lib.hid hb
 clear hb ho hl hm h
 go_enter Tryz.func44, Tryz.ntmps44
 go_wp2_with ((with_reducible refine HM.out.mono ?_); rintro e w1 ⟨rfl, hb1⟩; have HB1 := Lib.hid (HB.out.trans (hb1.mono HB.out.size)); clear hb1)
 go_ret2
 exact ⟨rfl, HB1.out⟩
def inA (bs : List Int) : Option (List Int) × (Bool × List Int) := tk false bs 1
def inB (bs : List Int) : Option (List Int) × (Bool × List Int) := tk (inA bs).2.1 (inA bs).2.2 2
def okAt (bs : List Int) : Bool := decide ((inB bs).2 = (false, []))
def SmA (a : At) : Prop := a.t.length + a.v.length ≤ 4194294
theorem RowK.fit {w w' : World} {base : Nat} {v : Value} {l : List At} (h : YtniaijgejljjbaaGreat.RowK kA w base v l) (hk : ∀ g, v.ownBlock = some g → w'.heap[g]? = w.heap[g]?) : YtniaijgejljjbaaGreat.RowK kA w' base v l := by
 refine ⟨h.1, ?_⟩
 rcases h.2 with h0 | ⟨g, cap, cur, hv, hg, hh, rest⟩
 · exact .inl h0
 · exact .inr ⟨g, cap, cur, hv, hg, (hk g (by rw [hv]; rfl)).trans hh, rest⟩
theorem own_at {w : World} {base : Nat} {v : Value} {l : List At} (h : YtniaijgejljjbaaGreat.RowK kA w base v l) {g : Nat} (e : v.ownBlock = some g) : base ≤ g ∧ g < w.heap.size ∧ ∃ cs, Blk w g 99 cs := by
 rcases h.2 with ⟨e2, _⟩ | ⟨g', cap, cur, e2, hg, hh, _⟩
 · rw [e2] at e; simp [Value.ownBlock] at e
 · rw [e2] at e
   have e3 : g' = g := by simpa [Value.ownBlock] using e
   subst e3
   exact ⟨hg, (Array.getElem?_eq_some_iff.1 hh).1, cur, hh⟩
end Go.Proofs.YtniaijgejljjbaaGreat.Tlv
namespace Go.Proofs.YtniaijgejljjbaaGreat.Tlv
open Go.RowKit
set_option maxRecDepth 100000
set_option linter.deprecated false
set_option linter.unusedVariables false
set_option linter.unusedSimpArgs false
def okL (v : List Int) : Bool := allT 3 v && (items v).all (fun x => okAt x.2)
end Go.Proofs.YtniaijgejljjbaaGreat.Tlv
