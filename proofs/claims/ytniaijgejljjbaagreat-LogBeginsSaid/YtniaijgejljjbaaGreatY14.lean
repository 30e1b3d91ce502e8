/- Attributes put into a writer: a list of lists. -/
import Derived.Test.YtniaijgejljjbaaGreatY03
import Derived.Test.YtniaijgejljjbaaGreatY13
import Derived.Defers
import Derived.Recover
namespace Go.Proofs.YtniaijgejljjbaaGreat.Tlv
open Go.RowKit
set_option maxRecDepth 100000
set_option linter.unusedVariables false
set_option linter.unusedSimpArgs false
def allI (item : Nat → List Int) (k : Nat) : List Int := (List.range k).flatMap item
theorem allI_succ (item : Nat → List Int) (k : Nat) : allI item (k + 1) = allI item k ++ item k := by unfold allI; rw [List.range_succ, List.flatMap_append]; simp
theorem fill1_idle (p : Addr) (w : World) :
   CallsD Tryz.prog 88 #[.pointer (some p)] .returning w fun e u' w' => e = .returned (.tuple #[]) ∧ u' = .returning ∧ w' = w := by
 refine callsD_of_wpS Tryz.func88 rfl fun c₀ cs hu => ?_
 apply wpS_seq
 apply wpS_region
 simp [wpOpsS, go_sem, recoverD, hu, Tryz.ntmps88, Exit.thenS]
 refine wpS_cond (t := false) (by simp [Act.eval, Array.replicate]) ?_
 simp only [Bool.false_eq_true, if_false]
 refine wpS_of_wp (wp_skip ?_)
 cases c₀
 simp_all [bodyPostS, results, Tryz.results88]
set_option maxHeartbeats 4000000 in
theorem fillI_any (g B5 B4 base n : Nat) (item : Nat → List Int) (w : World) (hs : WS w base g (some []) 0) (hb : base ≤ w.heap.size) (hn : n ≤ 1000)
   (hput : ∀ k q m W, k < n → WS W base g (some q) m → WB base w W → q.length ≤ 4000000 → m ≤ 1000000 → Calls Tryz.prog 78 #[.pointer (some ⟨g, 0, none⟩), .int .i64 (k : Int), .pointer (some ⟨B5, 0, none⟩), .pointer (some ⟨B4, 0, none⟩)] W fun e w' => (∃ v, e = .returned v) ∧ WS w' base g (some (q ++ item k)) (m + 1) ∧ WB base W w')
   (hlb : ∀ k, k ≤ n → (allI item k).length ≤ 4000000) (hgb : base ≤ g) :
   Calls Tryz.prog 79 #[.pointer (some ⟨g, 0, none⟩), .int .i64 (n : Int), .func (.func 78) #[] #[.pointer (some ⟨B5, 0, none⟩), .pointer (some ⟨B4, 0, none⟩)]] w fun e w' => e = .returned (.int .i64 0) ∧ (∃ m, WS w' base g (some (allI item n)) m) ∧ WB base w w' := by
 have hmf : ∀ (fn : Fn) (first cap : Array Value) (w : World), (Instr.makeFunc fn first cap).run Tryz.prog w = .ok (.func fn first cap) w := fun _ _ _ _ => rfl
 have hnf : ∀ W, (binOp BinOp.eql 117 (Value.func (.func 78) #[] #[.pointer (some ⟨B5, 0, none⟩), .pointer (some ⟨B4, 0, none⟩)]) Value.nilFunc).run Tryz.prog W = .ok (.bool false) W := fun W => rfl
 have hb1 : Below w.heap.size w (w.alloc (.cells #[.int .i64 0] 28)) := (Below.refl _ _).alloc (Nat.le_refl _) _
 have H := Lib.hid (And.intro (hs.on hb1) (And.intro (Blk.new w 28 #[.int .i64 0]) (WB.of hb1 hb)))
 have hbs : base ≤ (w.alloc (.cells #[.int .i64 0] 28)).heap.size := by simp; omega
 have HP := Lib.hid hput
 clear hs hb1 hput
 by_cases h0 : n = 0
 · have e0 : allI item n = [] := by rw [h0]; rfl
   have c6 := H.out.2.1.cell 0
   have f6 := H.out.2.1.frozen 0
   rw [e0]
   subst h0
   clear hlb
   go_enter_defers Tryz.func79, Tryz.ntmps79
   go_wp2
   refine wp_loop_rounds 1 ?_
   rw [rounds_succ]
   go_wp2
   refine leaves_cons (f := 88) (args := #[.pointer (some ⟨w.heap.size, 0, none⟩)]) (by simp) (by simp [go_sem]) ?_
   refine (fill1_idle _ _).mono ?_
   rintro e u' w'' ⟨rfl, rfl, rfl⟩
   have hres : (∃ m, WS (w.alloc (.cells #[.int .i64 0] 28)) base g (some []) m) ∧ WB base w (w.alloc (.cells #[.int .i64 0] 28)) := ⟨⟨0, H.out.1⟩, H.out.2.2⟩
   simp [Leaves, settle, results, Tryz.results79, go_sem, c6]
   exact hres
 · have hpos : 0 < n := by omega
   go_enter_defers Tryz.func79, Tryz.ntmps79
   go_wp2
   go_loopw [21] (fun i wr => ∃ k : Nat, i = .int .i64 k ∧ k ≤ n ∧ Hid (WS wr base g (some (allI item k)) k) ∧ Hid (WB base (w.alloc (.cells #[.int .i64 0] 28)) wr)) (fun i _ => n - (intOf i).toNat)
   case atStart => exact ⟨0, rfl, Nat.zero_le _, Lib.hid H.out.1, Lib.hid (WB.refl _ _)⟩
   case round =>
     obtain ⟨k, rfl, hk, HS, HB⟩ := hrel
     by_cases hlt : k < n
     · obtain ⟨v, hblk, hrow⟩ := HS.out
       have c1 := hblk.cell 1
       have hle : base ≤ wr.heap.size := Nat.le_trans hbs HB.out.bel.size
       have hp := Lib.hid (HP.out k _ k wr hlt HS.out (H.out.2.2.trans HB.out) (hlb k hk) (by omega))
       have HL := Lib.hid (hlb (k + 1) hlt)
       have HE := Lib.hid (allI_succ item k)
       clear hblk hrow
       go_wp2_with fail
       refine hp.out.mono ?_
       clear hp
       rintro e w2 ⟨⟨v2, rfl⟩, h1, h2⟩
       have HS2 := Lib.hid h1
       obtain ⟨v3, hblk3, hrow3⟩ := h1
       obtain ⟨A3, c3, rfl, _, _⟩ := hrow3.rd
       have hlen : Hid ((allI item k ++ item k).length ≤ 4000000) := Lib.hid (by rw [← HE.out]; exact HL.out)
       generalize allI item k ++ item k = X at *
       have d0 := hblk3.cell 0
       have d1 := hblk3.cell 1
       have d2 := hblk3.cell 2
       have hmx : decide ((4194304 : Int) < X.length) = false := by have := hlen.out; simp; omega
       have HB2 := Lib.hid (HB.out.trans h2)
       clear hblk3 hrow3 h2
       go_wp2_with fail
       go_roundw
       case rel => exact ⟨k + 1, by go_num, by omega, Lib.hid (by rw [HE.out]; exact HS2.out), HB2⟩
       case measure => simp [intOf]; omega
     · have : k = n := by omega
       subst this
       have c6 := (HB.out.kp _ 28 _ (by decide) (by decide) H.out.2.1).cell 0
       have f6 := (HB.out.kp _ 28 _ (by decide) (by decide) H.out.2.1).frozen 0
       clear hlb
       go_wp2_with fail
       refine leaves_cons (f := 88) (args := #[.pointer (some ⟨w.heap.size, 0, none⟩)]) (by simp) (by simp [go_sem]) ?_
       refine (fill1_idle _ _).mono ?_
       rintro e u' w'' ⟨rfl, rfl, rfl⟩
       have hb6 := HB.out.kp _ 28 _ (by decide) (by decide) H.out.2.1
       have c7 := (hb6.set_ 0 (.int .i64 0)).cell 0
       simp [Leaves, settle, results, Tryz.results79, go_sem, c7]
       obtain ⟨v, hblk, hrow⟩ := HS.out
       have hgne : g ≠ w.heap.size := fun e => by
         subst e
         unfold Blk at hblk hb6
         rw [hblk] at hb6
         cases hb6
       refine ⟨⟨k, v, hblk.far (p := ⟨w.heap.size, 0, none⟩) hgne _, Row.set_ hrow (own_ne hrow hb6 (by decide)) _⟩, (H.out.2.2.trans HB.out).bel.setCell (p := ⟨w.heap.size, 0, none⟩) hb _, fun b t cs h1 h2 h3 => ?_⟩
       exact ((H.out.2.2.trans HB.out).kp b t cs h1 h2 h3).far (p := ⟨w.heap.size, 0, none⟩) (fun e => by have := h3.lt; have e' : b = w.heap.size := e; omega) _
theorem listI_any (g B5 B4 base : Nat) (s : Option (List Int)) (m n : Nat) (item : Nat → List Int) (tag : Int) (w : World) (hs : WS w base g s m) (hb : base ≤ w.heap.size) (hn : n ≤ 1000)
   (hput : ∀ k q m W, k < n → WS W w.heap.size w.heap.size (some q) m → WB w.heap.size (w.alloc (.cells #[.slice none 0 0, .int .i64 0, .int .i64 0] 91)) W → q.length ≤ 4000000 → m ≤ 1000000 → Calls Tryz.prog 78 #[.pointer (some ⟨w.heap.size, 0, none⟩), .int .i64 (k : Int), .pointer (some ⟨B5, 0, none⟩), .pointer (some ⟨B4, 0, none⟩)] W fun e w' => (∃ v, e = .returned v) ∧ WS w' w.heap.size w.heap.size (some (q ++ item k)) (m + 1) ∧ WB w.heap.size W w')
   (hlb : ∀ k, k ≤ n → (allI item k).length ≤ 4000000) (hgb : base ≤ g) (ht : 0 ≤ tag) (ht2 : tag ≤ 255) (hl : ∀ l, s = some l → l.length ≤ 100000000) (hm : m ≤ 1000000) :
   Calls Tryz.prog 66 #[.pointer (some ⟨g, 0, none⟩), .int .u8 tag, .int .i64 (n : Int), .func (.func 78) #[] #[.pointer (some ⟨B5, 0, none⟩), .pointer (some ⟨B4, 0, none⟩)]] w fun e w' => e = .returned (.pointer (some ⟨g, 0, none⟩)) ∧ WS w' base g (putS s tag (allI item n)) (cntS s tag m) ∧ WB base w w' := by
 cases s with
 | none =>
   obtain ⟨v, hblk⟩ := hs
   have HB := Lib.hid hblk
   have c2 := hblk.cell 2
   clear hblk hput hlb hl
   go_enter Tryz.func66, Tryz.ntmps66
   go_wp2
   go_ret
   exact ⟨rfl, ⟨v, HB.out⟩, WB.refl _ _⟩
 | some l =>
   have hb1 : Below w.heap.size w (w.alloc (.cells #[.slice none 0 0, .int .i64 0, .int .i64 0] 91)) := (Below.refl _ _).alloc (Nat.le_refl _) _
   have hin : WS (w.alloc (.cells #[.slice none 0 0, .int .i64 0, .int .i64 0] 91)) w.heap.size w.heap.size (some []) 0 := ⟨_, Blk.new w 91 _, World.ownsRow_nil _ _ _ _⟩
   have hf := Lib.hid (fillI_any w.heap.size B5 B4 w.heap.size n item _ hin hb1.size hn hput hlb (Nat.le_refl _))
   have hlt := hs.lt
   obtain ⟨v, hblk, hrow⟩ := hs
   have c2 := hblk.cell 2
   have HS := Lib.hid (⟨v, hblk, hrow⟩ : WS w base g (some l) m)
   have HL := Lib.hid (hlb n (Nat.le_refl _))
   have HLL := Lib.hid (hl l rfl)
   clear hput hlb hl hblk hrow hin
   go_enter Tryz.func66, Tryz.ntmps66
   go_wp2_with fail
   refine hf.out.mono ?_
   clear hf
   rintro e w2 ⟨rfl, ⟨m2, v2, hblk2, hrow2⟩, hwb⟩
   have hbel : Below w.heap.size w w2 := hb1.trans hwb.bel
   have d2 := WS.on (s := some l) HS.out hbel
   obtain ⟨vv, hbb, hrr⟩ := d2
   have e2 := hbb.cell 2
   have f2 := hbb.frozen 2
   obtain ⟨A2, cc2, rfl, hcc, hrd2⟩ := hrow2.rd
   have e0 := hblk2.cell 0
   have hsz2 := hwb.bel.size
   have hmx : decide ((4194304 : Int) < (allI item n).length) = false := by have := HL.out; simp; omega
   have hAc : A2 = none → cc2 = 0 := fun e => by
     subst e
     rcases hrow2.2 with ⟨e0, _⟩ | ⟨g', cap, cur, e0, _⟩
     · injection e0
     · cases e0
   have HBY := Lib.hid (bytes_any g (some l) m (allI item n) tag A2 cc2 base w2 (WS.on (s := some l) HS.out hbel) (Nat.le_trans hb hbel.size) (fun l' e => by injection e with e; subst e; exact src_fresh HS.out hbel hrd2 (fun _ ad e => row_at hrow2 e)) hAc ht ht2 (by have := HL.out; omega) (fun l' e => by injection e with e; subst e; exact HLL.out) hm hgb)
   have HWB := Lib.hid (WB.of hbel hb)
   clear hbb hrr hblk2 hrow2 hrd2 hwb hbel hb1
   go_wp2_with fail
   refine HBY.out.mono ?_
   rintro e w3 ⟨rfl, h1, h2⟩
   go_wp2_with fail
   go_ret
   exact ⟨rfl, h1, HWB.out.trans h2⟩
set_option maxHeartbeats 4000000 in
theorem fillO_any (g B5 base n : Nat) (item : Nat → List Int) (w : World) (hs : WS w base g (some []) 0) (hb : base ≤ w.heap.size) (hn : n ≤ 1000)
   (hput : ∀ k q m W, k < n → WS W base g (some q) m → WB base w W → q.length ≤ 4000000 → m ≤ 1000000 → Calls Tryz.prog 77 #[.pointer (some ⟨g, 0, none⟩), .int .i64 (k : Int), .pointer (some ⟨B5, 0, none⟩)] W fun e w' => (∃ v, e = .returned v) ∧ WS w' base g (some (q ++ item k)) (m + 1) ∧ WB base W w')
   (hlb : ∀ k, k ≤ n → (allI item k).length ≤ 4000000) (hgb : base ≤ g) :
   Calls Tryz.prog 79 #[.pointer (some ⟨g, 0, none⟩), .int .i64 (n : Int), .func (.func 77) #[] #[.pointer (some ⟨B5, 0, none⟩)]] w fun e w' => e = .returned (.int .i64 0) ∧ (∃ m, WS w' base g (some (allI item n)) m) ∧ WB base w w' := by
 have hmf : ∀ (fn : Fn) (first cap : Array Value) (w : World), (Instr.makeFunc fn first cap).run Tryz.prog w = .ok (.func fn first cap) w := fun _ _ _ _ => rfl
 have hnf : ∀ W, (binOp BinOp.eql 117 (Value.func (.func 77) #[] #[.pointer (some ⟨B5, 0, none⟩)]) Value.nilFunc).run Tryz.prog W = .ok (.bool false) W := fun W => rfl
 have hb1 : Below w.heap.size w (w.alloc (.cells #[.int .i64 0] 28)) := (Below.refl _ _).alloc (Nat.le_refl _) _
 have H := Lib.hid (And.intro (hs.on hb1) (And.intro (Blk.new w 28 #[.int .i64 0]) (WB.of hb1 hb)))
 have hbs : base ≤ (w.alloc (.cells #[.int .i64 0] 28)).heap.size := by simp; omega
 have HP := Lib.hid hput
 clear hs hb1 hput
 by_cases h0 : n = 0
 · have e0 : allI item n = [] := by rw [h0]; rfl
   have c6 := H.out.2.1.cell 0
   have f6 := H.out.2.1.frozen 0
   rw [e0]
   subst h0
   clear hlb
   go_enter_defers Tryz.func79, Tryz.ntmps79
   go_wp2
   refine wp_loop_rounds 1 ?_
   rw [rounds_succ]
   go_wp2
   refine leaves_cons (f := 88) (args := #[.pointer (some ⟨w.heap.size, 0, none⟩)]) (by simp) (by simp [go_sem]) ?_
   refine (fill1_idle _ _).mono ?_
   rintro e u' w'' ⟨rfl, rfl, rfl⟩
   have hres : (∃ m, WS (w.alloc (.cells #[.int .i64 0] 28)) base g (some []) m) ∧ WB base w (w.alloc (.cells #[.int .i64 0] 28)) := ⟨⟨0, H.out.1⟩, H.out.2.2⟩
   simp [Leaves, settle, results, Tryz.results79, go_sem, c6]
   exact hres
 · have hpos : 0 < n := by omega
   go_enter_defers Tryz.func79, Tryz.ntmps79
   go_wp2
   go_loopw [21] (fun i wr => ∃ k : Nat, i = .int .i64 k ∧ k ≤ n ∧ Hid (WS wr base g (some (allI item k)) k) ∧ Hid (WB base (w.alloc (.cells #[.int .i64 0] 28)) wr)) (fun i _ => n - (intOf i).toNat)
   case atStart => exact ⟨0, rfl, Nat.zero_le _, Lib.hid H.out.1, Lib.hid (WB.refl _ _)⟩
   case round =>
     obtain ⟨k, rfl, hk, HS, HB⟩ := hrel
     by_cases hlt : k < n
     · obtain ⟨v, hblk, hrow⟩ := HS.out
       have c1 := hblk.cell 1
       have hle : base ≤ wr.heap.size := Nat.le_trans hbs HB.out.bel.size
       have hp := Lib.hid (HP.out k _ k wr hlt HS.out (H.out.2.2.trans HB.out) (hlb k hk) (by omega))
       have HL := Lib.hid (hlb (k + 1) hlt)
       have HE := Lib.hid (allI_succ item k)
       clear hblk hrow
       go_wp2_with fail
       refine hp.out.mono ?_
       clear hp
       rintro e w2 ⟨⟨v2, rfl⟩, h1, h2⟩
       have HS2 := Lib.hid h1
       obtain ⟨v3, hblk3, hrow3⟩ := h1
       obtain ⟨A3, c3, rfl, _, _⟩ := hrow3.rd
       have hlen : Hid ((allI item k ++ item k).length ≤ 4000000) := Lib.hid (by rw [← HE.out]; exact HL.out)
       generalize allI item k ++ item k = X at *
       have d0 := hblk3.cell 0
       have d1 := hblk3.cell 1
       have d2 := hblk3.cell 2
       have hmx : decide ((4194304 : Int) < X.length) = false := by have := hlen.out; simp; omega
       have HB2 := Lib.hid (HB.out.trans h2)
       clear hblk3 hrow3 h2
       go_wp2_with fail
       go_roundw
       case rel => exact ⟨k + 1, by go_num, by omega, Lib.hid (by rw [HE.out]; exact HS2.out), HB2⟩
       case measure => simp [intOf]; omega
     · have : k = n := by omega
       subst this
       have c6 := (HB.out.kp _ 28 _ (by decide) (by decide) H.out.2.1).cell 0
       have f6 := (HB.out.kp _ 28 _ (by decide) (by decide) H.out.2.1).frozen 0
       clear hlb
       go_wp2_with fail
       refine leaves_cons (f := 88) (args := #[.pointer (some ⟨w.heap.size, 0, none⟩)]) (by simp) (by simp [go_sem]) ?_
       refine (fill1_idle _ _).mono ?_
       rintro e u' w'' ⟨rfl, rfl, rfl⟩
       have hb6 := HB.out.kp _ 28 _ (by decide) (by decide) H.out.2.1
       have c7 := (hb6.set_ 0 (.int .i64 0)).cell 0
       simp [Leaves, settle, results, Tryz.results79, go_sem, c7]
       obtain ⟨v, hblk, hrow⟩ := HS.out
       have hgne : g ≠ w.heap.size := fun e => by
         subst e
         unfold Blk at hblk hb6
         rw [hblk] at hb6
         cases hb6
       refine ⟨⟨k, v, hblk.far (p := ⟨w.heap.size, 0, none⟩) hgne _, Row.set_ hrow (own_ne hrow hb6 (by decide)) _⟩, (H.out.2.2.trans HB.out).bel.setCell (p := ⟨w.heap.size, 0, none⟩) hb _, fun b t cs h1 h2 h3 => ?_⟩
       exact ((H.out.2.2.trans HB.out).kp b t cs h1 h2 h3).far (p := ⟨w.heap.size, 0, none⟩) (fun e => by have := h3.lt; have e' : b = w.heap.size := e; omega) _
theorem listO_any (g B5 base : Nat) (s : Option (List Int)) (m n : Nat) (item : Nat → List Int) (tag : Int) (w : World) (hs : WS w base g s m) (hb : base ≤ w.heap.size) (hn : n ≤ 1000)
   (hput : ∀ k q m W, k < n → WS W w.heap.size w.heap.size (some q) m → WB w.heap.size (w.alloc (.cells #[.slice none 0 0, .int .i64 0, .int .i64 0] 91)) W → q.length ≤ 4000000 → m ≤ 1000000 → Calls Tryz.prog 77 #[.pointer (some ⟨w.heap.size, 0, none⟩), .int .i64 (k : Int), .pointer (some ⟨B5, 0, none⟩)] W fun e w' => (∃ v, e = .returned v) ∧ WS w' w.heap.size w.heap.size (some (q ++ item k)) (m + 1) ∧ WB w.heap.size W w')
   (hlb : ∀ k, k ≤ n → (allI item k).length ≤ 4000000) (hgb : base ≤ g) (ht : 0 ≤ tag) (ht2 : tag ≤ 255) (hl : ∀ l, s = some l → l.length ≤ 100000000) (hm : m ≤ 1000000) :
   Calls Tryz.prog 66 #[.pointer (some ⟨g, 0, none⟩), .int .u8 tag, .int .i64 (n : Int), .func (.func 77) #[] #[.pointer (some ⟨B5, 0, none⟩)]] w fun e w' => e = .returned (.pointer (some ⟨g, 0, none⟩)) ∧ WS w' base g (putS s tag (allI item n)) (cntS s tag m) ∧ WB base w w' := by
 cases s with
 | none =>
   obtain ⟨v, hblk⟩ := hs
   have HB := Lib.hid hblk
   have c2 := hblk.cell 2
   clear hblk hput hlb hl
   go_enter Tryz.func66, Tryz.ntmps66
   go_wp2
   go_ret
   exact ⟨rfl, ⟨v, HB.out⟩, WB.refl _ _⟩
 | some l =>
   have hb1 : Below w.heap.size w (w.alloc (.cells #[.slice none 0 0, .int .i64 0, .int .i64 0] 91)) := (Below.refl _ _).alloc (Nat.le_refl _) _
   have hin : WS (w.alloc (.cells #[.slice none 0 0, .int .i64 0, .int .i64 0] 91)) w.heap.size w.heap.size (some []) 0 := ⟨_, Blk.new w 91 _, World.ownsRow_nil _ _ _ _⟩
   have hf := Lib.hid (fillO_any w.heap.size B5 w.heap.size n item _ hin hb1.size hn hput hlb (Nat.le_refl _))
   have hlt := hs.lt
   obtain ⟨v, hblk, hrow⟩ := hs
   have c2 := hblk.cell 2
   have HS := Lib.hid (⟨v, hblk, hrow⟩ : WS w base g (some l) m)
   have HL := Lib.hid (hlb n (Nat.le_refl _))
   have HLL := Lib.hid (hl l rfl)
   clear hput hlb hl hblk hrow hin
   go_enter Tryz.func66, Tryz.ntmps66
   go_wp2_with fail
   refine hf.out.mono ?_
   clear hf
   rintro e w2 ⟨rfl, ⟨m2, v2, hblk2, hrow2⟩, hwb⟩
   have hbel : Below w.heap.size w w2 := hb1.trans hwb.bel
   have d2 := WS.on (s := some l) HS.out hbel
   obtain ⟨vv, hbb, hrr⟩ := d2
   have e2 := hbb.cell 2
   have f2 := hbb.frozen 2
   obtain ⟨A2, cc2, rfl, hcc, hrd2⟩ := hrow2.rd
   have e0 := hblk2.cell 0
   have hsz2 := hwb.bel.size
   have hmx : decide ((4194304 : Int) < (allI item n).length) = false := by have := HL.out; simp; omega
   have hAc : A2 = none → cc2 = 0 := fun e => by
     subst e
     rcases hrow2.2 with ⟨e0, _⟩ | ⟨g', cap, cur, e0, _⟩
     · injection e0
     · cases e0
   have HBY := Lib.hid (bytes_any g (some l) m (allI item n) tag A2 cc2 base w2 (WS.on (s := some l) HS.out hbel) (Nat.le_trans hb hbel.size) (fun l' e => by injection e with e; subst e; exact src_fresh HS.out hbel hrd2 (fun _ ad e => row_at hrow2 e)) hAc ht ht2 (by have := HL.out; omega) (fun l' e => by injection e with e; subst e; exact HLL.out) hm hgb)
   have HWB := Lib.hid (WB.of hbel hb)
   clear hbb hrr hblk2 hrow2 hrd2 hwb hbel hb1
   go_wp2_with fail
   refine HBY.out.mono ?_
   rintro e w3 ⟨rfl, h1, h2⟩
   go_wp2_with fail
   go_ret
   exact ⟨rfl, h1, HWB.out.trans h2⟩
end Go.Proofs.YtniaijgejljjbaaGreat.Tlv
