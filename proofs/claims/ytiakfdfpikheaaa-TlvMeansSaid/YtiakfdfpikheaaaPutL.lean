/- A writer's List: fill, the law's functions. -/
import Derived.Test.YtiakfdfpikheaaaPutM
import Derived.Defers
import Derived.Recover
namespace Go.Proofs.Ytiakfdfpikheaaa
open Go.RowKit
set_option linter.unusedVariables false
set_option linter.unusedSimpArgs false

/-- A part. -/
structure Pt where
  kind : Int
  tag : Int
  n : Int
  A : Option Addr
  c : Nat
  b : List Int
  LA : Option Addr
  lc : Nat
  ls : List ByteArray
deriving Inhabited
def Pt.cells (p : Pt) : List Value := [.int .i64 p.kind, .int .u8 p.tag, .int .u64 p.n, .slice p.A p.b.length p.c, .slice p.LA p.ls.length p.lc]
/-- A slice of texts that reads as such. -/
def RdS (w : World) (B : Nat) (A : Option Addr) (l : List ByteArray) : Prop :=
  0 < l.length → ∃ b off, A = some ⟨b, off, none⟩ ∧ b < B ∧ ∀ j, j < l.length → w.cell? ⟨b, off + j, none⟩ = some (.string (l.getD j ByteArray.empty))
theorem RdS.below {w w' : World} {B : Nat} {A : Option Addr} {l : List ByteArray} (h : RdS w B A l) (hb : Below B w w') : RdS w' B A l := fun hp => by
  obtain ⟨b, off, e, hlt, hc⟩ := h hp
  exact ⟨b, off, e, hlt, fun j hj => (hb.cell (p := ⟨b, off + j, none⟩) hlt).trans (hc j hj)⟩
theorem RdS.more {w : World} {B B' : Nat} {A : Option Addr} {l : List ByteArray} (h : RdS w B A l) (hB : B ≤ B') : RdS w B' A l := fun hp => by
  obtain ⟨b, off, e, hlt, hc⟩ := h hp
  exact ⟨b, off, e, by omega, hc⟩
/-- A list's bytes, before its head. -/
def lb (l : List ByteArray) : List Int := l.flatMap fun t => valB 9 (bytesOf t)
theorem lb_snoc {l : List ByteArray} {k : Nat} (hk : k < l.length) : lb (l.take (k + 1)) = lb (l.take k) ++ valB 9 (bytesOf (l.getD k ByteArray.empty)) := by
  unfold lb
  rw [List.take_add_one, List.getElem?_eq_getElem hk, List.flatMap_append]
  simp [List.getD_eq_getElem?_getD, List.getElem?_eq_getElem hk]

/-- What the function of a list puts. -/
theorem put1_any (g Bx base m k : Nat) (l : List Int) (p : Pt) (w : World) (hs : WS w base g (some l) m) (hb : base ≤ w.heap.size) (hx : Blk w Bx 31 p.cells.toArray) (hr : RdS w w.heap.size p.LA p.ls) (hk : k < p.ls.length) (hsz : (p.ls.getD k ByteArray.empty).size ≤ 4194304)
    (hl : l.length ≤ 100000000) (hm : m ≤ 1000000) (hgb : base ≤ g) :
    Calls Try.prog 27 #[.pointer (some ⟨g, 0, none⟩), .int .i64 (k : Int), .pointer (some ⟨Bx, 0, none⟩)] w fun e w' => (∃ v, e = .returned v) ∧ WS w' base g (some (l ++ valB 9 (bytesOf (p.ls.getD k ByteArray.empty)))) (m + 1) ∧ WB base w w' := by
  obtain ⟨b, off, hLA, hlt, hc⟩ := hr (by omega)
  have c4 := hx.cell 4
  simp only [Pt.cells] at c4
  rw [hLA] at c4
  have ck := hc k hk
  generalize p.ls.getD k ByteArray.empty = t at *
  have h := Lib.hid (text_any g (some l) m 9 t base w hs hb (by omega) (by omega) hsz (fun l' e => by injection e with e; subst e; exact hl) hm hgb)
  clear hc hs hx hr hLA
  go_enter Try.func27, Try.ntmps27
  go_wp2_with fail
  refine h.out.mono ?_
  rintro e w1 ⟨rfl, h1, h2⟩
  go_wp2_with fail
  go_end0
  exact ⟨⟨_, rfl⟩, by simpa [putS, cntS, valB] using h1, h2⟩

theorem fill1_idle (p : Addr) (w : World) :
    CallsD Try.prog 45 #[.pointer (some p)] .returning w fun e u' w' => e = .returned (.tuple #[]) ∧ u' = .returning ∧ w' = w := by
  refine callsD_of_wpS Try.func45 rfl fun c₀ cs hu => ?_
  apply wpS_seq
  apply wpS_region
  simp [wpOpsS, go_sem, recoverD, hu, Try.ntmps45, Exit.thenS]
  refine wpS_cond (t := false) (by simp [Act.eval, Array.replicate]) ?_
  simp only [Bool.false_eq_true, if_false]
  refine wpS_of_wp (wp_skip ?_)
  cases c₀
  simp_all [bodyPostS, results, Try.results45]

set_option maxHeartbeats 4000000 in
theorem fill_any (g Bx base : Nat) (p : Pt) (w : World) (hs : WS w base g (some []) 0) (hb : base ≤ w.heap.size) (hx : Blk w Bx 31 p.cells.toArray) (hr : RdS w base p.LA p.ls) (hn : p.ls.length ≤ 30) (hsz : ∀ k, k < p.ls.length → (p.ls.getD k ByteArray.empty).size ≤ 30000)
    (hlb : ∀ k, (lb (p.ls.take k)).length ≤ 4000000) (hgb : base ≤ g) :
    Calls Try.prog 40 #[.pointer (some ⟨g, 0, none⟩), .int .i64 p.ls.length, .func (.func 27) #[] #[.pointer (some ⟨Bx, 0, none⟩)]] w fun e w' => e = .returned (.int .i64 0) ∧ (∃ m, WS w' base g (some (lb p.ls)) m) ∧ WB base w w' := by
  have hmf : ∀ (fn : Fn) (first cap : Array Value) (w : World), (Instr.makeFunc fn first cap).run Try.prog w = .ok (.func fn first cap) w := fun _ _ _ _ => rfl
  have hnf : ∀ W, (binOp BinOp.eql 64 (Value.func (.func 27) #[] #[.pointer (some ⟨Bx, 0, none⟩)]) Value.nilFunc).run Try.prog W = .ok (.bool false) W := fun W => rfl
  have hb1 : Below w.heap.size w (w.alloc (.cells #[.int .i64 0] 34)) := (Below.refl _ _).alloc (Nat.le_refl _) _
  have H := Lib.hid (And.intro (hs.on hb1) (And.intro (hx.on hb1) (And.intro (hr.below (hb1.mono hb)) (And.intro (Blk.new w 34 #[.int .i64 0]) (WB.of hb1 hb)))))
  have hbs : base ≤ (w.alloc (.cells #[.int .i64 0] 34)).heap.size := by simp; omega
  clear hs hx hr hb1
  by_cases h0 : p.ls.length = 0
  · have e0 : lb p.ls = [] := by rw [List.eq_nil_of_length_eq_zero h0]; rfl
    have c6 := H.out.2.2.2.1.cell 0
    have f6 := H.out.2.2.2.1.frozen 0
    rw [e0, h0]
    clear hsz hlb
    go_enter_defers Try.func40, Try.ntmps40
    go_wp2
    refine wp_loop_rounds 1 ?_
    rw [rounds_succ]
    go_wp2
    refine leaves_cons (f := 45) (args := #[.pointer (some ⟨w.heap.size, 0, none⟩)]) (by simp) (by simp [go_sem]) ?_
    refine (fill1_idle _ _).mono ?_
    rintro e u' w'' ⟨rfl, rfl, rfl⟩
    have hres : (∃ m, WS (w.alloc (.cells #[.int .i64 0] 34)) base g (some []) m) ∧ WB base w (w.alloc (.cells #[.int .i64 0] 34)) := ⟨⟨0, H.out.1⟩, H.out.2.2.2.2⟩
    simp [Leaves, settle, results, Try.results40, go_sem, c6]
    exact hres
  · have hpos : 0 < p.ls.length := by omega
    go_enter_defers Try.func40, Try.ntmps40
    go_wp2
    go_loopw [21] (fun i wr => ∃ k : Nat, i = .int .i64 k ∧ k ≤ p.ls.length ∧ Hid (WS wr base g (some (lb (p.ls.take k))) k) ∧ Hid (WB base (w.alloc (.cells #[.int .i64 0] 34)) wr)) (fun i _ => p.ls.length - (intOf i).toNat)
    case atStart => exact ⟨0, rfl, Nat.zero_le _, Lib.hid H.out.1, Lib.hid (WB.refl _ _)⟩
    case round =>
      obtain ⟨k, rfl, hk, HS, HB⟩ := hrel
      by_cases hlt : k < p.ls.length
      · obtain ⟨v, hblk, hrow⟩ := HS.out
        have c1 := hblk.cell 1
        have hle : base ≤ wr.heap.size := Nat.le_trans hbs HB.out.bel.size
        have hp := Lib.hid (put1_any g Bx base k k _ p wr HS.out hle (HB.out.kp _ 31 _ (by decide) (by decide) H.out.2.1) ((H.out.2.2.1.below HB.out.bel).more hle) hlt (by have := hsz k hlt; omega) (by have := hlb k; omega) (by omega) hgb)
        have HL := Lib.hid (hlb (k + 1))
        have HE := Lib.hid (lb_snoc hlt)
        clear hblk hrow hlb hsz
        go_wp2_with fail
        refine hp.out.mono ?_
        clear hp
        rintro e w2 ⟨⟨v2, rfl⟩, h1, h2⟩
        have HS2 := Lib.hid h1
        obtain ⟨v3, hblk3, hrow3⟩ := h1
        obtain ⟨A3, c3, rfl, _, _⟩ := hrow3.rd
        have hlen : Hid ((lb (p.ls.take k) ++ valB 9 (bytesOf (p.ls.getD k ByteArray.empty))).length ≤ 4000000) := Lib.hid (by rw [← HE.out]; exact HL.out)
        generalize lb (p.ls.take k) ++ valB 9 (bytesOf (p.ls.getD k ByteArray.empty)) = X at *
        have d0 := hblk3.cell 0
        have d1 := hblk3.cell 1
        have d2 := hblk3.cell 2
        have hmx : decide ((4194304 : Int) < X.length) = false := by have := hlen.out; simp; omega
        have HB2 := Lib.hid (HB.out.trans h2)
        clear hblk3 hrow3 h2
        go_wp2_with fail
        go_roundw
        case rel => exact ⟨k + 1, by go_num, by omega, Lib.hid (by rw [HE.out]; exact HS2.out), HB2⟩
        case measure => simp [intOf]; omega
      · have : k = p.ls.length := by omega
        subst this
        have c6 := (HB.out.kp _ 34 _ (by decide) (by decide) H.out.2.2.2.1).cell 0
        have f6 := (HB.out.kp _ 34 _ (by decide) (by decide) H.out.2.2.2.1).frozen 0
        clear hlb hsz
        go_wp2_with fail
        refine leaves_cons (f := 45) (args := #[.pointer (some ⟨w.heap.size, 0, none⟩)]) (by simp) (by simp [go_sem]) ?_
        refine (fill1_idle _ _).mono ?_
        rintro e u' w'' ⟨rfl, rfl, rfl⟩
        have hb6 := HB.out.kp _ 34 _ (by decide) (by decide) H.out.2.2.2.1
        have c7 := (hb6.set_ 0 (.int .i64 0)).cell 0
        simp [Leaves, settle, results, Try.results40, go_sem, c7]
        have HSS := HS.out
        rw [List.take_length] at HSS
        obtain ⟨v, hblk, hrow⟩ := HSS
        have hgne : g ≠ w.heap.size := fun e => by
          subst e
          unfold Blk at hblk hb6
          rw [hblk] at hb6
          cases hb6
        refine ⟨⟨p.ls.length, v, hblk.far (p := ⟨w.heap.size, 0, none⟩) hgne _, Row.set_ hrow (own_ne hrow hb6 (by decide)) _⟩, (H.out.2.2.2.2.trans HB.out).bel.setCell (p := ⟨w.heap.size, 0, none⟩) hb _, fun b t cs h1 h2 h3 => ?_⟩
        exact ((H.out.2.2.2.2.trans HB.out).kp b t cs h1 h2 h3).far (p := ⟨w.heap.size, 0, none⟩) (fun e => by have := h3.lt; have e' : b = w.heap.size := e; omega) _

set_option maxHeartbeats 4000000 in
theorem fill_neg (g base : Nat) (fn : Fn) (cap : Array Value) (w : World) (hs : WS w base g (some []) 0) (hb : base ≤ w.heap.size) :
    Calls Try.prog 40 #[.pointer (some ⟨g, 0, none⟩), .int .i64 (-1), .func fn #[] cap] w fun e w' => e = .returned (.int .i64 2) ∧ (∃ m, WS w' base g (some []) m) ∧ WB base w w' := by
  have hmf : ∀ (fn : Fn) (first cap : Array Value) (w : World), (Instr.makeFunc fn first cap).run Try.prog w = .ok (.func fn first cap) w := fun _ _ _ _ => rfl
  have hb1 : Below w.heap.size w (w.alloc (.cells #[.int .i64 2] 34)) := (Below.refl _ _).alloc (Nat.le_refl _) _
  have H := Lib.hid (And.intro (hs.on hb1) (WB.of hb1 hb))
  have c6 := (Blk.new w 34 #[.int .i64 2]).cell 0
  clear hs hb1
  go_enter_defers Try.func40, Try.ntmps40
  go_wp2
  refine leaves_cons (f := 45) (args := #[.pointer (some ⟨w.heap.size, 0, none⟩)]) (by simp) (by simp [go_sem]) ?_
  refine (fill1_idle _ _).mono ?_
  rintro e u' w'' ⟨rfl, rfl, rfl⟩
  simp [Leaves, settle, results, Try.results40, go_sem, c6]
  exact ⟨⟨0, H.out.1⟩, H.out.2⟩

/-- A list's bytes, put into a writer. -/
theorem list_any (g Bx base : Nat) (s : Option (List Int)) (m : Nat) (p : Pt) (tag : Int) (w : World) (hs : WS w base g s m) (hb : base ≤ w.heap.size) (hx : Blk w Bx 31 p.cells.toArray) (hr : RdS w w.heap.size p.LA p.ls) (hn : p.ls.length ≤ 30) (hsz : ∀ k, k < p.ls.length → (p.ls.getD k ByteArray.empty).size ≤ 30000)
    (hlb : ∀ k, (lb (p.ls.take k)).length ≤ 4000000) (hgb : base ≤ g) (ht : 0 ≤ tag) (ht2 : tag ≤ 255) (hl : ∀ l, s = some l → l.length ≤ 100000000) (hm : m ≤ 1000000) :
    Calls Try.prog 26 #[.pointer (some ⟨g, 0, none⟩), .int .u8 tag, .int .i64 p.ls.length, .func (.func 27) #[] #[.pointer (some ⟨Bx, 0, none⟩)]] w fun e w' => e = .returned (.pointer (some ⟨g, 0, none⟩)) ∧ WS w' base g (putS s tag (lb p.ls)) (cntS s tag m) ∧ WB base w w' := by
  cases s with
  | none =>
    obtain ⟨v, hblk⟩ := hs
    have HB := Lib.hid hblk
    have c2 := hblk.cell 2
    clear hblk hx hr hsz hlb hl
    go_enter Try.func26, Try.ntmps26
    go_wp2
    go_ret
    exact ⟨rfl, ⟨v, HB.out⟩, WB.refl _ _⟩
  | some l =>
    have hb1 : Below w.heap.size w (w.alloc (.cells #[.slice none 0 0, .int .i64 0, .int .i64 0] 48)) := (Below.refl _ _).alloc (Nat.le_refl _) _
    have hin : WS (w.alloc (.cells #[.slice none 0 0, .int .i64 0, .int .i64 0] 48)) w.heap.size w.heap.size (some []) 0 := ⟨_, Blk.new w 48 _, World.ownsRow_nil _ _ _ _⟩
    have hf := Lib.hid (fill_any w.heap.size Bx w.heap.size p _ hin hb1.size (hx.on hb1) (hr.below hb1) hn hsz hlb (Nat.le_refl _))
    have hlt := hs.lt
    obtain ⟨v, hblk, hrow⟩ := hs
    have c2 := hblk.cell 2
    have HS := Lib.hid (⟨v, hblk, hrow⟩ : WS w base g (some l) m)
    have HL := Lib.hid (hlb p.ls.length)
    rw [List.take_length] at HL
    have HLL := Lib.hid (hl l rfl)
    clear hx hr hsz hlb hl hblk hrow hin
    go_enter Try.func26, Try.ntmps26
    go_wp2_with fail
    refine hf.out.mono ?_
    clear hf
    rintro e w2 ⟨rfl, ⟨m2, v2, hblk2, hrow2⟩, hwb⟩
    have hbel : Below w.heap.size w w2 := hb1.trans hwb.bel
    have d2 := WS.on (s := some l) HS.out hbel
    obtain ⟨vv, hbb, hrr⟩ := d2
    have e2 := hbb.cell 2
    have f2 := hbb.frozen 2
    obtain ⟨A2, cc2, rfl, hcc, hrd2⟩ := hrow2.rd
    have e0 := hblk2.cell 0
    have hsz2 := hwb.bel.size
    have hmx : decide ((4194304 : Int) < (lb p.ls).length) = false := by have := HL.out; simp; omega
    have hAc : A2 = none → cc2 = 0 := fun e => by
      subst e
      rcases hrow2.2 with ⟨e0, _⟩ | ⟨g', cap, cur, e0, _⟩
      · injection e0
      · cases e0
    have HBY := Lib.hid (bytes_any g (some l) m (lb p.ls) tag A2 cc2 base w2 (WS.on (s := some l) HS.out hbel) (Nat.le_trans hb hbel.size) (fun l' e => by injection e with e; subst e; exact src_fresh HS.out hbel hrd2 (fun _ ad e => row_at hrow2 e)) hAc ht ht2 (by have := HL.out; omega) (fun l' e => by injection e with e; subst e; exact HLL.out) hm hgb)
    have HWB := Lib.hid (WB.of hbel hb)
    clear hbb hrr hblk2 hrow2 hrd2 hwb hbel hb1
    go_wp2_with fail
    refine HBY.out.mono ?_
    rintro e w3 ⟨rfl, h1, h2⟩
    go_wp2_with fail
    go_ret
    exact ⟨rfl, h1, HWB.out.trans h2⟩

theorem list_neg (g base : Nat) (s : Option (List Int)) (m : Nat) (fn : Fn) (cap : Array Value) (tag : Int) (w : World) (hs : WS w base g s m) (hb : base ≤ w.heap.size) (hgb : base ≤ g) :
    Calls Try.prog 26 #[.pointer (some ⟨g, 0, none⟩), .int .u8 tag, .int .i64 (-1), .func fn #[] cap] w fun e w' => e = .returned (.pointer (some ⟨g, 0, none⟩)) ∧ WS w' base g none m ∧ WB base w w' := by
  cases s with
  | none =>
    obtain ⟨v, hblk⟩ := hs
    have HB := Lib.hid hblk
    have c2 := hblk.cell 2
    clear hblk
    go_enter Try.func26, Try.ntmps26
    go_wp2
    go_ret
    exact ⟨rfl, ⟨v, HB.out⟩, WB.refl _ _⟩
  | some l =>
    have hb1 : Below w.heap.size w (w.alloc (.cells #[.slice none 0 0, .int .i64 0, .int .i64 0] 48)) := (Below.refl _ _).alloc (Nat.le_refl _) _
    have hin : WS (w.alloc (.cells #[.slice none 0 0, .int .i64 0, .int .i64 0] 48)) w.heap.size w.heap.size (some []) 0 := ⟨_, Blk.new w 48 _, World.ownsRow_nil _ _ _ _⟩
    have hf := Lib.hid (fill_neg w.heap.size w.heap.size fn cap _ hin hb1.size)
    obtain ⟨v, hblk, hrow⟩ := hs
    have c2 := hblk.cell 2
    have HS := Lib.hid (⟨v, hblk, hrow⟩ : WS w base g (some l) m)
    have hlt := hblk.lt
    clear hblk hrow hin
    go_enter Try.func26, Try.ntmps26
    go_wp2_with fail
    refine hf.out.mono ?_
    clear hf
    rintro e w2 ⟨rfl, ⟨m2, v2, hblk2, hrow2⟩, hwb⟩
    have hbel : Below w.heap.size w w2 := hb1.trans hwb.bel
    obtain ⟨vv, hbb, hrr⟩ := WS.on (s := some l) HS.out hbel
    have e2 := hbb.cell 2
    have f2 := hbb.frozen 2
    obtain ⟨A2, cc2, rfl, hcc, hrd2⟩ := hrow2.rd
    have e0 := hblk2.cell 0
    have HWB := Lib.hid (WB.of hbel hb)
    have HBB := Lib.hid hbb
    clear hbb hrr hblk2 hrow2 hrd2 hwb hbel hb1
    go_wp2_with fail
    go_ret
    exact ⟨rfl, ⟨vv, by simpa using HBB.out.set_ 2 (.int .i64 2)⟩, HWB.out.trans ⟨(Below.refl _ _).setCell (p := ⟨g, 2, none⟩) hgb _, fun b t cs h48 _ hb => kp_set HBB.out _ h48 hb⟩⟩
end Go.Proofs.Ytiakfdfpikheaaa
