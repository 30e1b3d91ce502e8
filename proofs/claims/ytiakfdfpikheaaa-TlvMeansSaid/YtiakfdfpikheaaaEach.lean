/- A reader's List: what takes a list's texts; each. -/
import Derived.Test.YtiakfdfpikheaaaReadN
import Derived.Deep.RegionHeld3
namespace Go.Proofs.Ytiakfdfpikheaaa
open Go.RowKit
set_option linter.unusedVariables false
set_option linter.unusedSimpArgs false

/-- Two blocks alone were written. -/
structure Ch (a b : Nat) (w w' : World) : Prop where
  os : w'.os = w.os
  tape : w'.tape = w.tape
  output : w'.output = w.output
  size : w.heap.size ≤ w'.heap.size
  same : ∀ k, k < w.heap.size → k ≠ a → k ≠ b → w'.heap[k]? = w.heap[k]?
section
variable {a b : Nat} {w w1 w2 : World}
theorem Ch.refl (a b : Nat) (w : World) : Ch a b w w := ⟨rfl, rfl, rfl, Nat.le_refl _, fun _ _ _ _ => rfl⟩
theorem Ch.trans (h : Ch a b w w1) (k : Ch a b w1 w2) : Ch a b w w2 := ⟨k.os.trans h.os, k.tape.trans h.tape, k.output.trans h.output, Nat.le_trans h.size k.size, fun i hi h1 h2 => (k.same i (Nat.lt_of_lt_of_le hi h.size) h1 h2).trans (h.same i hi h1 h2)⟩
theorem Ch.of (h : w.grownBy w1 (some a)) : Ch a b w w1 := ⟨h.os, h.tape, h.output, h.size, fun k hk h1 _ => h.block k hk (fun e => by injection e with e; exact h1 e)⟩
theorem Ch.bel (h : Below w.heap.size w w1) : Ch a b w w1 := ⟨h.os, h.tape, h.output, h.size, fun k hk _ _ => h.block k hk⟩
theorem Ch.setB (w : World) (i : Nat) (v : Value) : Ch a b w (w.setCell ⟨b, i, none⟩ v) := ⟨rfl, rfl, rfl, by simp, fun k _ _ h2 => Below.heap_setCell w ⟨b, i, none⟩ v k h2⟩
theorem Ch.blk (h : Ch a b w w1) {g : Nat} {t : TypeId} {cs : Array Value} (hb : Blk w g t cs) (h1 : g ≠ a) (h2 : g ≠ b) : Blk w1 g t cs := (h.same g hb.lt h1 h2).trans hb
theorem Ch.cell (h : Ch a b w w1) {p : Addr} (hp : p.block < w.heap.size) (h1 : p.block ≠ a) (h2 : p.block ≠ b) : w1.cell? p = w.cell? p := by
  have := h.same p.block hp h1 h2
  unfold World.cell?
  rw [this]
theorem Ch.below (h : Ch a b w w1) {B : Nat} (h1 : B ≤ a) (h2 : B ≤ b) (hB : B ≤ w.heap.size) : Below B w w1 := ⟨h.os, h.tape, h.output, h.size, fun k hk => h.same k (by omega) (by omega) (by omega)⟩
theorem Ch.rs (h : Ch a b w w1) {D g : Nat} {f : Bool} {r : List Int} (hs : RS w D g f r) (h1 : g ≠ a) (h2 : g ≠ b) (h3 : D ≤ a) (h4 : D ≤ b) : RS w1 D g f r := by
  have hlt := hs.lt
  obtain ⟨h0, A, c, x1, x2, x3⟩ := hs
  refine ⟨h0, A, c, h.blk x1 h1 h2, fun hp => ?_, x3⟩
  obtain ⟨bb, off, e, hl, hc⟩ := x2 hp
  exact ⟨bb, off, e, hl, fun j hj => (h.cell (p := ⟨bb, off + j, none⟩) (show bb < w.heap.size by omega) (show bb ≠ a by omega) (show bb ≠ b by omega)).trans (hc j hj)⟩
end
theorem RS.setI {W : World} {D g : Nat} {f : Bool} {r : List Int} (h : RS W D g f r) {b i : Nat} {v : Value} (hb : D ≤ b) (hg : g ≠ b) : RS (W.setCell ⟨b, i, none⟩ v) D g f r := by
  obtain ⟨h0, A, c, h1, h2, h3⟩ := h
  refine ⟨h0, A, c, h1.far (p := ⟨b, i, none⟩) hg _, fun hp => ?_, h3⟩
  obtain ⟨bb, off, e, hl, hc⟩ := h2 hp
  exact ⟨bb, off, e, hl, fun j hj => (World.cell?_of_block (w := W) (a := ⟨bb, off + j, none⟩) (Below.heap_setCell W ⟨b, i, none⟩ v bb (fun e => by have : bb = b := e; omega))).trans (hc j hj)⟩

set_option maxHeartbeats 8000000 in
/-- The law's function that takes a list's texts. -/
theorem back1_any (D gi Bi Bx B k : Nat) (r : List Int) (p : Pt) (w : World) (hs : RS w D gi false r) (hi : Blk w Bi 3 #[.int .i64 (k : Int)]) (hx : Blk w Bx 31 p.cells.toArray) (hl : RdS w B p.LA p.ls) (hB : B ≤ gi) (hB2 : B ≤ Bi) (hD : D ≤ Bi) (h1 : gi ≠ Bi) (h2 : Bx ≠ gi) (h3 : Bx ≠ Bi) (hk : k ≤ 1000000) (hll : p.ls.length ≤ 1000000) :
    Calls Try.prog 37 #[.pointer (some ⟨gi, 0, none⟩), .pointer (some ⟨Bi, 0, none⟩), .pointer (some ⟨Bx, 0, none⟩)] w fun e w' => ∃ (b : Bool) (f' : Bool) (r' : List Int), e = .returned (.bool b) ∧ Blk w' Bi 3 #[.int .i64 ((k : Int) + 1)] ∧ RS w' D gi f' r' ∧ Ch gi Bi w w' ∧
      ((k < p.ls.length ∧ b = ((mkS (((tk false r 9).1).getD [])).toList == (p.ls.getD k ByteArray.empty).toList) ∧ f' = (tk false r 9).2.1 ∧ r' = (tk false r 9).2.2) ∨ (p.ls.length ≤ k ∧ b = false ∧ f' = false ∧ r' = r)) := by
  have hlt := hs.lt
  have ci := hi.cell 0
  have fi := hi.frozen 0
  have hi2 : Blk (w.setCell ⟨Bi, 0, none⟩ (.int .i64 ((k : Int) + 1))) Bi 3 #[.int .i64 ((k : Int) + 1)] := by simpa using hi.set_ 0 (.int .i64 ((k : Int) + 1))
  have hs2 : RS (w.setCell ⟨Bi, 0, none⟩ (.int .i64 ((k : Int) + 1))) D gi false r := hs.setI hD h1
  have hch : Ch gi Bi w (w.setCell ⟨Bi, 0, none⟩ (.int .i64 ((k : Int) + 1))) := Ch.setB w 0 _
  have hx2 : Blk (w.setCell ⟨Bi, 0, none⟩ (.int .i64 ((k : Int) + 1))) Bx 31 p.cells.toArray := hx.far (p := ⟨Bi, 0, none⟩) h3 _
  have hl2 : 0 < p.ls.length → ∃ b off, p.LA = some ⟨b, off, none⟩ ∧ b < B ∧ ∀ j, j < p.ls.length → (w.setCell ⟨Bi, 0, none⟩ (.int .i64 ((k : Int) + 1))).cell? ⟨b, off + j, none⟩ = some (.string (p.ls.getD j ByteArray.empty)) := fun hp => by
    obtain ⟨b, off, e, hlt, hc⟩ := hl hp
    exact ⟨b, off, e, hlt, fun j hj => (World.cell?_of_block (w := w) (a := ⟨b, off + j, none⟩) (Below.heap_setCell w ⟨Bi, 0, none⟩ _ b (fun e => by have : b = Bi := e; omega))).trans (hc j hj)⟩
  have H := Lib.hid (And.intro hi2 (And.intro hs2 (And.intro hch (And.intro hx2 hl2))))
  have hlt2 : gi < (w.setCell ⟨Bi, 0, none⟩ (.int .i64 ((k : Int) + 1))).heap.size := by simpa using hlt
  clear hs hi hx hl hi2 hs2 hch hx2 hl2
  go_enter Try.func37, Try.ntmps37
  go_wp2_with fail
  clear ci fi
  generalize w.setCell ⟨Bi, 0, none⟩ (.int .i64 ((k : Int) + 1)) = w1 at *
  generalize hmm : (k : Int) + 1 = mm at *
  have HM := Lib.hid hmm
  have hsub : mm - 1 = (k : Int) := by omega
  have hm1 : 1 ≤ mm := by omega
  have hm2 : mm ≤ 1000001 := by omega
  have ci := H.out.1.cell 0
  have cx := H.out.2.2.2.1.cell 4
  simp only [Pt.cells] at cx
  by_cases hlt : k < p.ls.length
  · obtain ⟨b, off, hLA, hb, hc⟩ := H.out.2.2.2.2 (by omega)
    have ck := hc k hlt
    rw [hLA] at cx
    have hle : decide (mm ≤ (p.ls.length : Int)) = true := by simp; omega
    have hle' : mm ≤ (p.ls.length : Int) := by omega
    clear hc hLA hmm
    generalize htt : p.ls.getD k ByteArray.empty = t at *
    have HT := Lib.hid htt
    clear htt
    have HC := Lib.hid (text_r D gi false r 9 w1.drew (H.out.2.1.on (Below.refl _ _).drew))
    have HK : ∀ w', w1.drew.grownBy w' (some gi) → w'.cell? ⟨Bi, 0, none⟩ = some (.int .i64 mm) ∧ w'.cell? ⟨Bx, 4, none⟩ = some (.slice (some ⟨b, off, none⟩) p.ls.length p.lc) ∧ w'.cell? ⟨b, off + k, none⟩ = some (.string t) := fun w' hg => by
      have cc : ∀ {q : Addr}, q.block < w1.heap.size → q.block ≠ gi → w'.cell? q = w1.cell? q := fun {q} h1 h2 => World.cell?_of_block (w := w1) (a := q) (hg.block q.block h1 (fun e => by injection e with e; exact h2 e))
      exact ⟨(cc (q := ⟨Bi, 0, none⟩) H.out.1.lt h1.symm).trans ci, (cc (q := ⟨Bx, 4, none⟩) H.out.2.2.2.1.lt h2).trans cx, (cc (q := ⟨b, off + k, none⟩) (show b < w1.heap.size by omega) (show b ≠ gi by omega)).trans ck⟩
    have hia : ∀ W, (Instr.indexAt 29 (.slice (some ⟨b, off, none⟩) p.ls.length p.lc) (.int .i64 (k : Int))).run Try.prog W = .ok (.pointer (some ⟨b, off + k, none⟩)) W := fun W => by
      simp [Instr.indexAt, go_sem, hlt, run_underlying Try.underlying29]
      done
    have hwr : IntKind.i64.wrap (mm - 1) = (k : Int) := by rw [hsub]; exact IntWalk.i64_in _ ⟨by omega, by omega⟩
    have hwr2 : IntKind.i64.wrap (k : Int) = (k : Int) := IntWalk.i64_in _ ⟨by omega, by omega⟩
    have HKH := Lib.hid HK
    clear HK
    go_region_held3 (fun w' => w'.cell? ⟨Bi, 0, none⟩ = some (.int .i64 mm) ∧ w'.cell? ⟨Bx, 4, none⟩ = some (.slice (some ⟨b, off, none⟩) p.ls.length p.lc) ∧ w'.cell? ⟨b, off + k, none⟩ = some (.string t)) (first | (refine HKH.out _ ?_; first | assumption | exact World.grownBy.refl _ _) | go_keep)
      (first
        | (go_at_call 33; refine HC.out.mono ?_; rintro e w' ⟨rfl, hrs, hgr⟩))
    go_wp2
    go_ret
    refine ⟨_, _, _, rfl, ?_, hrs, ?_, .inl ⟨hlt, by rw [HT.out], rfl, rfl⟩⟩
    · rw [HM.out]
      exact (hgr.block Bi H.out.1.lt (fun e => by injection e with e; exact h1 e.symm)).trans H.out.1
    · exact H.out.2.2.1.trans (Ch.of (grownBy_trans (grownBy_of (Below.refl _ _).drew) hgr))
  · have hle : decide (mm ≤ (p.ls.length : Int)) = false := by simp; omega
    clear hmm
    go_quiet (fail)
    go_wp2
    go_ret
    exact ⟨false, false, r, rfl, by rw [HM.out]; exact H.out.1.drewN nq, H.out.2.1.on (below_drewN (Below.refl _ _) nq), H.out.2.2.1.trans (Ch.bel (below_drewN (Below.refl _ _) nq)), .inr ⟨by omega, rfl, rfl, rfl⟩⟩

theorem toList_inj {a b : ByteArray} (h : a.toList = b.toList) : a = b := by
  have : ∀ x : ByteArray, x.toList = x.data.toList := fun x => ByteArray.toList_eq x
  rw [this, this] at h
  cases a; cases b
  simp_all
theorem byt_bytesOf (t : ByteArray) : Byt (bytesOf t) := fun x hx => by
  obtain ⟨b, _, rfl⟩ := List.mem_map.1 hx
  have := b.toNat_lt
  omega
theorem mkS_bytesOf (t : ByteArray) : mkS (bytesOf t) = t := by
  have h := bytesOf_mkS (byt_bytesOf t)
  have inj : ∀ {a b : ByteArray}, bytesOf a = bytesOf b → a = b := fun {a b} h => by
    unfold bytesOf at h
    have h2 : a.data.toList = b.data.toList := by
      refine List.map_inj_right (fun x y e => ?_) |>.1 h
      have e' : x.toNat = y.toNat := by omega
      exact UInt8.toNat_inj.1 e'
    cases a; cases b
    simp only [ByteArray.mk.injEq]
    exact Array.ext' h2
  exact inj h

theorem each1_idle (p : Addr) (w : World) :
    CallsD Try.prog 46 #[.pointer (some p)] .returning w fun e u' w' => e = .returned (.tuple #[]) ∧ u' = .returning ∧ w' = w := by
  refine callsD_of_wpS Try.func46 rfl fun c₀ cs hu => ?_
  apply wpS_seq
  apply wpS_region
  simp [wpOpsS, go_sem, recoverD, hu, Try.ntmps46, Exit.thenS]
  refine wpS_cond (t := false) (by simp [Act.eval, Array.replicate]) ?_
  simp only [Bool.false_eq_true, if_false]
  refine wpS_of_wp (wp_skip ?_)
  cases c₀
  simp_all [bodyPostS, results, Try.results46]

/-- What each leaves. -/
def EachR (r0 : List Int) (ls : List ByteArray) (f' : Bool) (r' : List Int) (k : Nat) : Prop :=
  (f' = false ∧ k ≤ ls.length ∧ r0 = lb (ls.take k) ++ r' ∧ stands r' = false) ∨ (f' = true ∧ r0 ≠ lb ls)
theorem lb_drop {l : List ByteArray} {k : Nat} (hk : k < l.length) : lb (l.drop k) = valB 9 (bytesOf (l.getD k ByteArray.empty)) ++ lb (l.drop (k + 1)) := by
  unfold lb
  rw [List.drop_eq_getElem_cons hk, List.flatMap_cons, List.getD_eq_getElem?_getD, List.getElem?_eq_getElem hk]
  rfl
theorem lb_split (l : List ByteArray) (k : Nat) : lb l = lb (l.take k) ++ lb (l.drop k) := by
  unfold lb
  rw [← List.flatMap_append, List.take_append_drop]

theorem each_step {r r' : List Int} {ls : List ByteArray} {k : Nat} {b f' : Bool} (hb : Byt r) (hst : stands r = true) (hsz : ∀ k, k < ls.length → (ls.getD k ByteArray.empty).size ≤ 30000)
    (h : (k < ls.length ∧ b = ((mkS (((tk false r 9).1).getD [])).toList == (ls.getD k ByteArray.empty).toList) ∧ f' = (tk false r 9).2.1 ∧ r' = (tk false r 9).2.2) ∨ (ls.length ≤ k ∧ b = false ∧ f' = false ∧ r' = r)) :
    (b = true ∧ f' = false ∧ k < ls.length ∧ r = valB 9 (bytesOf (ls.getD k ByteArray.empty)) ++ r' ∧ r'.length < r.length) ∨ ((b = false ∨ r'.length = r.length) ∧ r ≠ lb (ls.drop k)) := by
  rcases h with ⟨hk, hbv, hf, hr⟩ | ⟨hk, hbv, hf, hr⟩
  · have hput : r = lb (ls.drop k) → tk false r 9 = (some (bytesOf (ls.getD k ByteArray.empty)), (false, lb (ls.drop (k + 1)))) := fun e => by
      rw [e, lb_drop hk]
      exact tk_put (by decide) (by rw [bytesOf_length]; have := hsz k hk; omega)
    cases htk : tk false r 9 with
    | mk o q =>
      obtain ⟨f1, r1⟩ := q
      rw [htk] at hbv hf hr hput
      cases o with
      | none =>
        obtain ⟨_, h2⟩ := tk_none htk
        exact .inr ⟨.inr (by rw [hr]; show r1.length = _; rw [h2]), fun e => by have := hput e; simp at this⟩
      | some v =>
        obtain ⟨_, h2, _, h4, h5⟩ := tk_some hb htk
        simp only [Option.getD_some] at hbv
        simp only at hr hf
        subst hr
        have hbyv : Byt v := fun x hx => hb x (by rw [h4]; simp [valB, hx])
        by_cases he : mkS v = ls.getD k ByteArray.empty
        · have hv : v = bytesOf (ls.getD k ByteArray.empty) := by rw [← he, bytesOf_mkS hbyv]
          refine .inl ⟨by rw [hbv, he]; simp, by rw [hf, h2], hk, by rw [← hv]; exact h4, ?_⟩
          have := congrArg List.length h4
          rw [List.length_append, valB_length] at this
          omega
        · refine .inr ⟨.inl ?_, fun e => ?_⟩
          · rw [hbv]
            exact beq_eq_false_iff_ne.2 (fun e => he (toList_inj e))
          · have := hput e
            simp only [Prod.mk.injEq, Option.some.injEq] at this
            exact he (by rw [this.1, mkS_bytesOf])
  · refine .inr ⟨.inl hbv, fun e => ?_⟩
    rw [e, List.drop_eq_nil_of_le hk] at hst
    simp [lb, stands] at hst

/-- How many bytes are left. -/
def restLen (gi : Nat) (w : World) : Nat := match w.cell? ⟨gi, 0, none⟩ with | some (.slice _ n _) => n | _ => 0
theorem restLen_rs {w : World} {D gi : Nat} {f : Bool} {r : List Int} (h : RS w D gi f r) : restLen gi w = r.length := by
  obtain ⟨_, A, c, hb, _⟩ := h
  have := hb.cell 0
  unfold restLen
  rw [this]
  rfl

set_option maxHeartbeats 8000000 in
theorem each_any (D gi Bi Bx B : Nat) (r0 : List Int) (p : Pt) (w : World) (hs : RS w D gi false r0) (hi : Blk w Bi 3 #[.int .i64 0]) (hx : Blk w Bx 31 p.cells.toArray) (hl : RdS w B p.LA p.ls) (hB : B ≤ gi) (hB2 : B ≤ Bi) (hD : D ≤ Bi) (h1 : gi ≠ Bi) (h2 : Bx ≠ gi) (h3 : Bx ≠ Bi) (hll : p.ls.length ≤ 30) (hsz : ∀ k, k < p.ls.length → (p.ls.getD k ByteArray.empty).size ≤ 30000) :
    Calls Try.prog 44 #[.pointer (some ⟨gi, 0, none⟩), .func (.func 37) #[] #[.pointer (some ⟨Bi, 0, none⟩), .pointer (some ⟨Bx, 0, none⟩)]] w fun e w' => (∃ v, e = .returned v) ∧ ∃ (f' : Bool) (r' : List Int) (k : Nat), EachR r0 p.ls f' r' k ∧ Blk w' Bi 3 #[.int .i64 (k : Int)] ∧ RS w' D gi f' r' ∧ Ch gi Bi w w' := by
  have hmf : ∀ (fn : Fn) (first cap : Array Value) (w : World), (Instr.makeFunc fn first cap).run Try.prog w = .ok (.func fn first cap) w := fun _ _ _ _ => rfl
  have hnf : ∀ W, (binOp BinOp.eql 76 (Value.func (.func 37) #[] #[.pointer (some ⟨Bi, 0, none⟩), .pointer (some ⟨Bx, 0, none⟩)]) Value.nilFunc).run Try.prog W = .ok (.bool false) W := fun W => rfl
  have hb1 : Below w.heap.size w (w.alloc (.cells #[.pointer (some ⟨gi, 0, none⟩)] 43)) := (Below.refl _ _).alloc (Nat.le_refl _) _
  have hgl := hs.lt
  have hbl := hi.lt
  have hxl := hx.lt
  have H := Lib.hid (And.intro (hs.on hb1) (And.intro (hi.on hb1) (And.intro (hx.on hb1) (And.intro (hl.below (hb1.mono (by omega))) (And.intro (Blk.new w 43 #[.pointer (some ⟨gi, 0, none⟩)]) (Ch.bel (a := gi) (b := Bi) hb1))))))
  have HSZ := Lib.hid hsz
  clear hs hi hx hl hb1 hsz
  go_enter_defers Try.func44, Try.ntmps44
  go_wp2
  go_step3
  go_wp2
  go_step3
  go_wp2
  go_loopw [] (fun wr => ∃ (k : Nat) (r : List Int), k ≤ p.ls.length ∧ r0 = lb (p.ls.take k) ++ r ∧ Hid (RS wr D gi false r) ∧ Hid (Blk wr Bi 3 #[.int .i64 (k : Int)]) ∧ Hid (Ch gi Bi (w.alloc (.cells #[.pointer (some ⟨gi, 0, none⟩)] 43)) wr)) (fun wr => restLen gi wr)
  case atStart => exact ⟨0, r0, Nat.zero_le _, by simp [lb], Lib.hid H.out.1, Lib.hid H.out.2.1, Lib.hid (Ch.refl _ _ _)⟩
  case round =>
    obtain ⟨k, r, hk, hr0, HS, HI, HC⟩ := hrel
    have hbox := HC.out.blk H.out.2.2.2.2.1 (show w.heap.size ≠ gi by omega) (show w.heap.size ≠ Bi by omega)
    have cb := hbox.cell 0
    have HT := Lib.hid (tag_any D gi false r wr HS.out)
    have HR0 := Lib.hid hr0
    clear hr0
    go_wp2_with fail
    refine HT.out.mono ?_
    clear HT
    rintro e w1 ⟨⟨t, rfl, ht⟩, m, rfl⟩
    have hbm : Below wr.heap.size wr (wr.drewN m) := below_drewN (Below.refl _ _) m
    rcases ht with ⟨rfl, ht⟩ | ⟨htz, -, hst, htv⟩
    · have hns : stands r = false := ht.resolve_left (by simp)
      have HNS := Lib.hid hns
      clear hns ht
      go_wp2_with fail
      refine leaves_cons (f := 46) (args := #[.pointer (some ⟨w.heap.size, 0, none⟩)]) (by simp) (by simp [go_sem]) ?_
      refine (each1_idle _ _).mono ?_
      rintro e u' w'' ⟨rfl, rfl, rfl⟩
      have hfin : ∃ (f' : Bool) (r' : List Int) (k : Nat), EachR r0 p.ls f' r' k ∧ Blk (wr.drewN m) Bi 3 #[.int .i64 (k : Int)] ∧ RS (wr.drewN m) D gi f' r' ∧ Ch gi Bi w (wr.drewN m) :=
        ⟨false, r, k, .inl ⟨rfl, hk, HR0.out, HNS.out⟩, (HI.out).drewN m, HS.out.on hbm, (H.out.2.2.2.2.2.trans HC.out).trans (Ch.bel hbm)⟩
      exact ⟨_, results_none rfl _ _ _, ⟨_, rfl⟩, hfin⟩
    · have htz' : (t == 0) = false := by simpa using htz
      have htz2 : (t != 0) = true := by simpa using htz
      have HST := Lib.hid (And.intro hst htv)
      have HS2 := Lib.hid (HS.out.on hbm)
      obtain ⟨A, c, hblk, _⟩ := HS2.out.2
      have cg := hblk.cell 0
      have HRB := Lib.hid (back1_any D gi Bi Bx B k r p (wr.drewN m) HS2.out ((HI.out).drewN m) ((HC.out.blk H.out.2.2.1 h2 h3).drewN m) (fun hp => by
        obtain ⟨b, off, e, hlt, hc⟩ := H.out.2.2.2.1 hp
        exact ⟨b, off, e, hlt, fun j hj => (HC.out.cell (p := ⟨b, off + j, none⟩) (show b < _ by simp; omega) (show b ≠ gi by omega) (show b ≠ Bi by omega)).trans (hc j hj)⟩) hB hB2 hD h1 h2 h3 (by omega) (by omega))
      have HML := Lib.hid (restLen_rs HS.out)
      have HBY := Lib.hid HS.out.byt
      have hbox2 := hbox.drewN m
      have hbz : w.heap.size < (wr.drewN m).heap.size := by have := hbox.lt; exact this
      clear hst htv hblk
      go_wp2_with fail
      refine HRB.out.mono ?_
      clear HRB
      rintro e w2 ⟨b, f', r', rfl, hbi, hrs, hch, hcase⟩
      have hstep := each_step HBY.out HST.out.1 HSZ.out hcase
      have cb2 := (hch.blk hbox2 (show w.heap.size ≠ gi by omega) (show w.heap.size ≠ Bi by omega)).cell 0
      have hC2 := Lib.hid (((H.out.2.2.2.2.2.trans HC.out).trans (Ch.bel hbm)).trans hch)
      have hC3 := Lib.hid ((HC.out.trans (Ch.bel hbm)).trans hch)
      have HBI := Lib.hid hbi
      have HRS := Lib.hid hrs
      have HFA := Lib.hid (fail_any D gi f' r' w2 hrs)
      obtain ⟨A2, c2, hblk2, _⟩ := hrs.2
      have cg2 := hblk2.cell 0
      clear hcase hbi hrs hch hblk2 hbox2 cb cg
      have bad : r ≠ lb (p.ls.drop k) → r0 ≠ lb p.ls := fun hne e => hne (by
        have h4 := HR0.out
        rw [e, lb_split p.ls k] at h4
        exact (List.append_cancel_left h4).symm)
      have HBAD := Lib.hid bad
      clear bad
      rcases hstep with ⟨rfl, rfl, hkl, hr, hlen⟩ | ⟨hor, hne⟩
      · have hd : ((r'.length : Int) == r.length) = false := by simp; omega
        have HGO := Lib.hid (And.intro hkl hr)
        have hk1 : k + 1 ≤ p.ls.length := by omega
        clear hr hkl
        go_wp2_with fail
        go_roundw
        case rel => exact ⟨k + 1, r', hk1, by rw [HR0.out, lb_snoc HGO.out.1, HGO.out.2]; simp, HRS, Lib.hid (by simpa using HBI.out), hC3⟩
        case measure => rw [restLen_rs HRS.out, HML.out]; exact hlen
      · have HNE := Lib.hid (HBAD.out hne)
        clear hne
        cases b with
        | false =>
          clear hor
          go_wp2_with fail
          refine HFA.out.mono ?_
          rintro e w3 ⟨⟨vv, rfl⟩, h4, h5⟩
          go_wp2_with fail
          refine leaves_cons (f := 46) (args := #[.pointer (some ⟨w.heap.size, 0, none⟩)]) (by simp) (by simp [go_sem]) ?_
          refine (each1_idle _ _).mono ?_
          rintro e u' w'' ⟨rfl, rfl, rfl⟩
          exact ⟨_, results_none rfl _ _ _, ⟨_, rfl⟩, true, r', k + 1, .inr ⟨rfl, HNE.out⟩, by simpa using Blk.grown HBI.out h5 (fun e => by injection e with e; exact h1 e.symm), h4, hC2.out.trans (Ch.of h5)⟩
        | true =>
          have hd : ((r'.length : Int) == r.length) = true := by simp at hor; simp; omega
          clear hor
          go_wp2_with fail
          refine HFA.out.mono ?_
          rintro e w3 ⟨⟨vv, rfl⟩, h4, h5⟩
          go_wp2_with fail
          refine leaves_cons (f := 46) (args := #[.pointer (some ⟨w.heap.size, 0, none⟩)]) (by simp) (by simp [go_sem]) ?_
          refine (each1_idle _ _).mono ?_
          rintro e u' w'' ⟨rfl, rfl, rfl⟩
          exact ⟨_, results_none rfl _ _ _, ⟨_, rfl⟩, true, r', k + 1, .inr ⟨rfl, HNE.out⟩, by simpa using Blk.grown HBI.out h5 (fun e => by injection e with e; exact h1 e.symm), h4, hC2.out.trans (Ch.of h5)⟩
end Go.Proofs.Ytiakfdfpikheaaa
