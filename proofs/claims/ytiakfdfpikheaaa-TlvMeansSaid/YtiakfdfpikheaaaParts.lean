/- Parts: what a part's bytes are, by the law; a part put. -/
import Derived.Test.YtiakfdfpikheaaaPutL
namespace Go.Proofs.Ytiakfdfpikheaaa
open Go.RowKit
set_option linter.unusedVariables false
set_option linter.unusedSimpArgs false

theorem info31 : ∃ (i : TypeInfo) (z : Value), Try.prog.info? 31 = some i ∧ i.zero = some z ∧ i.size = 5 ∧ i.bytes = 72 ∧ z.cells.size = 5 := by
  have h : (Try.prog.info? 31).map (fun i => (i.zero, i.size, i.bytes)) = some (some (.agg #[.int .i64 0, .int .u8 0, .int .u64 0, .slice none 0 0, .slice none 0 0]), 5, 72) := by kernel_rfl
  obtain ⟨i, hi, h0, h1, h2⟩ := info_parts h
  exact ⟨i, _, hi, h0, h1, h2, rfl⟩
def kP : Kind Pt where
  e := 31
  st := 22
  size := 5
  bytes := 72
  cs := Pt.cells
  len := fun _ => rfl
  one := fun x u hu => by simp [Pt.cells] at hu; rcases hu with rfl | rfl | rfl | rfl | rfl <;> rfl
  pos := by decide
  sl := Try.underlying22
  zero := info31
  small := by decide

/-- A part whose bytes and texts read well, below B. -/
structure PtOk (W : World) (B : Nat) (p : Pt) : Prop where
  b : Rd W B p.A p.b
  bc : p.A = none → p.c = 0
  l : RdS W B p.LA p.ls
  t : 0 ≤ p.tag ∧ p.tag ≤ 255
  n : 0 ≤ p.n ∧ p.n < 18446744073709551616
  y : Byt p.b
theorem PtOk.below {W W' : World} {B : Nat} {p : Pt} (h : PtOk W B p) (hb : Below B W W') : PtOk W' B p := ⟨h.b.below hb, h.bc, h.l.below hb, h.t, h.n, h.y⟩
theorem PtOk.more {W : World} {B B' : Nat} {p : Pt} (h : PtOk W B p) (hb : B ≤ B') : PtOk W B' p := ⟨h.b.more hb, h.bc, h.l.more hb, h.t, h.n, h.y⟩
/-- How much a part is. -/
def Few (p : Pt) : Prop := p.b.length ≤ 20000 ∧ p.ls.length ≤ 30 ∧ (p.ls.map ByteArray.size).sum ≤ 20000
theorem valB_length (t : Int) (xs : List Int) : (valB t xs).length = 5 + xs.length := by simp [valB, be4]; omega
theorem lb_take (l : List ByteArray) (k : Nat) : (lb (l.take k)).length ≤ 5 * l.length + (l.map ByteArray.size).sum := by
  induction l generalizing k with
  | nil => simp [lb]
  | cons x t ih =>
    cases k with
    | zero => simp [lb]
    | succ k =>
      have := ih k
      simp only [lb, List.take_succ_cons, List.flatMap_cons, List.length_append, valB_length, bytesOf_length, List.map_cons, List.sum_cons, List.length_cons] at this ⊢
      omega
theorem size_le {l : List ByteArray} {k : Nat} (hk : k < l.length) : (l.getD k ByteArray.empty).size ≤ (l.map ByteArray.size).sum := by
  induction l generalizing k with
  | nil => simp at hk
  | cons x t ih =>
    cases k with
    | zero => simp
    | succ k =>
      have := ih (k := k) (by simpa using hk)
      simp only [List.getD_cons_succ, List.map_cons, List.sum_cons]
      omega
theorem Few.lb {p : Pt} (h : Few p) (k : Nat) : (lb (p.ls.take k)).length ≤ 20150 := by
  have := lb_take p.ls k
  have := h.2.1
  have := h.2.2
  omega
theorem Few.lb' {p : Pt} (h : Few p) : (Ytiakfdfpikheaaa.lb p.ls).length ≤ 20150 := by
  have := h.lb p.ls.length
  rwa [List.take_length] at this

/-- A part's bytes, by the law; none: it can't be put. -/
def encP (p : Pt) : Option (List Int) :=
  if p.kind < 1 ∨ 6 < p.kind then some [] else if p.tag = 0 ∨ p.kind = 6 then none else
  if p.kind = 3 then some (valB p.tag (be8 p.n)) else if p.kind = 4 then some (valB p.tag [p.n % 2]) else if p.kind = 5 then some (valB p.tag (lb p.ls)) else some (valB p.tag p.b)
theorem encP_len {p : Pt} (h : Few p) {x : List Int} (e : encP p = some x) : x.length ≤ 30000 := by
  have h1 := h.lb'
  have h2 := h.1
  unfold encP at e
  split at e
  · injection e with e; subst e; simp
  split at e
  · cases e
  split at e
  · injection e with e; subst e; simp [valB_length, be8]
  split at e
  · injection e with e; subst e; simp [valB_length]
  split at e
  · injection e with e; subst e; rw [valB_length]; omega
  · injection e with e; subst e; rw [valB_length]; omega
/-- A writer's state behind a part. -/
def stepS (s : Option (List Int)) (p : Pt) : Option (List Int) := s.bind fun l => (encP p).map (l ++ ·)
theorem putS_eq (s : Option (List Int)) (tag : Int) (xs : List Int) : putS s tag xs = s.bind fun l => if tag = 0 then none else some (l ++ valB tag xs) := by
  unfold putS valB
  cases s with
  | none => rfl
  | some l => simp only [Option.bind_some]; split <;> simp

theorem encP_mk (kind tag n : Int) (A : Option Addr) (c : Nat) (b : List Int) (LA : Option Addr) (lc : Nat) (ls : List ByteArray) : encP ⟨kind, tag, n, A, c, b, LA, lc, ls⟩ =
  if kind < 1 ∨ 6 < kind then some [] else if tag = 0 ∨ kind = 6 then none else
  if kind = 3 then some (valB tag (be8 n)) else if kind = 4 then some (valB tag [n % 2]) else if kind = 5 then some (valB tag (lb ls)) else some (valB tag b) := rfl

set_option maxHeartbeats 8000000 in
/-- A part's bytes, by the document. -/
theorem bytes_part (p : Pt) (w : World) (hok : PtOk w w.heap.size p) (hf : Few p) :
    Calls Try.prog 9 #[.agg p.cells.toArray] w fun e w' => ∃ v, e = .returned (.tuple #[v, .bool (encP p).isSome]) ∧ Row w' w.heap.size v ((encP p).getD []) ∧ Below w.heap.size w w' := by
  have hb1 : Below w.heap.size w (w.alloc (.cells p.cells.toArray 31)) := (Below.refl _ _).alloc (Nat.le_refl _) _
  have hx := Blk.new w 31 p.cells.toArray
  have hok1 := hok.below hb1
  obtain ⟨kind, tag, n, A, c, b, LA, lc, ls⟩ := p
  simp only [Pt.cells] at *
  have base : ∀ {W w' : World} {v : Value} {x : List Int}, w.heap.size ≤ W.heap.size → Row w' W.heap.size v x → Row w' w.heap.size v x := fun hle h => ⟨h.1, h.2.imp id fun ⟨g, c', cur, e1, e2, e3⟩ => ⟨g, c', cur, e1, by omega, e3⟩⟩
  have x0 := hx.cell 0
  have x1 := hx.cell 1
  have x2 := hx.cell 2
  have x3 := hx.cell 3
  have x4 := hx.cell 4
  by_cases h1 : kind < 1
  · have e : encP ⟨kind, tag, n, A, c, b, LA, lc, ls⟩ = some [] := by rw [encP_mk, if_pos (.inl h1)]
    rw [e]
    have d1 : decide (kind < 1) = true := by simpa using h1
    have HB := Lib.hid hb1
    clear hok hf hok1 hb1 hx e
    go_enter Try.func9, Try.ntmps9
    go_wp2
    go_ret2
    exact ⟨_, rfl, World.ownsRow_nil _ _ _ _, HB.out⟩
  by_cases h6 : 6 < kind
  · have e : encP ⟨kind, tag, n, A, c, b, LA, lc, ls⟩ = some [] := by rw [encP_mk, if_pos (.inr h6)]
    rw [e]
    have d1 : decide (kind < 1) = false := by simpa using h1
    have d2 : decide (6 < kind) = true := by simpa using h6
    have HB := Lib.hid hb1
    clear hok hf hok1 hb1 hx e
    go_enter Try.func9, Try.ntmps9
    go_wp2
    go_ret2
    exact ⟨_, rfl, World.ownsRow_nil _ _ _ _, HB.out⟩
  have d1 : decide (kind < 1) = false := by simpa using h1
  have d2 : decide (6 < kind) = false := by simpa using h6
  by_cases h0 : tag = 0 ∨ kind = 6
  · have e : encP ⟨kind, tag, n, A, c, b, LA, lc, ls⟩ = none := by rw [encP_mk, if_neg (by omega), if_pos h0]
    rw [e]
    have HB := Lib.hid hb1
    clear hok hf hok1 hb1 hx e
    rcases Classical.em (tag = 0) with ht | ht
    · subst ht
      go_enter Try.func9, Try.ntmps9
      go_wp2
      go_ret2
      exact ⟨_, rfl, World.ownsRow_nil _ _ _ _, HB.out⟩
    · have hk : kind = 6 := h0.resolve_left ht
      subst hk
      have dt : (tag == 0) = false := by simpa using ht
      go_enter Try.func9, Try.ntmps9
      go_wp2
      go_ret2
      exact ⟨_, rfl, World.ownsRow_nil _ _ _ _, HB.out⟩
  have dt : (tag == 0) = false := by simp; omega
  have d6 : (kind == 6) = false := by simp; omega
  by_cases h3 : kind = 3
  · subst h3
    have e : encP ⟨3, tag, n, A, c, b, LA, lc, ls⟩ = some (valB tag (be8 n)) := by rw [encP_mk, if_neg (by omega), if_neg h0, if_pos rfl]
    rw [e]
    have H := Lib.hid (refNumber_any tag n (w.alloc (.cells #[.int .i64 3, .int .u8 tag, .int .u64 n, .slice A b.length c, .slice LA ls.length lc] 31)) hok.n.1 hok.n.2)
    have HB := Lib.hid hb1
    clear hok hf hok1 hb1 hx e h0
    go_enter Try.func9, Try.ntmps9
    go_wp2_with fail
    refine H.out.mono ?_
    rintro e w2 ⟨v, rfl, h1, h2⟩
    go_wp2_with fail
    go_ret2
    exact ⟨_, rfl, base (by simp) h1, HB.out.trans (h2.mono (by simp))⟩
  have d3 : (kind == 3) = false := by simpa using h3
  by_cases h4 : kind = 4
  · subst h4
    have e : encP ⟨4, tag, n, A, c, b, LA, lc, ls⟩ = some (valB tag [n % 2]) := by rw [encP_mk, if_neg (by omega), if_neg h0, if_neg (by decide), if_pos rfl]
    rw [e]
    have hm : n % 2 = 1 ∨ n % 2 = 0 := by omega
    have hn0 : 0 ≤ n := hok.n.1
    have hn1 : n < 18446744073709551616 := hok.n.2
    have H := Lib.hid (refFlag_any tag (n % 2 == 1) (w.alloc (.cells #[.int .i64 4, .int .u8 tag, .int .u64 n, .slice A b.length c, .slice LA ls.length lc] 31)))
    have HE : Hid ((if (n % 2 == 1) = true then (1 : Int) else 0) = n % 2) := Lib.hid (by rcases hm with h | h <;> simp [h])
    have HB := Lib.hid hb1
    clear hok hf hok1 hb1 hx e h0 hm
    go_enter Try.func9, Try.ntmps9
    go_wp2_with fail
    refine H.out.mono ?_
    rintro e w2 ⟨v, rfl, h1, h2⟩
    go_wp2_with fail
    go_ret2
    rw [HE.out] at h1
    exact ⟨_, rfl, base (by simp) h1, HB.out.trans (h2.mono (by simp))⟩
  have d4 : (kind == 4) = false := by simpa using h4
  by_cases h5 : kind = 5
  · subst h5
    have e : encP ⟨5, tag, n, A, c, b, LA, lc, ls⟩ = some (valB tag (lb ls)) := by rw [encP_mk, if_neg (by omega), if_neg h0, if_neg (by omega), if_neg (by omega), if_pos rfl]
    rw [e]
    have HF := Lib.hid hf
    have HLs := Lib.hid hok1.l
    have hls : ls.length ≤ 30 := hf.2.1
    have HB := Lib.hid hb1
    have HX := Lib.hid hx
    have hz : (w.alloc (.cells #[.int .i64 5, .int .u8 tag, .int .u64 n, .slice A b.length c, .slice LA ls.length lc] 31)).heap.size = w.heap.size + 1 := by simp
    clear hok hf hok1 hb1 hx e h0
    go_enter Try.func9, Try.ntmps9
    go_wp2
    generalize w.alloc (.cells #[.int .i64 5, .int .u8 tag, .int .u64 n, .slice A b.length c, .slice LA ls.length lc] 31) = w1 at *
    go_loopw [4, 5] (fun v i wr => ∃ k : Nat, i = .int .i64 k ∧ k ≤ ls.length ∧ Hid (Row wr w1.heap.size v (lb (ls.take k))) ∧ Hid (Below w1.heap.size w1 wr)) (fun _ i _ => ls.length - (intOf i).toNat)
    case atStart => exact ⟨0, rfl, Nat.zero_le _, Lib.hid (World.ownsRow_nil _ _ _ _), Lib.hid (Below.refl _ _)⟩
    case round =>
      obtain ⟨k, rfl, hk, HR, HBr⟩ := hrel
      have y4 := (HX.out.on HBr.out).cell 4
      have hle := HBr.out.size
      by_cases hlt : k < ls.length
      · obtain ⟨bb, off, hLA, hbb, hc⟩ := HLs.out (by show 0 < ls.length; omega)
        subst hLA
        have ck := (HBr.out.cell (p := ⟨bb, off + k, none⟩) (show bb < w1.heap.size by omega)).trans (hc k hlt)
        have hszk := size_le hlt
        have HSN := Lib.hid (lb_snoc hlt)
        have hsum := HF.out.2.2
        have hlen := HF.out.lb k
        simp only at hsum hlen
        generalize ls.getD k ByteArray.empty = t at *
        obtain ⟨W1, c1, hcv, hrd1, hbw1⟩ := text_conv wr t
        have HV := Lib.hid (refValue_any 9 (bytesOf t) (some ⟨wr.heap.size, 0, none⟩) c1 W1 hrd1 (fun e => by cases e) (by rw [bytesOf_length]; omega))
        clear hc hrd1
        go_wp2_with (first
          | (go_at_call 23; refine HV.out.mono ?_; clear HV; rintro e w3 ⟨v3, rfl, hr3, hb3⟩; obtain ⟨A3, c3, n3, hn3, rfl, hA3, hd3⟩ := (row_k.2 hr3).rdn; have HB3 := Lib.hid (hbw1.trans (hb3.mono hbw1.size)); have HR3 := Lib.hid (row_k.2 (HR.out.below HB3.out)); have hn3' := hn3.out; subst hn3')
          | (at_builtin; refine wpList_appK kB rfl _ _ rfl (valB 9 (bytesOf t)) rfl HR3.out rfl hd3 hA3 (by rw [valB_length, bytesOf_length]; omega) (Nat.le_trans hle HB3.out.size) ?_; intro v4 w4 hrow4 hg4))
        go_roundw
        case rel =>
          refine ⟨k + 1, by go_num, by omega, Lib.hid ?_, Lib.hid ((HBr.out.trans (HB3.out.mono hle)).trans (row_below HR3.out hg4 (Nat.le_trans hle HB3.out.size)))⟩
          rw [HSN.out]
          exact row_k.1 hrow4
        case measure => simp [intOf]; omega
      · have : k = ls.length := by omega
        subst this
        have hR := HR.out
        rw [List.take_length] at hR
        obtain ⟨A3, c3, n3, hn3, rfl, hA3, hd3⟩ := (row_k.2 hR).rdn
        have hn3' := hn3.out
        subst hn3'
        have y1 := (HX.out.on HBr.out).cell 1
        have hlb := HF.out.lb'
        simp only at hlb
        have HV := Lib.hid (refValue_any tag (lb ls) A3 c3 wr (k_rd hd3) hA3 (by omega))
        have HBB := Lib.hid (HB.out.trans (HBr.out.mono (by omega)))
        clear hR hd3 HLs
        go_wp2_with fail
        refine HV.out.mono ?_
        rintro e w3 ⟨v, rfl, h1, h2⟩
        go_wp2_with fail
        go_ret2
        exact ⟨_, rfl, base (by omega) h1, HBB.out.trans (h2.mono (by omega))⟩
  · have d5 : (kind == 5) = false := by simpa using h5
    have e : encP ⟨kind, tag, n, A, c, b, LA, lc, ls⟩ = some (valB tag b) := by rw [encP_mk, if_neg (by omega), if_neg h0, if_neg h3, if_neg h4, if_neg h5]
    rw [e]
    have H := Lib.hid (refValue_any tag b A c (w.alloc (.cells #[.int .i64 kind, .int .u8 tag, .int .u64 n, .slice A b.length c, .slice LA ls.length lc] 31)) (hok1.b.more (by simp)) hok.bc (by have := hf.1; simp at this; omega))
    have HB := Lib.hid hb1
    clear hok hf hok1 hb1 hx e h0
    go_enter Try.func9, Try.ntmps9
    go_wp2_with fail
    refine H.out.mono ?_
    rintro e w2 ⟨v, rfl, h1, h2⟩
    go_wp2_with fail
    go_ret2
    exact ⟨_, rfl, base (by simp) h1, HB.out.trans (h2.mono (by simp))⟩
end Go.Proofs.Ytiakfdfpikheaaa
