/- WeighWalk: the walk. -/
import Derived.Test.YtlemiejmjdhcgaaLawW3
namespace Go.Proofs.Ytlemiejmjdhcgaa
open Go.RowKit Go.Shelf
set_option linter.unusedVariables false
set_option linter.unusedSimpArgs false
attribute [local go_sem] Oper.semAt_some

theorem eql38 (f : Fn) (c : Array Value) (W : World) : (binOp BinOp.eql 38 (Value.func f #[] c) Value.nilFunc).run Try.prog W = .ok (.bool false) W := rfl

theorem none_T (pv : TypeId → Bool) (n₀ : Nat) (ty : TypeId → Bool) (n : Nat) (Bo Bp : Nat) (w : World) (ho : Blk w Bo 47 #[.nilFunc]) :
    SeqT pv n₀ ty n 17 #[.pointer (some ⟨Bo, 0, none⟩), .pointer (some ⟨Bp, 0, none⟩)] (fun x : Wt => #[x.agg]) (fun _ _ => True) (fun ys => ys = []) (fun _ => False) 0 w := by
  intro lb J Jx W hW hlb hJ hJx hY h0
  refine (callsIn_wide.2 (walk1_none lb Bo Bp W (ho.on hW))).mono ?_
  rintro e W' ⟨hv, hb⟩
  exact ⟨hv, .inl ⟨[], rfl, hJ [] W W' none h0 (grown_of hb) (fun r e => by cases e)⟩⟩
theorem none_range {g : Operand} {ps : Array Tmp} {assign body : Code} {Q : Exit → Act → World → Prop} {a : Act} {W0 : World} (Bo Bp : Nat) (hg : a.eval g = .func (.func 17) #[] #[.pointer (some ⟨Bo, 0, none⟩), .pointer (some ⟨Bp, 0, none⟩)]) (hps : ps.size = 1)
    (ho : Blk W0 Bo 47 #[.nilFunc])
    (hassign : ∀ (lb : Nat) (x : Wt) (W : World) (K : Act → World → Prop), (∀ a, K a W) → assign.wpIn (Fence.wide.inRound lb) 3 Try.prog (Exit.then K (fun _ _ _ => False)) { tmps := (ps.zip #[x.agg]).foldl (fun t (p, v) => t.setIfInBounds p v) a.tmps, defers := [] } W)
    (hdone : ∀ (D : Nat) (W : World), W0.heap.size ≤ D → Below W0.heap.size W0 W → W.heap[D]? = some (.deferred (some [])) → Q .normal { a with defers := { target := .collected D, args := #[] } :: a.defers } W) :
    (Code.rangeFunc g ps assign body).wp Try.prog Q a W0 := by
  refine (wpIn_wide (n := 5)).1 ?_
  refine range_T (pv := fun _ => false) (n₀ := 0) (ty := fun _ => false) (by omega) (gf := 17) (lb := #[.pointer (some ⟨Bo, 0, none⟩), .pointer (some ⟨Bp, 0, none⟩)]) hg (enters_of Try.func17 (by kernel_rfl) rfl)
    (none_T _ _ _ _ Bo Bp W0 ho) (Below.refl _ _) (Nat.zero_le _) (fun _ => by rw [hps]; rfl)
    (fun _ W => Below W0.heap.size W0 W) (fun _ _ _ => False)
    (fun _ Y Z row hs hg hr => hs.grown hg hs.size (fun k e => (hr k e).1)) (fun _ _ _ _ _ hs _ _ => hs) (Below.refl _ _)
    (fun _ _ _ => True) (fun _ _ _ _ _ _ _ _ _ => trivial) ?assign ?body ?done ?stop
  case assign =>
    intro lb pre x W K hI _ hK
    exact hassign lb x W K (fun a => hK a W (KP.refl _) hI trivial)
  case body =>
    intro lb pre x a' W _ _ _ _ h
    omega
  case done =>
    rintro D ys W hD rfl hI hK
    exact hdone D W hD hI hK
  case stop =>
    intro D c pre W _ h
    exact h.elim

/-- What the law's own variables hold. -/
structure LE (w : World) (a : Nat) (sh : Bool) (lv leave : Int) (sl : Value) (j : Int) (W : World) : Prop where
  bel : Below w.heap.size w W
  b0 : Blk W w.heap.size 23 #[.bool sh, .int .i64 lv]
  b1 : Blk W (w.heap.size + 1) 24 #[sl]
  b2 : Blk W (w.heap.size + 1 + 1) 3 #[.int .i64 leave]
  b3 : Blk W (w.heap.size + 1 + 1 + 1) 4 #[.bool false]
  ba : Blk W a 3 #[.int .i64 j]
  lo : w.heap.size + 1 + 1 + 1 < a
section
variable {w W W' : World} {a : Nat} {sh : Bool} {lv leave : Int} {sl : Value} {j : Int}
theorem LE.on (h : LE w a sh lv leave sl j W) (hb : Below W.heap.size W W') : LE w a sh lv leave sl j W' :=
  ⟨h.bel.trans (hb.mono h.bel.size), h.b0.on hb, h.b1.on hb, h.b2.on hb, h.b3.on hb, h.ba.on hb, h.lo⟩
theorem LE.alloc (h : LE w a sh lv leave sl j W) (o : Obj) : LE w a sh lv leave sl j (W.alloc o) := h.on ((Below.refl _ _).alloc (Nat.le_refl _) o)
theorem LE.le (h : LE w a sh lv leave sl j W) : w.heap.size + 4 ≤ W.heap.size := by have := h.ba.lt; have := h.lo; omega
end

/-- What a turn begins with. -/
structure TE (w : World) (a B10 : Nat) (sh : Bool) (lv leave : Int) (sl : Value) (A5 : Option Addr) (c5 : Nat) (m : List Wt) (W : World) : Prop where
  le : ∃ j : Int, LE w a sh lv leave sl j W
  p : Blk W (a + 1) 23 #[.bool sh, .int .i64 lv]
  o : Blk W (a + 1 + 1) 47 #[.func (.func 14) #[] #[.pointer (some ⟨w.heap.size + 1, 0, none⟩), .pointer (some ⟨a, 0, none⟩)]]
  r : Blk W B10 27 #[.slice A5 m.length c5]
  ms : ∀ k, k < m.length → ∃ b off, A5 = some ⟨b, off, none⟩ ∧ a < b ∧ b < W.heap.size ∧ W.cell? ⟨b, off + k * 4, none⟩ = some (.int .u16 (m.getD k default).a) ∧ W.cell? ⟨b, off + k * 4 + 1, none⟩ = some (.int .u16 (m.getD k default).b) ∧ W.cell? ⟨b, off + k * 4 + 2, none⟩ = some (.int .u16 (m.getD k default).c) ∧ W.cell? ⟨b, off + k * 4 + 3, none⟩ = some (.int .u16 (m.getD k default).d)
  lo : a < B10
/-- A turn's own beginning. -/
abbrev wT (a : Nat) (W : World) : World := (W.alloc (.cells #[.int .i64 0] 3)).setCell ⟨a, 0, none⟩ (.int .i64 0)
section
variable {w W W' : World} {a B10 : Nat} {sh : Bool} {lv leave : Int} {sl : Value} {A5 : Option Addr} {c5 : Nat} {m : List Wt}
theorem wT_same {b : Nat} (hb : b < W.heap.size) (hne : b ≠ a) : (wT a W).heap[b]? = W.heap[b]? :=
  (Below.heap_setCell _ ⟨a, 0, none⟩ _ b hne).trans (Below.heap_alloc W _ b hb)
theorem wT_size : (wT a W).heap.size = W.heap.size + 1 := by simp
theorem to_same (hk : Kept W.heap.size a w.heap.size w (wT a W) W') {b : Nat} (hb : b < W.heap.size) (hne : b ≠ a) : W'.heap[b]? = W.heap[b]? := (hk.same b hb hne).trans (wT_same hb hne)
theorem to_blk (hk : Kept W.heap.size a w.heap.size w (wT a W) W') {b : Nat} {t : TypeId} {cs : Array Value} (hne : b ≠ a) (h : Blk W b t cs) : Blk W' b t cs := (to_same hk h.lt hne).trans h
theorem to_cell (hk : Kept W.heap.size a w.heap.size w (wT a W) W') {p : Addr} (hb : p.block < W.heap.size) (hne : p.block ≠ a) : W'.cell? p = W.cell? p := by
  have := to_same hk hb hne
  unfold World.cell?
  rw [this]
theorem TE.next (h : TE w a B10 sh lv leave sl A5 c5 m W) (hk : Kept W.heap.size a w.heap.size w (wT a W) W') {j : Int} (hj : Blk W' a 3 #[.int .i64 j]) : TE w a B10 sh lv leave sl A5 c5 m W' := by
  obtain ⟨j0, hle⟩ := h.le
  have hlo := hle.lo
  have hz := hk.le
  rw [wT_size] at hz
  refine ⟨⟨j, hk.bel, to_blk hk (by omega) hle.b0, to_blk hk (by omega) hle.b1, to_blk hk (by omega) hle.b2, to_blk hk (by omega) hle.b3, hj, hlo⟩, to_blk hk (by omega) h.p, to_blk hk (by omega) h.o, to_blk hk (by have := h.lo; omega) h.r, fun k hk' => ?_, h.lo⟩
  obtain ⟨b, off, e, h1, h2, h3, h4, h5, h6⟩ := h.ms k hk'
  have f : ∀ i, W'.cell? ⟨b, i, none⟩ = W.cell? ⟨b, i, none⟩ := fun i => to_cell hk h2 (by show b ≠ a; omega)
  exact ⟨b, off, e, h1, by omega, by rw [f]; exact h3, by rw [f]; exact h4, by rw [f]; exact h5, by rw [f]; exact h6⟩
theorem TE.kept0 (h : TE w a B10 sh lv leave sl A5 c5 m W) : Kept W.heap.size a w.heap.size w (wT a W) (wT a W) := by
  obtain ⟨j0, hle⟩ := h.le
  have hlo := hle.lo
  exact ⟨fun _ _ _ => rfl, (hle.bel.alloc hle.bel.size _).setCell (p := ⟨a, 0, none⟩) (by show w.heap.size ≤ a; omega) _, Nat.le_refl _⟩
theorem TE.a0 (h : TE w a B10 sh lv leave sl A5 c5 m W) : Blk (wT a W) a 3 #[.int .i64 0] := by
  obtain ⟨j0, hle⟩ := h.le
  simpa using (hle.ba.alloc (.cells #[.int .i64 0] 3)).set_ 0 (.int .i64 0)
theorem TE.n0 (h : TE w a B10 sh lv leave sl A5 c5 m W) : Blk (wT a W) W.heap.size 3 #[.int .i64 0] := by
  obtain ⟨j0, hle⟩ := h.le
  exact (Blk.new W 3 _).far (p := ⟨a, 0, none⟩) (by have := hle.ba.lt; show W.heap.size ≠ a; omega) _
end

/-- The end: three ranges' deferred calls, then the result. -/
theorem fin3 {w W2 w9 : World} {a D0 D D2 : Nat} {sh : Bool} {lv leave : Int} {sl : Value} {j : Int} (tmps : Array Value) (ht : tmps[6]? = some (.pointer (some ⟨w.heap.size + 1 + 1 + 1, 0, none⟩)))
    (hz1 : w.heap.size + 4 ≤ a) (hD0 : a + 5 ≤ D0) (h01 : D0 < D) (h12 : D < D2) (hb9 : Below W2.heap.size W2 w9) (hD2 : D2 < W2.heap.size) (hL : LE w a sh lv leave sl j W2)
    (k0 : W2.heap[D0]? = some (.deferred (some []))) (k1 : W2.heap[D]? = some (.deferred (some []))) (k2 : W2.heap[D2]? = some (.deferred (some []))) :
    bodyPostM Fence.wide 6 Try.prog Try.f4 (fun e w' => e = .returned (.bool true) ∧ Below w.heap.size w w') .ret { tmps := tmps, defers := [{ target := .collected D2, args := #[] }, { target := .collected D, args := #[] }, { target := .collected D0, args := #[] }] } (w9.setCell ⟨w.heap.size + 1 + 1 + 1, 0, none⟩ (.bool true)) := by
  have k2 := (KeepsOthers.setCell w9 ⟨w.heap.size + 1 + 1 + 1, 0, none⟩ (.bool true)).same D2 _ ((hb9.block D2 hD2).trans k2) rfl
  have k1 := (KeepsOthers.setCell w9 ⟨w.heap.size + 1 + 1 + 1, 0, none⟩ (.bool true)).same D _ ((hb9.block D (by omega)).trans k1) rfl
  have k0 := (KeepsOthers.setCell w9 ⟨w.heap.size + 1 + 1 + 1, 0, none⟩ (.bool true)).same D0 _ ((hb9.block D0 (by omega)).trans k0) rfl
  have hr : Blk (w9.setCell ⟨w.heap.size + 1 + 1 + 1, 0, none⟩ (.bool true)) (w.heap.size + 1 + 1 + 1) 4 #[.bool true] := by simpa using (hL.b3.on hb9).set_ 0 (.bool true)
  have hB : Below w.heap.size w (w9.setCell ⟨w.heap.size + 1 + 1 + 1, 0, none⟩ (.bool true)) := (hL.bel.trans (hb9.mono hL.bel.size)).setCell (p := ⟨w.heap.size + 1 + 1 + 1, 0, none⟩) (by show w.heap.size ≤ w.heap.size + 1 + 1 + 1; omega) _
  generalize w9.setCell ⟨w.heap.size + 1 + 1 + 1, 0, none⟩ (.bool true) = wf at *
  have put : ∀ {W : World} {b D' : Nat}, b ≠ D' → (W.putObj D' (.deferred none)).heap[b]? = W.heap[b]? := fun h => World.putObj_heap_other h
  have k1' := (put (W := wf) (b := D) (D' := D2) (by omega)).trans k1
  have k0' := (put (W := wf.putObj D2 (.deferred none)) (b := D0) (D' := D) (by omega)).trans ((put (W := wf) (b := D0) (D' := D2) (by omega)).trans k0)
  refine ⟨by simp, .inl ⟨_, _, rfl, run_takeDeferred k2, ?_⟩⟩
  refine ⟨by simp, .inl ⟨_, _, rfl, run_takeDeferred k1', ?_⟩⟩
  refine ⟨by simp, .inl ⟨_, _, rfl, run_takeDeferred k0', ?_⟩⟩
  have hb : ∀ {W : World} {D' : Nat}, D' ≠ w.heap.size + 1 + 1 + 1 → Blk W (w.heap.size + 1 + 1 + 1) 4 #[.bool true] → Blk (W.putObj D' (.deferred none)) (w.heap.size + 1 + 1 + 1) 4 #[.bool true] := fun h1 h2 => (World.putObj_heap_other (fun e => h1 e.symm)).trans h2
  have hc5 := (hb (D' := D0) (by omega) (hb (D' := D) (by omega) (hb (D' := D2) (by omega) hr))).cell 0
  have hp : ∀ {W : World} {D' : Nat}, w.heap.size ≤ D' → Below w.heap.size w W → Below w.heap.size w (W.putObj D' (.deferred none)) := fun h1 h2 => h2.grown (grownBy_putObj' _ _ _) h2.size (fun k e => by cases e; exact h1)
  refine ⟨.bool true, ?_, rfl, hp (by omega) (hp (by omega) (hp (by omega) hB))⟩
  simp [results, Try.f4, go_sem, hc5, ht]

set_option maxHeartbeats 16000000 in
set_option maxRecDepth 100000 in
theorem weighWalk_in (A : Option Addr) (c : Nat) (l : List El) (sh : Bool) (lv leave : Int) (w : World) (hr : RdK kE w w.heap.size A l) (hs : soundL l = true) :
    Calls Try.prog 4 #[.agg #[.bool sh, .int .i64 lv], .slice A l.length c, .int .i64 leave] w fun e w' => e = .returned (.bool true) ∧ Below w.heap.size w w' := by
  have hsl : l.all soundE = true ∧ l.length ≤ 200 := by
    unfold soundL at hs
    rw [Bool.and_eq_true, decide_eq_true_eq] at hs
    exact hs
  obtain ⟨hall, hl⟩ := hsl
  have hB0 : Below w.heap.size w (wV w sh lv leave A l.length c) := ((((Below.refl _ w).alloc (Nat.le_refl _) _).alloc (by simp) _).alloc (by simp; omega) _).alloc (by simp; omega) _
  have b0 : Blk (wV w sh lv leave A l.length c) w.heap.size 23 #[.bool sh, .int .i64 lv] := (((Blk.new w 23 _).alloc _).alloc _).alloc _
  have b1 : Blk (wV w sh lv leave A l.length c) (w.heap.size + 1) 24 #[.slice A l.length c] := by
    have := (((Blk.new (w.alloc (.cells #[.bool sh, .int .i64 lv] 23)) 24 #[.slice A l.length c]).alloc (.cells #[.int .i64 leave] 3)).alloc (.cells #[.bool false] 4))
    simpa only [World.size_alloc] using this
  have b2 : Blk (wV w sh lv leave A l.length c) (w.heap.size + 1 + 1) 3 #[.int .i64 leave] := by
    have := (Blk.new ((w.alloc (.cells #[.bool sh, .int .i64 lv] 23)).alloc (.cells #[.slice A l.length c] 24)) 3 #[.int .i64 leave]).alloc (.cells #[.bool false] 4)
    simpa only [World.size_alloc] using this
  have b3 : Blk (wV w sh lv leave A l.length c) (w.heap.size + 1 + 1 + 1) 4 #[.bool false] := by
    have := Blk.new (((w.alloc (.cells #[.bool sh, .int .i64 lv] 23)).alloc (.cells #[.slice A l.length c] 24)).alloc (.cells #[.int .i64 leave] 3)) 4 #[.bool false]
    simpa only [World.size_alloc] using this
  have h := sound_any A c l (wV w sh lv leave A l.length c) ((hr.on hB0)) (by unfold maxLen; omega)
  rw [hs] at h
  have hz0 : (wV w sh lv leave A l.length c).heap.size = w.heap.size + 4 := by simp
  have HS := Lib.hid h
  have H := Lib.hid (And.intro hB0 (And.intro b0 (And.intro b1 (And.intro b2 b3))))
  have HALL := Lib.hid hall
  have HR := Lib.hid hr
  clear h hB0 b0 b1 b2 b3 hall hs hr
  refine (callsIn_wide (n := 6)).1 ?_
  refine callsIn_of_wp_marks Try.func4 rfl trivial ?_ rfl
  refine wpIn_wide.2 ?_
  simp only [Try.ntmps4, List.size_toArray, List.length_cons, List.length_nil, Nat.reduceAdd, Nat.reduceSub, Array.replicate_succ, Array.replicate_zero, List.push_toArray, List.append_toArray, List.nil_append, List.cons_append]
  generalize hQ : bodyPostM _ _ _ _ _ = Q'
  have HQ := Lib.hid hQ
  clear hQ
  go_wp2_with fail
  refine HS.out.mono ?_
  clear HS
  rintro e w1 ⟨rfl, hb1⟩
  have hz1 := hb1.size
  rw [hz0] at hz1
  obtain ⟨hB0, b0, b1, b2, b3⟩ := H.out
  have H1 := Lib.hid (And.intro (hB0.trans (hb1.mono (by omega)) : Below w.heap.size w w1) (And.intro (b0.on hb1) (And.intro (b1.on hb1) (And.intro (b2.on hb1) (b3.on hb1)))))
  clear H hb1 hB0 b0 b1 b2 b3
  generalize wV w sh lv leave A l.length c = w0 at *
  have hLE : LE w w1.heap.size sh lv leave (.slice A l.length c) 0 (w1.alloc (.cells #[.int .i64 0] 3)) := by
    obtain ⟨hB, b0, b1, b2, b3⟩ := H1.out
    exact ⟨hB.alloc (by omega) _, b0.alloc _, b1.alloc _, b2.alloc _, b3.alloc _, Blk.new w1 3 #[.int .i64 0], by omega⟩
  have c0 := hLE.b0.cell 0
  have c1 := hLE.b0.cell 1
  have HL := Lib.hid hLE
  have hzA : (w1.alloc (.cells #[.int .i64 0] 3)).heap.size = w1.heap.size + 1 := by simp
  clear hLE H1
  go_wp2_with fail
  refine (walk_any sh lv _ _ _ _).mono ?_
  rintro e w2 ⟨rfl, rfl⟩
  rw [hzA]
  have HL2 := Lib.hid ((HL.out.alloc (.cells #[.bool sh, .int .i64 lv] 23)).alloc (.cells #[.func (.func 14) #[] #[.pointer (some ⟨w.heap.size + 1, 0, none⟩), .pointer (some ⟨w1.heap.size, 0, none⟩)]] 47))
  have HP2 := Lib.hid ((Blk.new (w1.alloc (.cells #[.int .i64 0] 3)) 23 #[.bool sh, .int .i64 lv]).alloc (.cells #[.func (.func 14) #[] #[.pointer (some ⟨w.heap.size + 1, 0, none⟩), .pointer (some ⟨w1.heap.size, 0, none⟩)]] 47))
  have HO2 := Lib.hid (Blk.new ((w1.alloc (.cells #[.int .i64 0] 3)).alloc (.cells #[.bool sh, .int .i64 lv] 23)) 47 #[.func (.func 14) #[] #[.pointer (some ⟨w.heap.size + 1, 0, none⟩), .pointer (some ⟨w1.heap.size, 0, none⟩)]])
  have hz2 : (((w1.alloc (.cells #[.int .i64 0] 3)).alloc (.cells #[.bool sh, .int .i64 lv] 23)).alloc (.cells #[.func (.func 14) #[] #[.pointer (some ⟨w.heap.size + 1, 0, none⟩), .pointer (some ⟨w1.heap.size, 0, none⟩)]] 47)).heap.size = w1.heap.size + 3 := by simp
  simp only [World.size_alloc] at HP2 HO2
  clear HL c0 c1 hzA
  generalize (((w1.alloc (.cells #[.int .i64 0] 3)).alloc (.cells #[.bool sh, .int .i64 lv] 23)).alloc (.cells #[.func (.func 14) #[] #[.pointer (some ⟨w.heap.size + 1, 0, none⟩), .pointer (some ⟨w1.heap.size, 0, none⟩)]] 47)) = w2 at *
  have c0 := HL2.out.b0.cell 0
  have c1 := HL2.out.b0.cell 1
  go_wp2_with fail
  refine (walk_none sh lv _).mono ?_
  rintro e w3 ⟨rfl, rfl⟩
  have HL3 := Lib.hid ((HL2.out.alloc (.cells #[.bool sh, .int .i64 lv] 23)).alloc (.cells #[.nilFunc] 47))
  have HP3 := Lib.hid ((HP2.out.alloc (.cells #[.bool sh, .int .i64 lv] 23)).alloc (.cells #[.nilFunc] 47))
  have HO3 := Lib.hid ((HO2.out.alloc (.cells #[.bool sh, .int .i64 lv] 23)).alloc (.cells #[.nilFunc] 47))
  have HN3 := Lib.hid (Blk.new (w2.alloc (.cells #[.bool sh, .int .i64 lv] 23)) 47 #[.nilFunc])
  have hz3 : ((w2.alloc (.cells #[.bool sh, .int .i64 lv] 23)).alloc (.cells #[.nilFunc] 47)).heap.size = w1.heap.size + 5 := by simp; omega
  rw [hz2]
  simp only [World.size_alloc, hz2] at HN3
  clear HL2 HP2 HO2 c0 c1
  generalize (w2.alloc (.cells #[.bool sh, .int .i64 lv] 23)).alloc (.cells #[.nilFunc] 47) = w3 at *
  have e1 := eql38 (.func 17) #[.pointer (some ⟨w1.heap.size + 1 + 1, 0, none⟩), .pointer (some ⟨w1.heap.size + 1, 0, none⟩)]
  have e2 := eql38 (.func 17) #[.pointer (some ⟨w1.heap.size + 3 + 1, 0, none⟩), .pointer (some ⟨w1.heap.size + 3, 0, none⟩)]
  go_wp2_with fail
  refine none_range (w1.heap.size + 3 + 1) (w1.heap.size + 3) rfl rfl HN3.out (fun lb x W K hK => by gi_wp2; exact hK _) ?_
  intro D0 w4 hD0 hb4 hK0
  have HL4 := Lib.hid (HL3.out.on hb4)
  have HP4 := Lib.hid (HP3.out.on hb4)
  have HO4 := Lib.hid (HO3.out.on hb4)
  have HK4 := Lib.hid hK0
  have hz4 := hb4.size
  have hD4 : D0 < w4.heap.size := (Array.getElem?_eq_some_iff.1 hK0).1
  rw [hz3] at hz4 hD0
  clear HL3 HP3 HO3 HN3 hb4 hK0 e1 e2 hz3 hz2 w2 w0 hz0
  have c0 := HL4.out.b0.cell 0
  have c1 := HL4.out.b0.cell 1
  have c4 := HL4.out.b1.cell 0
  have HRF := Lib.hid (refOf_any A c l sh lv w4 ((HR.out.below HL4.out.bel).more HL4.out.bel.size) (by omega) HALL.out)
  go_wp2_with fail
  refine HRF.out.mono ?_
  clear HRF
  rintro e w5 ⟨v5, rfl, hrow5, hb5⟩
  have hml5 : (weighL sh lv l).length ≤ 200 := Nat.le_trans (weighL_length sh lv l) hl
  generalize hm : weighL sh lv l = m at *
  obtain ⟨A5, c5, n5, hn5, rfl, _, hrd5⟩ := hrow5.rdn
  have hn5' := hn5.out
  subst hn5'
  have HM : Hid (∀ k, k < m.length → ∃ b off, A5 = some ⟨b, off, none⟩ ∧ w4.heap.size ≤ b ∧ b < w5.heap.size ∧ w5.cell? ⟨b, off + k * 4, none⟩ = some (.int .u16 (m.getD k default).a) ∧ w5.cell? ⟨b, off + k * 4 + 1, none⟩ = some (.int .u16 (m.getD k default).b) ∧ w5.cell? ⟨b, off + k * 4 + 2, none⟩ = some (.int .u16 (m.getD k default).c) ∧ w5.cell? ⟨b, off + k * 4 + 3, none⟩ = some (.int .u16 (m.getD k default).d)) := Lib.hid fun k hk => by
    obtain ⟨b, off, rfl, h2, h3, h4, h5, h6⟩ := wt_cells hrd5 (Below.refl _ _) hk
    exact ⟨b, off, rfl, (World.ownsRow.lt hrow5 b rfl).1, h2, h3, h4, h5, h6⟩
  have hz5 := hb5.size
  have H5 := Lib.hid (And.intro (HL4.out.on hb5) (And.intro (HP4.out.on hb5) (And.intro (HO4.out.on hb5) ((hb5.block D0 hD4).trans HK4.out))))
  clear HL4 HP4 HO4 HK4 hrow5 hb5 hrd5 c0 c1 c4 hn5
  have HWM := Lib.hid hm.symm
  clear hm HALL
  have hT : TE w w1.heap.size w5.heap.size sh lv leave (.slice A l.length c) A5 c5 m (w5.alloc (.cells #[.slice A5 m.length c5] 27)) :=
    ⟨⟨0, H5.out.1.alloc _⟩, H5.out.2.1.alloc _, H5.out.2.2.1.alloc _, Blk.new w5 27 _, fun k hk => by
      obtain ⟨b, off, e, h1, h2, h3, h4, h5, h6⟩ := HM.out k hk
      have f : ∀ i, (w5.alloc (.cells #[.slice A5 m.length c5] 27)).cell? ⟨b, i, none⟩ = w5.cell? ⟨b, i, none⟩ := fun i => by
        have := Below.heap_alloc w5 (.cells #[.slice A5 m.length c5] 27) b h2
        unfold World.cell?
        rw [this]
      exact ⟨b, off, e, by omega, by simp; omega, by rw [f]; exact h3, by rw [f]; exact h4, by rw [f]; exact h5, by rw [f]; exact h6⟩, by omega⟩
  have hK6 := (Below.heap_alloc w5 (.cells #[.slice A5 m.length c5] 27) D0 (by omega)).trans H5.out.2.2.2
  have HT := Lib.hid hT
  have HK6 := Lib.hid hK6
  clear H5 HM hT hK6
  go_wp2_with fail
  generalize w5.alloc (.cells #[.slice A5 m.length c5] 27) = W6 at *
  generalize w5.heap.size = B10 at *
  generalize w1.heap.size = a at *
  have hD6 : D0 < W6.heap.size := (Array.getElem?_eq_some_iff.1 HK6.out).1
  refine wp_loop_rounds 3 ?_
  rw [rounds_succ]
  obtain ⟨j0, hle0⟩ := HT.out.le
  have ca := (hle0.ba.alloc (.cells #[.int .i64 0] 3)).cell 0
  have fa := (hle0.ba.alloc (.cells #[.int .i64 0] 3)).frozen 0
  have hlo := hle0.lo
  clear hle0
  go_wp2_with fail
  clear ca fa
  refine turn_range (X := .exit 4) ?FT W6.heap.size a w.heap.size (a + 1 + 1) (a + 1) (w.heap.size + 1) B10 sh lv leave A c l A5 c5 m HWM.out (by omega) (by omega) rfl rfl
    (to_blk HT.out.kept0 (by omega) HT.out.o) (to_blk HT.out.kept0 (by omega) HT.out.p) (HT.out.next HT.out.kept0 HT.out.a0).le.choose_spec.b1 HT.out.a0 (by omega) (by omega) (by omega) (by omega) (HR.out.below HT.out.kept0.bel) (by omega) wT_size HT.out.n0 HT.out.kept0.bel
    ?hassign ?hbody (fun act W h => wpIn_exit h) ?hnext
  case hassign =>
    intro lb x W Bn K hBn hK
    gi_wp2
    rw [← hBn]
    exact hK
  case hbody =>
    intro lb x W Bx k R hk hkm hget hbx hca hbn hR1 hR2
    obtain ⟨j1, hle⟩ := HT.out.le
    have c10 := (to_blk hk (by have := HT.out.lo; omega) HT.out.r).cell 0
    have c5' := (to_blk hk (by omega) hle.b2).cell 0
    have x0 := hbx.cell 0
    have x1 := hbx.cell 1
    have x2 := hbx.cell 2
    have x3 := hbx.cell 3
    have cn := hbn.cell 0
    have fn := hbn.frozen 0
    obtain ⟨b, off, rfl, hab, hbW, y0, y1, y2, y3⟩ := HT.out.ms k hkm
    rw [hget] at y0 y1 y2 y3
    have z0 := (to_cell hk (p := ⟨b, off + k * 4, none⟩) hbW (by show b ≠ a; omega)).trans y0
    have z1 := (to_cell hk (p := ⟨b, off + k * 4 + 1, none⟩) hbW (by show b ≠ a; omega)).trans y1
    have z2 := (to_cell hk (p := ⟨b, off + k * 4 + 2, none⟩) hbW (by show b ≠ a; omega)).trans y2
    have z3 := (to_cell hk (p := ⟨b, off + k * 4 + 3, none⟩) hbW (by show b ≠ a; omega)).trans y3
    have hn : ∀ W, (binOp BinOp.neq 31 x.agg x.agg).run Try.prog W = .ok (.bool false) W := fun W => by rw [neq31]; simp
    have hge : decide (m.length ≤ k) = false := by simp; omega
    clear hle hbx hbn y0 y1 y2 y3 hk
    gi_wp2
    refine quiet_round lb rfl (by kernel_rfl) (by kernel_rfl) (by kernel_rfl) ?_
    repeat (gi_big_quiet_step (fail))
    refine wpQuietIn_nil ?_
    intro _ hw'
    obtain ⟨nq, hw''⟩ := hw'
    subst hw''
    clear hn hge z0 z1 z2 z3 x0 x1 x2 x3
    by_cases hlv : (k : Int) + 1 = leave
    · have hR := hR2 nq 4 hlv rfl
      have hd : ((k : Int) + 1 == leave) = true := by simpa using hlv
      have hd' : decide ((k : Int) + 1 = leave) = true := by simpa using hlv
      clear hR1 hR2 hlv
      gi_wp2
      exact hR
    · have hR := hR1 nq hlv
      have hd : ((k : Int) + 1 == leave) = false := by simpa using hlv
      have hd' : decide ((k : Int) + 1 = leave) = false := by simpa using hlv
      clear hR1 hR2 hlv
      gi_wp2
      exact hR
  case hnext =>
    rename_i hKc
    intro D k j W hD hk hbn hba hcond hKD
    refine hKc _ _ ?_
    clear hKc
    have cn := hbn.cell 0
    have cj := hba.cell 0
    obtain ⟨j1, hle⟩ := HT.out.le
    have c10 := (to_blk hk (by have := HT.out.lo; omega) HT.out.r).cell 0
    have c5' := (to_blk hk (by omega) hle.b2).cell 0
    have HTn := Lib.hid (HT.out.next hk hba)
    have HK6n := Lib.hid ((to_same hk (b := D0) hD6 (by omega)).trans HK6.out)
    have HKD := Lib.hid hKD
    have hDW : D < W.heap.size := (Array.getElem?_eq_some_iff.1 hKD).1
    have hkW : W6.heap.size + 1 ≤ W.heap.size := by have := hk.le; rw [wT_size] at this; exact this
    clear hle hk hbn hba hKD HT HK6
    have hcase : (m.length : Int) ≠ leave ∧ k = m.length ∨ (k = 0 ∧ leave = 0 ∧ m.length = 0) ∨ ((k : Int) = leave ∧ j = k ∧ k ≠ m.length ∧ k = 0) ∨ ((k : Int) = leave ∧ j = k ∧ k ≠ m.length ∧ 0 < k) ∨ ((k : Int) = leave ∧ j = k ∧ k = m.length ∧ 0 < k) := by omega
    clear hcond
    rcases hcase with ⟨h1, rfl⟩ | ⟨rfl, h1, h2⟩ | ⟨h1, rfl, h2, rfl⟩ | ⟨h1, rfl, h2, h3⟩ | ⟨h1, rfl, rfl, h3⟩
    all_goals first
      | (have hd : ((m.length : Int) == leave) = false := by simpa using h1
         have hd' : decide ((m.length : Int) = leave) = false := by simpa using h1
         clear h1
         go_wp2_with fail
         all_goals clear cn cj c10 c5' hd hd')
      | (have hd' : decide ((0 : Int) = (m.length : Int)) = true := by simp [h2]
         have hd2 : decide ((0 : Int) = leave) = true := by simp [h1]
         go_wp2_with fail
         all_goals clear cn cj c10 c5' hd2 hd' h1 h2)
      | (have hd' : decide (((0 : Nat) : Int) = (m.length : Int)) = false := by simp; omega
         go_wp2_with fail
         all_goals clear cn cj c10 c5' hd' h1 h2)
      | (have hd' : decide ((k : Int) = (m.length : Int)) = false := by simp; omega
         go_wp2_with fail
         all_goals clear cn cj c10 c5' hd' h1 h2 h3)
      | (go_wp2_with fail
         all_goals clear cn cj c10 c5' h1 h3)
    all_goals
      rw [rounds_succ]
      obtain ⟨j0, hle0⟩ := HTn.out.le
      have ca := (hle0.ba.alloc (.cells #[.int .i64 0] 3)).cell 0
      have fa := (hle0.ba.alloc (.cells #[.int .i64 0] 3)).frozen 0
      have hlo := hle0.lo
      clear hle0
      go_wp2_with fail
      clear ca fa
      refine turn_range (X := .exit 4) ?_ W.heap.size a w.heap.size (a + 1 + 1) (a + 1) (w.heap.size + 1) B10 sh lv leave A c l A5 c5 m HWM.out (by omega) (by omega) rfl rfl
        (to_blk HTn.out.kept0 (by omega) HTn.out.o) (to_blk HTn.out.kept0 (by omega) HTn.out.p) (HTn.out.next HTn.out.kept0 HTn.out.a0).le.choose_spec.b1 HTn.out.a0 (by omega) (by omega) (by omega) (by omega) (HR.out.below HTn.out.kept0.bel) (by omega) wT_size HTn.out.n0 HTn.out.kept0.bel
        ?hassign ?hbody (fun act W h => wpIn_exit h) ?hnext
      case hassign =>
        intro lb x Wx Bn K hBn hK
        gi_wp2
        rw [← hBn]
        exact hK
      case hbody =>
        intro lb x Wx Bx k9 R hk hkm hget hbx hca hbn hR1 hR2
        obtain ⟨j1, hle⟩ := HTn.out.le
        have c10 := (to_blk hk (by have := HTn.out.lo; omega) HTn.out.r).cell 0
        have c5' := (to_blk hk (by omega) hle.b2).cell 0
        have x0 := hbx.cell 0
        have x1 := hbx.cell 1
        have x2 := hbx.cell 2
        have x3 := hbx.cell 3
        have cn := hbn.cell 0
        have fn := hbn.frozen 0
        obtain ⟨b, off, rfl, hab, hbW, y0, y1, y2, y3⟩ := HTn.out.ms k9 hkm
        rw [hget] at y0 y1 y2 y3
        have z0 := (to_cell hk (p := ⟨b, off + k9 * 4, none⟩) hbW (by show b ≠ a; omega)).trans y0
        have z1 := (to_cell hk (p := ⟨b, off + k9 * 4 + 1, none⟩) hbW (by show b ≠ a; omega)).trans y1
        have z2 := (to_cell hk (p := ⟨b, off + k9 * 4 + 2, none⟩) hbW (by show b ≠ a; omega)).trans y2
        have z3 := (to_cell hk (p := ⟨b, off + k9 * 4 + 3, none⟩) hbW (by show b ≠ a; omega)).trans y3
        have hn : ∀ W, (binOp BinOp.neq 31 x.agg x.agg).run Try.prog W = .ok (.bool false) W := fun W => by rw [neq31]; simp
        have hge : decide (m.length ≤ k9) = false := by simp; omega
        clear hle hbx hbn y0 y1 y2 y3 hk
        gi_wp2
        refine quiet_round lb rfl (by kernel_rfl) (by kernel_rfl) (by kernel_rfl) ?_
        repeat (gi_big_quiet_step (fail))
        refine wpQuietIn_nil ?_
        intro _ hw'
        obtain ⟨nq, hw''⟩ := hw'
        subst hw''
        clear hn hge z0 z1 z2 z3 x0 x1 x2 x3
        by_cases hlv : (k9 : Int) + 1 = leave
        · have hR := hR2 nq 4 hlv rfl
          have hd : ((k9 : Int) + 1 == leave) = true := by simpa using hlv
          have hd' : decide ((k9 : Int) + 1 = leave) = true := by simpa using hlv
          clear hR1 hR2 hlv
          gi_wp2
          exact hR
        · have hR := hR1 nq hlv
          have hd : ((k9 : Int) + 1 == leave) = false := by simpa using hlv
          have hd' : decide ((k9 : Int) + 1 = leave) = false := by simpa using hlv
          clear hR1 hR2 hlv
          gi_wp2
          exact hR
      case hnext =>
        rename_i hKc
        intro D2 k2 j2 W2 hD2 hk hbn hba hcond hKD2
        refine hKc _ _ ?_
        clear hKc
        have cn := hbn.cell 0
        have cj := hba.cell 0
        obtain ⟨j1, hle⟩ := HTn.out.le
        have c10 := (to_blk hk (by have := HTn.out.lo; omega) HTn.out.r).cell 0
        have c5' := (to_blk hk (by omega) hle.b2).cell 0
        have HTm := Lib.hid (HTn.out.next hk hba)
        have HK6m := Lib.hid ((to_same hk (b := D0) (by omega) (by omega)).trans HK6n.out)
        have HKDm := Lib.hid ((to_same hk (b := D) hDW (by omega)).trans HKD.out)
        have HKD2 := Lib.hid hKD2
        have hDW2 : D2 < W2.heap.size := (Array.getElem?_eq_some_iff.1 hKD2).1
        have hkW2 : W.heap.size + 1 ≤ W2.heap.size := by have := hk.le; rw [wT_size] at this; exact this
        clear hle hk hbn hba hKD2 HTn HK6n HKD
        have hcase : (m.length : Int) ≠ leave ∧ k2 = m.length ∨ (k2 = 0 ∧ leave = 0 ∧ m.length = 0) ∨ ((k2 : Int) = leave ∧ j2 = k2 ∧ k2 ≠ m.length ∧ k2 = 0) ∨ ((k2 : Int) = leave ∧ j2 = k2 ∧ k2 ≠ m.length ∧ 0 < k2) ∨ ((k2 : Int) = leave ∧ j2 = k2 ∧ k2 = m.length ∧ 0 < k2) := by omega
        clear hcond
        rcases hcase with ⟨h1, rfl⟩ | ⟨rfl, h1, h2⟩ | ⟨h1, rfl, h2, rfl⟩ | ⟨h1, rfl, h2, h3⟩ | ⟨h1, rfl, rfl, h3⟩
        all_goals first
          | (have hd : ((m.length : Int) == leave) = false := by simpa using h1
             have hd' : decide ((m.length : Int) = leave) = false := by simpa using h1
             clear h1
             go_wp2_with fail
             all_goals clear cn cj c10 c5' hd hd')
          | (have hd' : decide ((0 : Int) = (m.length : Int)) = true := by simp [h2]
             have hd2 : decide ((0 : Int) = leave) = true := by simp [h1]
             go_wp2_with fail
             all_goals clear cn cj c10 c5' hd2 hd' h1 h2)
          | (have hd' : decide (((0 : Nat) : Int) = (m.length : Int)) = false := by simp; omega
             go_wp2_with fail
             all_goals clear cn cj c10 c5' hd' h1 h2)
          | (have hd' : decide ((k2 : Int) = (m.length : Int)) = false := by simp; omega
             go_wp2_with fail
             all_goals clear cn cj c10 c5' hd' h1 h2 h3)
          | (go_wp2_with fail
             all_goals clear cn cj c10 c5' h1 h3)
        all_goals
          rw [rounds_succ]
          obtain ⟨j1, hle⟩ := HTm.out.le
          have HL := Lib.hid hle
          clear hle
          go_wp2_with fail
          refine (known_any _).mono ?_
          rintro e w9 ⟨rfl, hb9⟩
          have c3 := (HL.out.b3.on hb9).cell 0
          have f3 := (HL.out.b3.on hb9).frozen 0
          go_wp2_with fail
          rw [← HQ.out]
          exact fin3 _ rfl hz1 hD0 (by omega) (by omega) hb9 hDW2 HL.out HK6m.out HKDm.out HKD2.out
end Go.Proofs.Ytlemiejmjdhcgaa
