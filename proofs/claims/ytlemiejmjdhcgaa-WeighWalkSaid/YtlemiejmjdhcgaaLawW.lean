/- WeighWalk: the walk. -/
import Derived.Test.YtlemiejmjdhcgaaAsk
import Derived.Test.YtlemiejmjdhcgaaKnown
import Derived.Test.YtlemiejmjdhcgaaRound
namespace Go.Proofs.Ytlemiejmjdhcgaa
open Go.RowKit Go.Shelf
set_option linter.unusedVariables false
set_option linter.unusedSimpArgs false
attribute [local go_sem] Oper.semAt_some

theorem walk_none (sh : Bool) (lv : Int) (w : World) : Calls Try.prog 13 #[.agg #[.bool sh, .int .i64 lv], .nilFunc] w fun e w' =>
    e = .returned (.func (.func 17) #[] #[.pointer (some ⟨w.heap.size + 1, 0, none⟩), .pointer (some ⟨w.heap.size, 0, none⟩)]) ∧ w' = (w.alloc (.cells #[.bool sh, .int .i64 lv] 23)).alloc (.cells #[.nilFunc] 47) := by
  go_enter Try.func13, Try.ntmps13
  go_wp2
  go_ret
  exact ⟨rfl, rfl⟩
theorem walk1_none (lb Bo Bp : Nat) (W : World) (ho : Blk W Bo 47 #[.nilFunc]) :
    Calls Try.prog 17 #[.func (.yield lb) #[] #[], .pointer (some ⟨Bo, 0, none⟩), .pointer (some ⟨Bp, 0, none⟩)] W fun e W' => (∃ v, e = .returned v) ∧ Below W.heap.size W W' := by
  have hb0 : Below W.heap.size W (W.alloc (.cells #[.func (.yield lb) #[] #[]] 49)) := (Below.refl _ _).alloc (Nat.le_refl _) _
  have co := (ho.alloc (.cells #[.func (.yield lb) #[] #[]] 49)).cell 0
  have hnf : ∀ W, (binOp BinOp.eql 47 Value.nilFunc Value.nilFunc).run Try.prog W = .ok (.bool true) W := fun W => rfl
  go_enter Try.func17, Try.ntmps17
  go_wp2_with fail
  refine bodyPost_ret (results_none rfl _ _ _) rfl ?_
  exact ⟨⟨_, rfl⟩, hb0⟩
theorem none_A (pv : TypeId → Bool) (a₀ n₀ : Nat) (ty : TypeId → Bool) (n : Nat) (G : List Wt → Wt → World → Prop) (Bo Bp : Nat) (w : World) (ho : Blk w Bo 47 #[.nilFunc]) :
    SeqA pv a₀ n₀ ty n 17 #[.pointer (some ⟨Bo, 0, none⟩), .pointer (some ⟨Bp, 0, none⟩)] (fun x : Wt => #[x.agg]) G (fun ys => ys = []) (fun _ => False) w := by
  intro lb J Jx W hW hlb hJ hJx hY h0
  refine (callsIn_wide.2 (walk1_none lb Bo Bp W (ho.on hW))).mono ?_
  rintro e W' ⟨hv, hb⟩
  exact ⟨hv, .inl ⟨[], rfl, hJ.1 [] W W' none h0 (grown_of hb) (fun r e => by cases e)⟩⟩

/-- THE CONTRACT of Walk's function over the law's own. -/
theorem walk_A (n₀ : Nat) (sh : Bool) (lv : Int) (A : Option Addr) (c : Nat) (l : List El) (h1 : l.length ≤ 1000000) (Bo Bp Bl a₀ base : Nat) (w : World) (ho : Blk w Bo 47 #[.func (.func 14) #[] #[.pointer (some ⟨Bl, 0, none⟩), .pointer (some ⟨a₀, 0, none⟩)]]) (hp : Blk w Bp 23 #[.bool sh, .int .i64 lv])
    (hl : Blk w Bl 24 #[.slice A l.length c]) (ha : Blk w a₀ 3 #[.int .i64 0]) (hBl : Bl < n₀) (han : a₀ < n₀) (hne : Bl ≠ a₀) (hpa : a₀ ≠ Bp) (hm : RdK kE w base A l) (hba : base ≤ a₀) (hn0 : n₀ ≤ w.heap.size) :
    SeqA pvW a₀ n₀ tyW 4 17 #[.pointer (some ⟨Bo, 0, none⟩), .pointer (some ⟨Bp, 0, none⟩)] (fun x : Wt => #[x.agg]) (fun pre _ W => Blk W a₀ 3 #[.int .i64 ((pre.length : Int) + 1)]) (fun ys => ys = weighL sh lv l) (fun pre => ∃ rest, weighL sh lv l = pre ++ rest) w := by
  intro lb J Jx W hW hlb hJ hJx hY h0
  have hnW : n₀ ≤ W.heap.size := Nat.le_trans hn0 hW.size
  by_cases hmay : mayB lv = true
  · have e : weighL sh lv l = ofE sh false l := by unfold weighL; rw [if_pos hmay]
    rw [e] at hY ⊢
    refine (walk1_A a₀ sh lv l 4 (by omega) lb Bo Bp 14 n₀ han hpa #[.pointer (some ⟨Bl, 0, none⟩), .pointer (some ⟨a₀, 0, none⟩)] J Jx W (enters_of Try.func14 (by kernel_rfl) rfl)
      (fun W1 hW1 => ask_A noT n₀ noT A c l h1 3 (by omega) Bl a₀ base W1 ((hl.on hW).on hW1) ((ha.on hW).on hW1) hBl han hne ((hm.below (hW.mono (by omega))).below (hW1.mono (by omega))) hba (Nat.le_trans hnW hW1.size))
      hY hJ hJx (ho.on hW) (hp.on hW) hmay h0 hnW hlb)
  · have hmay' : mayB lv = false := by simpa using hmay
    have e : weighL sh lv l = [] := by unfold weighL; rw [if_neg hmay]
    rw [e]
    refine (callsIn_wide.2 (walk1_off sh lv lb Bo Bp 14 _ W (ho.on hW) (hp.on hW) hmay')).mono ?_
    rintro e W' ⟨hv, hb⟩
    exact ⟨hv, .inl ⟨[], rfl, hJ.1 [] W W' none h0 (grown_of hb) (fun r e => by cases e)⟩⟩

/-- What a turn keeps of the world ahead of it: all below N but one; all ahead of B is as at first. -/
structure Kept (N a₀ B : Nat) (w W0 W : World) : Prop where
  same : ∀ b, b < N → b ≠ a₀ → W.heap[b]? = W0.heap[b]?
  bel : Below B w W
  le : W0.heap.size ≤ W.heap.size
section
variable {N a₀ B : Nat} {w W0 W : World}
theorem Kept.cell (h : Kept N a₀ B w W0 W) {p : Addr} (hb : p.block < N) (hne : p.block ≠ a₀) : W.cell? p = W0.cell? p := by
  have := h.same p.block hb hne
  unfold World.cell?
  rw [this]
theorem Kept.blk (h : Kept N a₀ B w W0 W) {b : Nat} {t : TypeId} {cs : Array Value} (hb : b < N) (hne : b ≠ a₀) (h0 : Blk W0 b t cs) : Blk W b t cs := (h.same b hb hne).trans h0
theorem Kept.grown {B' : Nat} {W' : World} {row : Option Nat} (h : Kept N a₀ B w W0 W) (hN : N ≤ W.heap.size) (hBN : B ≤ N) (hg : W.grownBy W' row) (hr : ∀ r, row = some r → N ≤ r) : Kept N a₀ B w W0 W' :=
  ⟨fun b hb hne => (hg.block b (by omega) (fun e => by have := hr b e.symm; omega)).trans (h.same b hb hne), h.bel.grown hg (by omega) (fun k e => by have := hr k e; omega), Nat.le_trans h.le hg.size⟩
theorem Kept.setA (h : Kept N a₀ B w W0 W) (hB : B ≤ a₀) (v : Value) : Kept N a₀ B w W0 (W.setCell ⟨a₀, 0, none⟩ v) :=
  ⟨fun b hb hne => (Below.heap_setCell W ⟨a₀, 0, none⟩ v b hne).trans (h.same b hb hne), h.bel.setCell (p := ⟨a₀, 0, none⟩) hB v, by have := h.le; simp; omega⟩
theorem Kept.set_ (h : Kept N a₀ B w W0 W) {b : Nat} (hb : N ≤ b) (hB : B ≤ N) (v : Value) : Kept N a₀ B w W0 (W.setCell ⟨b, 0, none⟩ v) :=
  ⟨fun b' hb' hne => (Below.heap_setCell W ⟨b, 0, none⟩ v b' (fun e => by have : b' = b := e; omega)).trans (h.same b' hb' hne), h.bel.setCell (p := ⟨b, 0, none⟩) (Nat.le_trans hB hb) v, by have := h.le; simp; omega⟩
theorem Kept.on {N' : Nat} {W' : World} (h : Kept N a₀ B w W0 W) (hb : Below N' W W') (hN : N ≤ N') (hB : B ≤ N) : Kept N a₀ B w W0 W' :=
  ⟨fun b hb' hne => (hb.block b (by omega)).trans (h.same b hb' hne), h.bel.trans (hb.mono (by omega)), Nat.le_trans h.le hb.size⟩
end

/-- What a turn's range keeps: how many it has been handed, and that it has not left. -/
structure TI (N a₀ B : Nat) (w W0 : World) (leave : Int) (pre : List Wt) (W : World) : Prop where
  k : Kept N a₀ B w W0 W
  n : Blk W N 3 #[.int .i64 (pre.length : Int)]
  a : ∃ j : Int, Blk W a₀ 3 #[.int .i64 j]
  un : pre.length = 0 ∨ (pre.length : Int) ≠ leave

set_option maxRecDepth 100000 in
set_option maxHeartbeats 4000000 in
/-- THE RANGE OF A TURN, whatever the frame. -/
theorem turn_range {g : Operand} {ps : Array Tmp} {assign body X : Code} {Q : Exit → Act → World → Prop} {a : Act} {w W0 : World} (F : Nat → Wt → Act) (N a₀ B Bo Bp Bl B10 : Nat) (sh : Bool) (lv leave : Int) (A : Option Addr) (c : Nat) (l : List El) (Aw : Option Addr) (cw : Nat) (m : List Wt) (hml : m = weighL sh lv l) (h1 : l.length ≤ 1000000) (hm1 : m.length ≤ 1000000)
    (hg : a.eval g = .func (.func 17) #[] #[.pointer (some ⟨Bo, 0, none⟩), .pointer (some ⟨Bp, 0, none⟩)]) (hps : ps.size = 1)
    (ho : Blk W0 Bo 47 #[.func (.func 14) #[] #[.pointer (some ⟨Bl, 0, none⟩), .pointer (some ⟨a₀, 0, none⟩)]]) (hp : Blk W0 Bp 23 #[.bool sh, .int .i64 lv])
    (hl : Blk W0 Bl 24 #[.slice A l.length c]) (ha : Blk W0 a₀ 3 #[.int .i64 0]) (hBl : Bl < N) (haN : a₀ < N) (hne : Bl ≠ a₀) (hpa : a₀ ≠ Bp) (hm : RdK kE W0 B A l) (hba : B ≤ a₀) (hN : W0.heap.size = N + 1) (hn : Blk W0 N 3 #[.int .i64 0]) (hbw : Below B w W0)
    (hassign : ∀ (lb : Nat) (x : Wt) (W : World) (Bn : Nat) (K : Act → World → Prop), Bn = W.heap.size → K (F Bn x) (W.alloc (.cells #[.int .u16 x.a, .int .u16 x.b, .int .u16 x.c, .int .u16 x.d] 31)) →
      assign.wpIn (Fence.wide.inRound lb) 3 Try.prog (Exit.then K (fun _ _ _ => False)) { tmps := (ps.zip #[x.agg]).foldl (fun t (p, v) => t.setIfInBounds p v) a.tmps, defers := [] } W)
    (hbody : ∀ (lb : Nat) (x : Wt) (W : World) (Bx k : Nat) (R : Exit → World → Prop), Kept N a₀ B w W0 W → k < m.length → m.getD k default = x → Blk W Bx 31 #[.int .u16 x.a, .int .u16 x.b, .int .u16 x.c, .int .u16 x.d] → W.cell? ⟨a₀, 0, none⟩ = some (.int .i64 ((k : Int) + 1)) → Blk W N 3 #[.int .i64 (k : Int)] →
      (∀ q, (k : Int) + 1 ≠ leave → R .normal ((W.drewN q).setCell ⟨N, 0, none⟩ (.int .i64 ((k : Int) + 1)))) → (∀ q id, (k : Int) + 1 = leave → X = .exit id → R (.exit id) ((W.drewN q).setCell ⟨N, 0, none⟩ (.int .i64 ((k : Int) + 1)))) →
      body.wpIn (Fence.wide.inRound lb) 3 Try.prog (fun e _ w' => R e w') (F Bx x) W)
    (hX : ∀ act W, Q .normal act W → X.wpIn Fence.wide 5 Try.prog Q act W)
    (hnext : ∀ (D k : Nat) (j : Int) (W : World), N < D → Kept N a₀ B w W0 W → Blk W N 3 #[.int .i64 (k : Int)] → Blk W a₀ 3 #[.int .i64 j] → ((k = m.length ∧ (m.length = 0 ∨ (m.length : Int) ≠ leave)) ∨ ((k : Int) = leave ∧ j = k)) → W.heap[D]? = some (.deferred (some [])) →
      Q .normal { a with defers := { target := .collected D, args := #[] } :: a.defers } W) :
    (Code.rangeFunc g ps assign body).wp Try.prog Q a W0 := by
  subst hml
  refine (wpIn_wide (n := 5)).1 ?_
  refine range_A (pv := pvW) (n₀ := N) (ty := tyW) (by omega) (gf := 17) (lb := #[.pointer (some ⟨Bo, 0, none⟩), .pointer (some ⟨Bp, 0, none⟩)]) hg (enters_of Try.func17 (by kernel_rfl) rfl)
    (walk_A N sh lv A c l h1 Bo Bp Bl a₀ B W0 ho hp hl ha hBl haN hne hpa hm hba (by omega)) (Below.refl _ _) (by omega) (by omega) (fun _ => by rw [hps]; rfl)
    (TI N a₀ B w W0 leave) (fun cd pre W => cd = X ∧ Kept N a₀ B w W0 W ∧ (pre.length : Int) = leave ∧ Blk W N 3 #[.int .i64 (pre.length : Int)] ∧ Blk W a₀ 3 #[.int .i64 (pre.length : Int)])
    ⟨fun pre Y Z row hs hgr hr => ?_, fun pre Y k hs => ⟨hs.k.setA hba _, hs.n.far (p := ⟨a₀, 0, none⟩) (fun e => by have : N = a₀ := e; omega) _, ?_, hs.un⟩⟩
    (fun cd pre Y Z row hs hgr hr => ?_)
    ⟨⟨fun _ _ _ => rfl, hbw, Nat.le_refl _⟩, by simpa using hn, ⟨0, ha⟩, .inl rfl⟩
    (fun pre x a' W => Blk W a₀ 3 #[.int .i64 ((pre.length : Int) + 1)] ∧ ∃ Bx, Blk W Bx 31 #[.int .u16 x.a, .int .u16 x.b, .int .u16 x.c, .int .u16 x.d] ∧ a' = F Bx x)
    (fun pre x a' _ Y Z row hs hgr hr => ?_)
    ?assign ?body ?done ?stop
  · have hr' : ∀ r, row = some r → N ≤ r := fun r e => by have := (hr r e).1; omega
    have hle := hs.k.le
    obtain ⟨j, hj⟩ := hs.a
    exact ⟨hs.k.grown (B' := 0) (by omega) (by omega) hgr hr', blk_stays (pv := pvW) rfl hs.n hgr hr, ⟨j, blk_stays (pv := pvW) rfl hj hgr hr⟩, hs.un⟩
  · obtain ⟨j, hj⟩ := hs.a
    exact ⟨k, by simpa using hj.set_ 0 (.int .i64 k)⟩
  · have hr' : ∀ r, row = some r → N ≤ r := fun r e => by have := (hr r e).1; omega
    obtain ⟨e1, e2, e3, e4, e5⟩ := hs
    have hle := e2.le
    exact ⟨e1, e2.grown (B' := 0) (by omega) (by omega) hgr hr', e3, blk_stays (pv := pvW) rfl e4 hgr hr, blk_stays (pv := pvW) rfl e5 hgr hr⟩
  · obtain ⟨h0, Bx, h2, h3⟩ := hs
    exact ⟨blk_stays (pv := pvW) rfl h0 hgr hr, Bx, blk_stays (pv := pvW) rfl h2 hgr hr, h3⟩
  case assign =>
    intro lb pre x W K hI hG hK
    have hle := hI.k.le
    refine hassign lb x W _ K rfl (hK _ _ (KP.alloc (by omega) _) ?_ ⟨hG.alloc _, W.heap.size, Blk.new W 31 _, rfl⟩)
    obtain ⟨j, hj⟩ := hI.a
    exact ⟨hI.k.grown (B' := 0) (by omega) (by omega) (World.grownBy_alloc W _ none) (fun r e => by cases e), hI.n.alloc _, ⟨j, hj.alloc _⟩, hI.un⟩
  case body =>
    rintro lb pre x a' W hlb hr hI ⟨hA, Bx, bX, rfl⟩ ⟨rest, hpre⟩
    have hlt : pre.length < (weighL sh lv l).length := by rw [hpre]; simp
    have hget : (weighL sh lv l).getD pre.length default = x := by rw [hpre]; simp
    have hle := hI.k.le
    have hset : ∀ q, Kept N a₀ B w W0 ((W.drewN q).setCell ⟨N, 0, none⟩ (.int .i64 ((pre.length : Int) + 1))) := fun q => Kept.set_ (W := W.drewN q) ⟨hI.k.same, below_drewN hI.k.bel q, hI.k.le⟩ (Nat.le_refl _) (by omega) _
    have hnn : ∀ q, Blk ((W.drewN q).setCell ⟨N, 0, none⟩ (.int .i64 ((pre.length : Int) + 1))) N 3 #[.int .i64 ((pre ++ [x]).length : Int)] := fun q => by simpa using (hI.n.drewN q).set_ 0 (.int .i64 ((pre.length : Int) + 1))
    have haa : ∀ q, Blk ((W.drewN q).setCell ⟨N, 0, none⟩ (.int .i64 ((pre.length : Int) + 1))) a₀ 3 #[.int .i64 ((pre ++ [x]).length : Int)] := fun q => by simpa using (hA.drewN q).far (p := ⟨N, 0, none⟩) (fun e => by have : a₀ = N := e; omega) (.int .i64 ((pre.length : Int) + 1))
    refine wpIn_mono (hbody lb x W Bx pre.length (fun e W' => (∃ q, W' = (W.drewN q).setCell ⟨N, 0, none⟩ (.int .i64 ((pre.length : Int) + 1))) ∧ ((e = .normal ∧ (pre.length : Int) + 1 ≠ leave) ∨ (∃ id, e = .exit id ∧ X = .exit id ∧ (pre.length : Int) + 1 = leave))) hI.k hlt hget bX (hA.cell 0) hI.n (fun q h => ⟨⟨q, rfl⟩, .inl ⟨rfl, h⟩⟩) (fun q id h he => ⟨⟨q, rfl⟩, .inr ⟨id, rfl, he, h⟩⟩)) ?_
    · rintro e a2 w2 ⟨⟨q, rfl⟩, (⟨rfl, h⟩ | ⟨id, rfl, hX, h⟩)⟩
      · exact ⟨(kp_of (below_drewN (Below.refl _ _) q) (by omega) : KP N tyW W (W.drewN q)).trans (KP.set (Nat.le_refl _) (hI.n.drewN q) rfl 0 _), hset q, hnn q, ⟨_, haa q⟩, .inr (by simpa using h)⟩
      · exact ⟨((others_of (below_drewN (Below.refl _ _) q)).trans (KeepsOthers.setCell _ _ _)).from _, hX.symm, hset q, by simpa using h, hnn q, haa q⟩
  case done =>
    rintro D ys W hD rfl hI hK
    obtain ⟨j, hj⟩ := hI.a
    exact hnext D _ j W (by omega) hI.k hI.n hj (.inl ⟨rfl, hI.un⟩) hK
  case stop =>
    rintro D cd pre W hD _ ⟨rfl, h2, h3, h4, h5⟩ hK
    exact hX _ _ (hnext D pre.length _ W (by omega) h2 h4 h5 (.inr ⟨h3, rfl⟩) hK)
end Go.Proofs.Ytlemiejmjdhcgaa
