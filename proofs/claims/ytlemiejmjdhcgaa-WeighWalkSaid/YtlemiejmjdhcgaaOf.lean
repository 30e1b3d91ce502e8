/- weigh.Of. -/
import Derived.Test.YtlemiejmjdhcgaaCollect
import Derived.Deep.RegionHeld3
namespace Go.Proofs.Ytlemiejmjdhcgaa
open Go.RowKit Go.Shelf
set_option linter.unusedVariables false
set_option linter.unusedSimpArgs false

/-- Elements' weights; nothing of options that may not be. -/
def weighL (sh : Bool) (lv : Int) (l : List El) : List Wt := if mayB lv = true then ofE sh false l else []

theorem walk1_off (sh : Bool) (lv : Int) (lb Bo Bp gi : Nat) (lbi : Array Value) (W : World) (ho : Blk W Bo 47 #[.func (.func gi) #[] lbi]) (hp : Blk W Bp 23 #[.bool sh, .int .i64 lv]) (hmay : mayB lv = false) :
    Calls Try.prog 17 #[.func (.yield lb) #[] #[], .pointer (some ⟨Bo, 0, none⟩), .pointer (some ⟨Bp, 0, none⟩)] W fun e W' => (∃ v, e = .returned v) ∧ Below W.heap.size W W' := by
  have hb0 : Below W.heap.size W (W.alloc (.cells #[.func (.yield lb) #[] #[]] 49)) := (Below.refl _ _).alloc (Nat.le_refl _) _
  have co := (ho.alloc (.cells #[.func (.yield lb) #[] #[]] 49)).cell 0
  have cp0 := (hp.alloc (.cells #[.func (.yield lb) #[] #[]] 49)).cell 0
  have cp1 := (hp.alloc (.cells #[.func (.yield lb) #[] #[]] 49)).cell 1
  have hnf : ∀ W, (binOp BinOp.eql 47 (Value.func (.func gi) #[] lbi) Value.nilFunc).run Try.prog W = .ok (.bool false) W := fun W => rfl
  go_enter Try.func17, Try.ntmps17
  go_wp2_with fail
  refine (may_any sh lv _).mono ?_
  rintro e W2 ⟨rfl, hb2⟩
  rw [hmay]
  go_wp2_with fail
  refine bodyPost_ret (results_none rfl _ _ _) rfl ?_
  exact ⟨⟨_, rfl⟩, hb0.trans (hb2.mono (by simp))⟩

/-- THE CONTRACT of Walk's function over slices.Values'. -/
theorem walk_T (n₀ : Nat) (sh : Bool) (lv : Int) (A : Option Addr) (c : Nat) (l : List El) (h1 : l.length ≤ 1000000) (Bo Bp Bs : Nat) (w : World) (ho : Blk w Bo 47 #[.func (.func 20) #[] #[.pointer (some ⟨Bs, 0, none⟩)]]) (hp : Blk w Bp 23 #[.bool sh, .int .i64 lv]) (hs : Blk w Bs 24 #[.slice A l.length c])
    (hm : RdK kE w n₀ A l) (hn0 : n₀ ≤ w.heap.size) :
    SeqT pvW n₀ tyW 4 17 #[.pointer (some ⟨Bo, 0, none⟩), .pointer (some ⟨Bp, 0, none⟩)] (fun x : Wt => #[x.agg]) (fun _ _ => True) (fun ys => ys = weighL sh lv l) (fun _ => True) l.length w := by
  intro lb J Jx W hW hlb hJ hJx hY h0
  have hnW : n₀ ≤ W.heap.size := Nat.le_trans hn0 hW.size
  by_cases hmay : mayB lv = true
  · have e : weighL sh lv l = ofE sh false l := by unfold weighL; rw [if_pos hmay]
    rw [e]
    refine (walk1_in sh lv l 4 (by omega) lb Bo Bp 20 n₀ #[.pointer (some ⟨Bs, 0, none⟩)] J Jx W (enters_of Try.func20 (by kernel_rfl) rfl)
      (fun W1 hW1 => vals_T noT n₀ noT A c l h1 3 (by omega) Bs W1 ((hs.on hW).on hW1) ((hm.below (hW.mono hn0)).below (hW1.mono hnW)) (Nat.le_trans hnW hW1.size))
      hY hJ hJx (ho.on hW) (hp.on hW) hmay h0 hnW hlb).mono ?_
    rintro e W' ⟨hv, h | ⟨pre, _, h⟩⟩
    · exact ⟨hv, .inl h⟩
    · exact ⟨hv, .inr ⟨pre, trivial, h⟩⟩
  · have hmay' : mayB lv = false := by simpa using hmay
    have e : weighL sh lv l = [] := by unfold weighL; rw [if_neg hmay]
    rw [e]
    refine (callsIn_wide.2 (walk1_off sh lv lb Bo Bp 20 _ W (ho.on hW) (hp.on hW) hmay')).mono ?_
    rintro e W' ⟨hv, hb⟩
    exact ⟨hv, .inl ⟨[], rfl, hJ [] W W' none h0 (grown_of hb) (fun r e => by cases e)⟩⟩

theorem values_any (A : Option Addr) (n c : Nat) (w : World) : Calls Try.prog 16 #[.slice A n c] w fun e w' => e = .returned (.func (.func 20) #[] #[.pointer (some ⟨w.heap.size, 0, none⟩)]) ∧ w' = w.alloc (.cells #[.slice A n c] 24) := by
  go_enter Try.func16, Try.ntmps16
  go_wp2
  go_ret
  exact ⟨rfl, rfl⟩
theorem walk_any (sh : Bool) (lv : Int) (f : Fn) (a b : Array Value) (w : World) : Calls Try.prog 13 #[.agg #[.bool sh, .int .i64 lv], .func f a b] w fun e w' =>
    e = .returned (.func (.func 17) #[] #[.pointer (some ⟨w.heap.size + 1, 0, none⟩), .pointer (some ⟨w.heap.size, 0, none⟩)]) ∧ w' = (w.alloc (.cells #[.bool sh, .int .i64 lv] 23)).alloc (.cells #[.func f a b] 47) := by
  go_enter Try.func13, Try.ntmps13
  go_wp2
  go_ret
  exact ⟨rfl, rfl⟩
theorem collect_T (l : List Wt) (N : Nat) (hN : N ≤ 1000000) (lb : Array Value) (Sp : List Wt → Prop) (W : World)
    (hseq : ∀ W1, Below W.heap.size W W1 → SeqT pvW W.heap.size tyW 4 17 lb (fun x : Wt => #[x.agg]) (fun _ _ => True) (fun ys => ys = l) Sp N W1) :
    Calls Try.prog 15 #[.func (.func 17) #[] lb] W fun e w' => ∃ v, e = .returned v ∧ RowK kW w' W.heap.size v l ∧ Below W.heap.size W w' := by
  have h := append_T l N hN lb Sp W hseq
  go_enter Try.func15, Try.ntmps15
  go_wp2_with fail
  refine h.mono ?_
  rintro e w2 ⟨v, rfl, hr, hb⟩
  go_wp2_with fail
  go_ret
  exact ⟨v, rfl, hr, hb⟩

theorem of_call (A : Option Addr) (c : Nat) (l : List El) (sh : Bool) (lv : Int) (w : World) (hr : RdK kE w w.heap.size A l) (hl : l.length ≤ 1000000) :
    Calls Try.prog 15 #[.func (.func 17) #[] #[.pointer (some ⟨w.heap.size + 1 + 1 + 1, 0, none⟩), .pointer (some ⟨w.heap.size + 1 + 1, 0, none⟩)]]
      ((((w.alloc (.cells #[.bool sh, .int .i64 lv] 23)).alloc (.cells #[.slice A l.length c] 24)).alloc (.cells #[.bool sh, .int .i64 lv] 23)).alloc (.cells #[.func (.func 20) #[] #[.pointer (some ⟨w.heap.size + 1, 0, none⟩)]] 47)).drew
      fun e w' => ∃ v, e = .returned v ∧ RowK kW w' w.heap.size v (weighL sh lv l) ∧ Below w.heap.size w w' ∧ w'.cell? ⟨w.heap.size, 0, none⟩ = some (.bool sh) ∧ w'.cell? ⟨w.heap.size, 1, none⟩ = some (.int .i64 lv) := by
  have b1 : Below w.heap.size w ((((w.alloc (.cells #[.bool sh, .int .i64 lv] 23)).alloc (.cells #[.slice A l.length c] 24)).alloc (.cells #[.bool sh, .int .i64 lv] 23)).alloc (.cells #[.func (.func 20) #[] #[.pointer (some ⟨w.heap.size + 1, 0, none⟩)]] 47)).drew :=
    (((((Below.refl _ w).alloc (Nat.le_refl _) _).alloc (by simp) _).alloc (by simp; omega) _).alloc (by simp; omega) _).drew
  have hO := (Blk.new (((w.alloc (.cells #[.bool sh, .int .i64 lv] 23)).alloc (.cells #[.slice A l.length c] 24)).alloc (.cells #[.bool sh, .int .i64 lv] 23)) 47 #[.func (.func 20) #[] #[.pointer (some ⟨w.heap.size + 1, 0, none⟩)]]).drew
  have hP := ((Blk.new ((w.alloc (.cells #[.bool sh, .int .i64 lv] 23)).alloc (.cells #[.slice A l.length c] 24)) 23 #[.bool sh, .int .i64 lv]).alloc (.cells #[.func (.func 20) #[] #[.pointer (some ⟨w.heap.size + 1, 0, none⟩)]] 47)).drew
  have hS := (((Blk.new (w.alloc (.cells #[.bool sh, .int .i64 lv] 23)) 24 #[.slice A l.length c]).alloc (.cells #[.bool sh, .int .i64 lv] 23)).alloc (.cells #[.func (.func 20) #[] #[.pointer (some ⟨w.heap.size + 1, 0, none⟩)]] 47)).drew
  have hX := ((((Blk.new w 23 #[.bool sh, .int .i64 lv]).alloc (.cells #[.slice A l.length c] 24)).alloc (.cells #[.bool sh, .int .i64 lv] 23)).alloc (.cells #[.func (.func 20) #[] #[.pointer (some ⟨w.heap.size + 1, 0, none⟩)]] 47)).drew
  simp only [World.size_alloc] at hO hP hS
  have hz : w.heap.size ≤ ((((w.alloc (.cells #[.bool sh, .int .i64 lv] 23)).alloc (.cells #[.slice A l.length c] 24)).alloc (.cells #[.bool sh, .int .i64 lv] 23)).alloc (.cells #[.func (.func 20) #[] #[.pointer (some ⟨w.heap.size + 1, 0, none⟩)]] 47)).drew.heap.size := b1.size
  generalize ((((w.alloc (.cells #[.bool sh, .int .i64 lv] 23)).alloc (.cells #[.slice A l.length c] 24)).alloc (.cells #[.bool sh, .int .i64 lv] 23)).alloc (.cells #[.func (.func 20) #[] #[.pointer (some ⟨w.heap.size + 1, 0, none⟩)]] 47)).drew = wz at *
  refine (collect_T (weighL sh lv l) l.length hl _ (fun _ => True) wz fun W1 hW1 => walk_T wz.heap.size sh lv A c l hl _ _ _ W1 (hO.on hW1) (hP.on hW1) (hS.on hW1) (((hr.on b1)).below hW1) hW1.size).mono ?_
  rintro e w' ⟨v, rfl, hrow, hb⟩
  exact ⟨v, rfl, ⟨hrow.1, hrow.2.imp id fun ⟨g, c', cur, e1, e2, e3⟩ => ⟨g, c', cur, e1, by omega, e3⟩⟩, b1.trans (hb.mono hz), (hX.on hb).cell 0, (hX.on hb).cell 1⟩

set_option maxHeartbeats 4000000 in
theorem of_any (A : Option Addr) (c : Nat) (l : List El) (sh : Bool) (lv : Int) (w : World) (hr : RdK kE w w.heap.size A l) (hl : l.length ≤ 1000000) :
    Calls Try.prog 10 #[.agg #[.bool sh, .int .i64 lv], .slice A l.length c] w fun e w' => ∃ v, e = .returned v ∧ RowK kW w' w.heap.size v (weighL sh lv l) ∧ Below w.heap.size w w' := by
  have bp := Blk.new w 23 #[.bool sh, .int .i64 lv]
  have c0 := bp.cell 0
  have c1 := bp.cell 1
  have HC := Lib.hid (of_call A c l sh lv w hr hl)
  clear bp hr
  go_enter Try.func10, Try.ntmps10
  go_wp2_with fail
  go_region_held3 (fun w' => w'.cell? ⟨w.heap.size, 0, none⟩ = some (.bool sh) ∧ w'.cell? ⟨w.heap.size, 1, none⟩ = some (.int .i64 lv)) (first | exact hbox | go_keep)
    (first
      | (go_at_call 16; refine (values_any _ _ _ _).mono ?_; rintro e w' ⟨rfl, rfl⟩)
      | (go_at_call 13; refine (walk_any _ _ _ _ _ _).mono ?_; rintro e w' ⟨rfl, rfl⟩)
      | (go_at_call 15; refine HC.out.mono ?_; rintro e w' ⟨v, rfl, hrow, hb, hbox⟩; obtain ⟨A9, c9, n9, hn9, rfl, _, _⟩ := hrow.rdn))
  go_wp2_with fail
  go_ret
  exact ⟨_, rfl, hrow, hb⟩
end Go.Proofs.Ytlemiejmjdhcgaa
