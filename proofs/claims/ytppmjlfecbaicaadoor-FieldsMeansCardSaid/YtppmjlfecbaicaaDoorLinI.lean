/- fields.Lines' function: its contract. -/
import Derived.Test.YtppmjlfecbaicaaDoorAllI
import Derived.Test.YtppmjlfecbaicaaDoorRound
import Derived.Sort.CutIn
import Derived.Stop.RegionWithIn
namespace Go.Proofs.YtppmjlfecbaicaaDoor
open Go.RowKit Go.Shelf
set_option linter.unusedVariables false
set_option linter.unusedSimpArgs false
attribute [local go_sem] Oper.semAt_some

theorem wide_fn (f : FuncId) : Fence.wide.fn f = True := eq_true trivial
attribute [local go_sem] wide_fn
theorem priv_mono {pv : TypeId → Bool} {o : Obj} (h : privO (fun _ => false) o = true) : privO pv o = true := by
  cases o <;> simp_all [privO]
theorem others_of {Wp w9 : World} (h : Below Wp.heap.size Wp w9) : KeepsOthers Wp w9 := ⟨h.size, fun k o hk _ => (h.block k (Array.getElem?_eq_some_iff.1 hk).1).trans hk⟩
/-- The types of blocks that Lines' function reads again behind what its consumer does. -/
def tyF (t : TypeId) : Bool := t == 59
def noT (_ : TypeId) : Bool := false
theorem KP.less {n₀ : Nat} {ty : TypeId → Bool} {W W' : World} (h : KP n₀ ty W W') : KP n₀ noT W W' := ⟨h.bel, fun b t cs ht => (by cases ht), h.oth⟩

/-- What Lines' function hands: a number, a slice that reads as fields. -/
structure Hand where
  n : Nat
  g : Nat
  fs : List ByteArray
deriving Inhabited
def Hand.it (h : Hand) : Nat × List ByteArray := (h.n, h.fs)
abbrev Hand.enc (h : Hand) : Array Value := #[.int .i64 (h.n : Int), .slice (some ⟨h.g, 0, none⟩) h.fs.length h.fs.length]
def Reads (h : Hand) (W : World) : Prop := RdK kS W W.heap.size (some ⟨h.g, 0, none⟩) h.fs
def pickV (x : Nat × List UInt8) : List (Nat × List ByteArray) := if tl x.2 = [] then [] else [(x.1, fieldsV x.2)]
def linesV (l : List UInt8) : List (Nat × List ByteArray) := (linesL l).map fun x => (x.1, x.2.map mk)
theorem all_mem : ∀ (f k : Nat) (r : List UInt8) (x : Nat × List UInt8), x ∈ allL f k r → x.2.length ≤ r.length
  | 0, _, _, x, h => by cases h
  | f + 1, k, r, x, h => by
    by_cases hr : r = []
    · subst hr; rw [all_nil] at h; cases h
    · rw [all_more hr] at h
      have hless := cut_less hr
      have h1 := cut_fst_le 10 r
      have h2 := cut_fst_le 35 (Lib.cut r [10]).1
      rcases List.mem_cons.1 h with rfl | h
      · dsimp only; omega
      · have := all_mem f (k + 1) _ x h; omega
theorem lines_pick (l : List UInt8) : (allV l).flatMap pickV = linesV l := by
  unfold linesV linesL allV
  rw [← all_lines (l.length + 1) 1 l (Nat.lt_succ_self _), List.map_flatMap]
  congr 1
  funext x
  unfold pickV pick
  split <;> rfl

/-- What holds ahead of a round. -/
structure LI (l : List UInt8) (lb By n₀ : Nat) (W0 : World) (J : List Hand → World → Prop) (pre : List (Nat × List UInt8)) (Wp : World) : Prop where
  j : ∃ ys, ys.map Hand.it = pre.flatMap pickV ∧ J ys Wp
  y : Blk Wp By 59 #[.func (.yield lb) #[] #[]]
  b : Below n₀ W0 Wp
  le : W0.heap.size ≤ Wp.heap.size
/-- What a consumer says, and leaves. -/
def OutY (n₀ lb : Nat) (J Jx : List Hand → World → Prop) (ys : List Hand) (W : World) (v : Bool) (W' : World) : Prop :=
  if v = true then J ys W' ∧ KP n₀ tyF W W' else Jx ys W' ∧ KeepsFrom (lb + 1) W W'

theorem out_of {n₀ lb : Nat} {J Jx : List Hand → World → Prop} {ys : List Hand} {W W' : World} {e : Ending} (h : (e = .returned (.bool true) ∧ J ys W' ∧ KP n₀ tyF W W') ∨ (e = .returned (.bool false) ∧ Jx ys W' ∧ KeepsFrom (lb + 1) W W')) :
    ∃ v, e = .returned (.bool v) ∧ Hid (OutY n₀ lb J Jx ys W v W') := by
  rcases h with ⟨h1, h2⟩ | ⟨h1, h2⟩
  · exact ⟨true, h1, Lib.hid (by unfold OutY; rw [if_pos rfl]; exact h2)⟩
  · exact ⟨false, h1, Lib.hid (by unfold OutY; rw [if_neg (by decide)]; exact h2)⟩
theorem row_rd {α : Type} [Inhabited α] {K : Kind α} {w : World} {base G n c : Nat} {l : List α} (h : RowK K w base (.slice (some ⟨G, 0, none⟩) n c) l) : RdK K w w.heap.size (some ⟨G, 0, none⟩) l := by
  obtain ⟨A, c', e, _, h2⟩ := h.rd0
  injection e with e1 e2 e3
  rw [e1]
  exact h2

set_option maxRecDepth 100000 in
set_option maxHeartbeats 8000000 in
theorem lin1_in (l : List UInt8) (hl : l.length ≤ 1000000) (m : Int) (n : Nat) (hn : 3 ≤ n) (lb Bt n₀ : Nat) (hn₀ : 0 < n₀) (J Jx : List Hand → World → Prop) (W : World)
    (hY : ∀ pre x W, J pre W → Reads x W → (∃ rest, linesV l = (pre ++ [x]).map Hand.it ++ rest) → YieldAt Fence.wide (n - 1) Tryd.prog lb x.enc W fun e W' =>
      (e = .returned (.bool true) ∧ J (pre ++ [x]) W' ∧ KP n₀ tyF W W') ∨ (e = .returned (.bool false) ∧ Jx (pre ++ [x]) W' ∧ KeepsFrom (lb + 1) W W'))
    (hJ : Stays noT W.heap.size J) (hJx : Stays noT W.heap.size Jx)
    (ht : Blk W Bt 9 #[.string (mk l)]) (hm : W.cell? ⟨0, 0, none⟩ = some (.int .i64 m)) (h0 : J [] W) (hs : n₀ ≤ W.heap.size) (hlbW : lb < W.heap.size) :
    CallsIn Fence.wide n Tryd.prog 31 #[.func (.yield lb) #[] #[], .pointer (some ⟨Bt, 0, none⟩)] W fun e W' => (∃ v, e = .returned v) ∧
      ((∃ ys, ys.map Hand.it = linesV l ∧ J ys W') ∨ (∃ pre, (∃ rest, linesV l = pre.map Hand.it ++ rest) ∧ Jx pre W')) := by
  refine callsIn_of_wp_marks Tryd.func31 rfl trivial ?_ rfl
  refine wpIn_wide.2 ?_
  simp only [Tryd.ntmps31, List.size_toArray, List.length_cons, List.length_nil, Nat.reduceAdd, Nat.reduceSub, Array.replicate_succ, Array.replicate_zero, List.push_toArray, List.append_toArray, List.nil_append, List.cons_append]
  generalize hQ : bodyPostM _ _ _ _ _ = Q'
  have HQ := Lib.hid hQ
  clear hQ
  have hb0 : Below W.heap.size W (W.alloc (.cells #[.func (.yield lb) #[] #[]] 59)) := (Below.refl _ _).alloc (Nat.le_refl _) _
  have ct := (ht.alloc (.cells #[.func (.yield lb) #[] #[]] 59)).cell 0
  have H := Lib.hid (And.intro hY (And.intro hJ (And.intro hJx (And.intro hm (And.intro h0 hb0)))))
  clear hY hJ hJx hm h0 hb0 ht
  go_wp2_with fail
  refine (all_any l _).mono ?_
  rintro e W2 ⟨rfl, hbt, hb2⟩
  clear ct
  go_wp2_with fail
  obtain ⟨hY, hJ, hJx, hm, h0, hb0⟩ := H.out
  clear H
  have hz0 : (W.alloc (.cells #[.func (.yield lb) #[] #[]] 59)).heap.size = W.heap.size + 1 := by simp
  have hz2 := hb2.size
  have bY := (Blk.new W 59 #[.func (.yield lb) #[] #[]]).on hb2
  have hW2 : Below W.heap.size W W2 := hb0.trans (hb2.mono (by omega))
  have j2 := hJ [] W _ none h0 (grown_of hW2) (fun r e => by cases e)
  have hm2 : W2.cell? ⟨0, 0, none⟩ = some (.int .i64 m) := (hW2.cell (p := ⟨0, 0, none⟩) (by show 0 < W.heap.size; omega)).trans hm
  rw [hz0] at hbt
  clear hb2
  refine (wpIn_wide (n := n)).1 ?_
  refine range_T (pv := noT) (n₀ := n₀) (ty := noT) (by omega) (gf := 46) (lb := #[.pointer (some ⟨W.heap.size + 1, 0, none⟩)]) rfl (enters_of Tryd.func46 (by kernel_rfl) rfl)
    (all_T noT n₀ noT l hl m _ (by omega) _ W2 hbt hm2 hn₀ (by omega)) (Below.refl _ _) (by omega) (fun _ => rfl)
    (LI l lb W.heap.size n₀ W2 J) (fun c pre Wp => c = .ret ∧ ∃ ys, (∃ rest, linesV l = ys.map Hand.it ++ rest) ∧ Jx ys Wp)
    ?stI ?stX ⟨⟨[], rfl, j2⟩, bY, Below.refl _ _, Nat.le_refl _⟩
    (fun x a' Wp => a' = { tmps := #[.func (.yield lb) #[] #[], .pointer (some ⟨Bt, 0, none⟩), .pointer (some ⟨W.heap.size, 0, none⟩), .int .i64 (x.1 : Int), .string (mk x.2), .string (mk l), .func (.func 46) #[] #[.pointer (some ⟨W.heap.size + 1, 0, none⟩)], .int .i64 (x.1 : Int), .string (mk x.2),
      undef, undef, undef, undef, undef, undef, undef, undef, undef, undef, undef], defers := [] })
    ?stA ?assign ?body ?done ?stop
  case stI =>
    intro pre A B row hs2 hg hr
    have hr2 : ∀ r, row = some r → W.heap.size ≤ r ∧ ∃ o : Obj, A.heap[r]? = some o ∧ privO noT o = true := fun r e => ⟨by have := (hr r e).1; omega, (hr r e).2⟩
    obtain ⟨ys, h1, h2⟩ := hs2.j
    exact ⟨⟨ys, h1, hJ _ _ _ _ h2 hg hr2⟩, blk_stays (pv := noT) rfl hs2.y hg hr, hs2.b.grown hg (by have := hs2.b.size; omega) (fun k hk => by have := (hr k hk).1; omega), Nat.le_trans hs2.le hg.size⟩
  case stX =>
    intro c pre A B row hs2 hg hr
    have hr2 : ∀ r, row = some r → W.heap.size ≤ r ∧ ∃ o : Obj, A.heap[r]? = some o ∧ privO noT o = true := fun r e => ⟨by have := (hr r e).1; omega, (hr r e).2⟩
    obtain ⟨h0, ys, h1, h2⟩ := hs2
    exact ⟨h0, ys, h1, hJx _ _ _ _ h2 hg hr2⟩
  case stA =>
    intro x a' _ A B row hs2 hg hr
    exact hs2
  case assign =>
    intro lb' pre x Wp K hI _ hK
    gi_wp2
    exact hK _ _ (KP.refl _) hI rfl
  case body =>
    rintro lb' pre x a' Wp hlb ⟨r, hr⟩ hI rfl ⟨rest, hpre⟩
    have hle := hI.le
    obtain ⟨ys, hys, hj⟩ := hI.j
    have hxs : x.2.length ≤ 1000000 := Nat.le_trans (all_mem _ _ _ _ (show x ∈ allL (l.length + 1) 1 l by have h := hpre; unfold allV at h; rw [h]; simp)) hl
    have HT := Lib.hid (trimL_any x.2 · (by omega : x.2.length ≤ 9223372036854775807))
    obtain ⟨k, s⟩ := x
    dsimp only at *
    have hbp := hI.y.lt
    have p0 := hI.y.cell 0
    have hII := Lib.hid hI
    have HPRE : Hid (allV l = pre ++ [(k, s)] ++ rest) := Lib.hid hpre
    have HYS := Lib.hid hys
    clear hI hpre hys
    by_cases htl : tl s = []
    · have HE : Hid ((pre ++ [(k, s)]).flatMap pickV = ys.map Hand.it) := Lib.hid (by
        rw [List.flatMap_append, ← HYS.out]
        simp [pickV, htl])
      rw [htl] at HT
      clear htl hY
      rw [show mk [] = (⟨#[]⟩ : ByteArray) from rfl] at HT
      gi_wp2_with fail
      gi_region_with (refine ⟨fun h => by simp [Fence.wide] at h, (call_at (HT.out _)).mono ?_⟩; rintro e w8 ⟨rfl, hb8⟩; have HB8 := Lib.hid hb8; clear hb8)
      all_goals gi_wp2_with fail
      all_goals have hb9 : Below Wp.heap.size Wp w8 := (show Below Wp.heap.size Wp Wp.drew from ⟨rfl, rfl, rfl, Nat.le_refl _, fun _ _ => rfl⟩).trans HB8.out
      all_goals have hI := hII.out
      all_goals exact ⟨kp_of hb9 (by omega), ⟨ys, HE.out.symm, hJ _ _ _ none hj (grown_of hb9) (fun r e => by cases e)⟩, hI.y.on hb9, hI.b.trans (hb9.mono (by omega)), Nat.le_trans hI.le hb9.size⟩
    · have hsz : (mk (tl s)).size ≠ 0 := by rw [mk_size]; exact fun h => htl (List.eq_nil_of_length_eq_zero h)
      have hne : (!(mk (tl s)).toList.isEmpty) = true := by rw [mk_empty]; cases h : tl s; exact absurd h htl; rfl
      have HS : Hid (∀ A, Below Wp.heap.size Wp A → Calls Tryd.prog 33 #[.string (mk s)] A fun e w' => ∃ G, e = .returned (.slice (some ⟨G, 0, none⟩) (fieldsV s).length (fieldsV s).length) ∧ RowK kS w' A.heap.size (.slice (some ⟨G, 0, none⟩) (fieldsV s).length (fieldsV s).length) (fieldsV s) ∧ Below A.heap.size A w') := Lib.hid fun A hA =>
        fsplit_any s m A hxs ((hA.cell (p := ⟨0, 0, none⟩) (by show 0 < Wp.heap.size; omega)).trans ((hII.out.b.cell (p := ⟨0, 0, none⟩) hn₀).trans hm2))
      have HP : Hid (∀ g, (pre ++ [(k, s)]).flatMap pickV = (ys ++ [(⟨k, g, fieldsV s⟩ : Hand)]).map Hand.it ∧ ∃ rest, linesV l = (ys ++ [(⟨k, g, fieldsV s⟩ : Hand)]).map Hand.it ++ rest) := Lib.hid fun g => by
        have h1 : (pre ++ [(k, s)]).flatMap pickV = (ys ++ [(⟨k, g, fieldsV s⟩ : Hand)]).map Hand.it := by
          rw [List.flatMap_append, ← HYS.out, List.map_append]
          simp [pickV, htl, Hand.it]
        exact ⟨h1, rest.flatMap pickV, by rw [← lines_pick, HPRE.out, List.flatMap_append, h1]⟩
      have HY := Lib.hid hY
      have HJA : Hid (∀ A B, Below A.heap.size A B → J ys A → J ys B) := Lib.hid fun A B hb h => hJ _ _ _ none h (grown_of hb) (fun r e => by cases e)
      have HJ1 := Lib.hid hj
      clear htl hY hj hsz
      gi_wp2_with fail
      generalize fieldsV s = F at *
      clear p0
      gi_region_with (first
        | (refine ⟨fun h => by simp [Fence.wide] at h, (call_at (HT.out _)).mono ?_⟩; rintro e w8 ⟨rfl, hb8⟩; have HB8 : Hid (Below Wp.heap.size Wp w8) := Lib.hid ((show Below Wp.heap.size Wp Wp.drew from ⟨rfl, rfl, rfl, Nat.le_refl _, fun _ _ => rfl⟩).trans hb8); have p8 := (hII.out.y.on HB8.out).cell 0; have h8 := HB8.out.size; clear hb8)
        | (refine ⟨fun h => by simp [Fence.wide] at h, (call_at (HS.out _ HB8.out)).mono ?_⟩; rintro e w9 ⟨G, rfl, hr9, hb9⟩; have HB9 : Hid (Below Wp.heap.size Wp w9) := Lib.hid (HB8.out.trans (hb9.mono h8)); have p9 := (hII.out.y.on HB9.out).cell 0; have hrd : RdK kS w9 w9.heap.size (some ⟨G, 0, none⟩) F := row_rd hr9; obtain ⟨fn, tmps, assign, body, hy, hRd⟩ := HY.out ys ⟨k, G, F⟩ w9 (HJA.out _ _ HB9.out HJ1.out) hrd (HP.out G).2; have hRd2 := hRd.mono (fun e W' h => out_of h); clear hb9 hr9 hrd hRd)
        | (refine ⟨fun h => by simp [Fence.wide] at h, (round_at hRd2).mono ?_⟩; clear hRd2 hy; rintro e w10 ⟨v, rfl, hout⟩)
        | fail)
      all_goals have hout := hout.out
      all_goals unfold OutY at hout
      all_goals have hI := hII.out
      all_goals have h9 := HB9.out
      all_goals have h9z := h9.size
      all_goals cases v
      all_goals simp only [if_true, Bool.false_eq_true, if_false] at hout
      all_goals gi_wp2_with fail
      all_goals first
        | exact ⟨((kp_of h9 (by omega) : KP n₀ noT Wp w9).trans hout.2.less), ⟨_, (HP.out G).1.symm, hout.1⟩, hout.2.ty _ 59 _ rfl (hI.y.on h9), (hI.b.trans (h9.mono (by omega))).trans hout.2.bel, Nat.le_trans hI.le (Nat.le_trans h9z hout.2.oth.size)⟩
        | exact ⟨((others_of h9).from W2.heap.size).trans (keeps_mono hout.2 (by omega)), rfl, _, (HP.out G).2, hout.1⟩
  case done =>
    rintro D xs Wp hD rfl hI hK
    obtain ⟨ys, hys, hj⟩ := hI.j
    have hj2 := hJ.putObj (.deferred none) hj (by omega) hK rfl
    go_wp2_with fail
    rw [← HQ.out]
    refine ⟨by simp, .inl ⟨_, _, rfl, run_takeDeferred hK, ?_⟩⟩
    exact ⟨_, results_none rfl _ _ _, ⟨_, rfl⟩, .inl ⟨ys, by rw [hys, lines_pick], hj2⟩⟩
  case stop =>
    rintro D c pre Wp hD _ ⟨rfl, ys, hys, hx⟩ hK
    have hj := hJx.putObj (.deferred none) hx (by omega) hK rfl
    gi_wp2
    rw [← HQ.out]
    refine ⟨by simp, .inl ⟨_, _, rfl, run_takeDeferred hK, ?_⟩⟩
    exact ⟨_, results_none rfl _ _ _, ⟨_, rfl⟩, .inr ⟨ys, hys, hj⟩⟩
/-- THE CONTRACT of Lines' function. -/
theorem lin_T (n₀ : Nat) (l : List UInt8) (h1 : l.length ≤ 1000000) (m : Int) (n : Nat) (hn : 3 ≤ n) (Bt : Nat) (w : World) (hb : Blk w Bt 9 #[.string (mk l)]) (hm : w.cell? ⟨0, 0, none⟩ = some (.int .i64 m)) (hn0 : 0 < n₀) (hn1 : n₀ ≤ w.heap.size) :
    SeqT noT n₀ tyF n 31 #[.pointer (some ⟨Bt, 0, none⟩)] Hand.enc Reads (fun ys => ys.map Hand.it = linesV l) (fun pre => ∃ rest, linesV l = pre.map Hand.it ++ rest) w := fun lb J Jx W hW hlb hJ hJx hY h0 =>
  lin1_in l h1 m n hn lb Bt n₀ hn0 J Jx W hY hJ hJx (hb.on hW) ((hW.cell (p := ⟨0, 0, none⟩) (by show 0 < w.heap.size; omega)).trans hm) h0 (Nat.le_trans hn1 hW.size) hlb
end Go.Proofs.YtppmjlfecbaicaaDoor
