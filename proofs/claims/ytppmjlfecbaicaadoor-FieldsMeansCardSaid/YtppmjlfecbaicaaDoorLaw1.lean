/- The chapter's row; the law on lines. -/
import Derived.Test.YtppmjlfecbaicaaDoorCount
namespace Go.Proofs.YtppmjlfecbaicaaDoor
open Go.RowKit
set_option linter.unusedVariables false
set_option linter.unusedSimpArgs false

def rowL : List UInt8 := [48, 48, 52, 49, 32, 59, 32, 97, 32, 98, 32, 59, 59, 32, 35, 32, 120]
abbrev rowF : List ByteArray := [⟨#[48, 48, 52, 49]⟩, ⟨#[97, 32, 98]⟩, ⟨#[]⟩, ⟨#[]⟩]
theorem row_lines : linesV rowL = [(1, rowF)] := by kernel_rfl
theorem once_row (m : Int) (w : World) (hm : w.cell? ⟨0, 0, none⟩ = some (.int .i64 m)) (hw0 : 0 < w.heap.size) (g h : Nat) (hg : Blk w g 9 #[.string { data := #[48, 48, 52, 49] }, .string { data := #[97, 32, 98] }, .string { data := #[] }, .string { data := #[] }])
    (hh : Blk w h 42 #[.int .i64 1, .slice (some ⟨g, 0, none⟩) 4 4]) :
    Calls Tryd.prog 8 #[.string { data := #[48, 48, 52, 49, 32, 59, 32, 97, 32, 98, 32, 59, 59, 32, 35, 32, 120] }, .slice (some ⟨h, 0, none⟩) 1 1, .int .i64 0] w fun e w' => e = .returned (.bool true) ∧ Below w.heap.size w w' := by
  have hr : RdK kL w w.heap.size (some ⟨h, 0, none⟩) [(⟨1, some ⟨g, 0, none⟩, 4, rowF⟩ : Rec)] := rd_block (K := kL) hh rfl
  have hs : RdK kS w w.heap.size (some ⟨g, 0, none⟩) rowF := rd_block (K := kS) hg rfl
  exact once_any rowL (by decide) m (some ⟨h, 0, none⟩) 1 [(⟨1, some ⟨g, 0, none⟩, 4, rowF⟩ : Rec)] 0 w (by show 1 ≤ 10000000; decide) hm hw0 hr (by rw [row_lines]; rfl) (fun x hx => by obtain rfl := List.mem_singleton.1 hx; exact hs) (fun x hx => by obtain rfl := List.mem_singleton.1 hx; show 4 ≤ _; decide)

set_option maxHeartbeats 1000000 in
theorem known_any (m : Int) (w : World) (hm : w.cell? ⟨0, 0, none⟩ = some (.int .i64 m)) (hw0 : 0 < w.heap.size) :
    Calls Tryd.prog 6 #[] w fun e w' => e = .returned (.bool true) ∧ Below w.heap.size w w' := by
  have HB : Below w.heap.size w ((w.alloc (.cells #[.string { data := #[48, 48, 52, 49] }, .string { data := #[97, 32, 98] }, .string { data := #[] }, .string { data := #[] }] 9)).alloc (.cells #[.int .i64 1, .slice (some ⟨w.heap.size, 0, none⟩) 4 4] 42)) :=
    ((Below.refl _ _).alloc (Nat.le_refl _) _).alloc (by simp) _
  have b0 := (Blk.new w 9 #[.string { data := #[48, 48, 52, 49] }, .string { data := #[97, 32, 98] }, .string { data := #[] }, .string { data := #[] }]).alloc (.cells #[.int .i64 1, .slice (some ⟨w.heap.size, 0, none⟩) 4 4] 42)
  have b1 := Blk.new (w.alloc (.cells #[.string { data := #[48, 48, 52, 49] }, .string { data := #[97, 32, 98] }, .string { data := #[] }, .string { data := #[] }] 9)) 42 #[.int .i64 1, .slice (some ⟨w.heap.size, 0, none⟩) 4 4]
  simp only [World.size_alloc] at b1
  have HC := Lib.hid (once_row m _ ((HB.cell (p := ⟨0, 0, none⟩) hw0).trans hm) (Nat.lt_of_lt_of_le hw0 HB.size) _ _ b0 b1)
  have HB := Lib.hid HB
  clear b0 b1 hm
  go_enter Tryd.func6, Tryd.ntmps6
  go_wp2_with (go_at_call 8; refine HC.out.mono ?_; rintro e w' ⟨rfl, hb2⟩)
  go_ret
  exact ⟨rfl, HB.out.trans (hb2.mono HB.out.size)⟩

theorem fields_big (l : List UInt8) : ∀ y ∈ linesV l, y.2.length ≤ l.length + 1 := by
  have key : ∀ (n : Nat) (P : List (List UInt8)), (∀ x ∈ P, x.length ≤ l.length) → ∀ y ∈ linesF n P, y.2.length ≤ l.length + 1 := by
    intro n P
    induction P generalizing n with
    | nil => intro _ y hy; cases hy
    | cons x r ih =>
      intro hP y hy
      rw [linesF_cons] at hy
      have hr := ih (n + 1) (fun z hz => hP z (List.mem_cons_of_mem _ hz))
      unfold lineL at hy
      by_cases ht : tl (sayL x) = []
      · rw [if_pos ht] at hy
        exact hr y hy
      · rw [if_neg ht] at hy
        rcases List.mem_cons.1 hy with rfl | hy
        · show (fieldsL 59 (sayL x)).length ≤ _
          unfold fieldsL
          rw [List.length_map]
          have h1 := parts_len_le 59 (sayL x)
          have h2 : (sayL x).length ≤ x.length := by
            rw [← cut_say]
            exact cut_fst_le 35 x
          have h3 := hP x (List.mem_cons_self ..)
          omega
        · exact hr y hy
  intro y hy
  unfold linesV linesL at hy
  obtain ⟨z, hz, rfl⟩ := List.mem_map.1 hy
  have := key 1 _ (parts_mem_le 10 l) z hz
  simpa using this
theorem goodR_of {w : World} {base : Nat} {hs : List Rec} (h : GoodL w base hs) : GoodR w w.heap.size hs := fun x hx => by
  obtain ⟨A, c, e, _, h2⟩ := (h x hx).rd0
  injection e with e1 e2 e3
  rw [e1]
  exact h2
theorem below_acc' {N : Nat} {args : Array Value} {u : Value} {n0 : Nat} {w0 W : World} (hb : Below n0 w0 W) (h : Calls Tryd.prog N args W fun e w' => e = .returned u ∧ Below W.heap.size W w') (hn : n0 ≤ W.heap.size := by exact Below.size ‹_›) :
    Calls Tryd.prog N args W fun e w' => e = .returned u ∧ Below n0 w0 w' := h.mono fun e w' ⟨h1, h2⟩ => ⟨h1, hb.trans (h2.mono hn)⟩
theorem GoodR.on {w w' : World} {hs : List Rec} (h : GoodR w w.heap.size hs) (hb : Below w.heap.size w w') : GoodR w' w'.heap.size hs := fun x hx => (h x hx).on hb

set_option maxHeartbeats 8000000 in
set_option maxRecDepth 100000 in
theorem law1_any (l : List UInt8) (leave : Int) (m : Int) (w : World) (hm : w.cell? ⟨0, 0, none⟩ = some (.int .i64 m)) (hw0 : 0 < w.heap.size) :
    Calls Tryd.prog 3 #[.string (mk l), .int .i64 leave] w fun e w' => e = .returned (.bool true) ∧ Below w.heap.size w w' := by
  have hsz : (mk l).size = l.length := mk_size l
  have HK := fun W h1 h2 => Lib.hid (known_any m W h1 h2)
  by_cases h9 : l.length ≤ 9000
  · have HC := Lib.hid (refLines_any l w (by omega))
    have HM := Lib.hid hm
    clear hm
    go_enter Tryd.func3, Tryd.ntmps3
    go_wp2_with (first
      | (go_at_call 7; (with_reducible refine HC.out.mono ?_); rintro e w1 ⟨v1, hs, rfl, hit, hrow, hgood, hb1⟩; obtain ⟨A1, c1, n1, HN, rfl, _, hd1⟩ := hrow.rdn; have HB1 := Lib.hid hb1; have HIT : Hid (hs.map Rec.it = linesV l) := Lib.hid hit; have HD := Lib.hid hd1; have HG := Lib.hid (goodR_of hgood); clear hit hrow hgood hb1 hd1)
      | fail)
    have hm1 : w1.cell? ⟨0, 0, none⟩ = some (.int .i64 m) := (HB1.out.cell (p := ⟨0, 0, none⟩) hw0).trans HM.out
    have hw1 : 0 < w1.heap.size := Nat.lt_of_lt_of_le hw0 HB1.out.size
    have hlv : hs.length = (linesV l).length := by have := congrArg List.length HIT.out; simpa using this
    have hll : (linesV l).length ≤ l.length + 1 := by
      have h2 := LV_len 1 (partsL 10 l)
      have h3 := parts_len_le 10 l
      have h4 : (linesV l).length = (LV 1 (partsL 10 l)).length := rfl
      omega
    have HO : Hid (∀ (most : Int) (W : World), Below w1.heap.size w1 W → Calls Tryd.prog 8 #[.string (mk l), .slice A1 n1 c1, .int .i64 most] W fun e w' => e = .returned (.bool true) ∧ Below w1.heap.size w1 w') := Lib.hid fun most W hb => by
      have h := once_any l (by omega) m A1 c1 hs most W (by omega) ((hb.cell (p := ⟨0, 0, none⟩) hw1).trans hm1) (Nat.lt_of_lt_of_le hw1 hb.size) ((HD.out.below hb).more hb.size) HIT.out (fun x hx => ((HG.out x hx).below hb).more hb.size) (fun x hx => by
        have h1 := fields_big l x.it (by rw [← HIT.out]; exact List.mem_map.2 ⟨x, hx, rfl⟩)
        have : x.fs.length ≤ l.length + 1 := h1
        omega)
      rw [← HN.out] at h
      exact below_acc' hb h
    have HC2 : Hid (∀ W : World, Below w1.heap.size w1 W → Calls Tryd.prog 9 #[.string (mk l)] W fun e w' => e = .returned (.int .i64 n1) ∧ Below w1.heap.size w1 w') := Lib.hid fun W hb => by
      have h := count_any l (by omega) m W ((hb.cell (p := ⟨0, 0, none⟩) hw1).trans hm1) (Nat.lt_of_lt_of_le hw1 hb.size)
      rw [← hlv, ← HN.out] at h
      exact below_acc' hb h
    have HK2 : Hid (∀ W : World, Below w1.heap.size w1 W → Calls Tryd.prog 6 #[] W fun e w' => e = .returned (.bool true) ∧ Below w1.heap.size w1 w') := Lib.hid fun W hb =>
      below_acc' hb (known_any m W ((hb.cell (p := ⟨0, 0, none⟩) hw1).trans hm1) (Nat.lt_of_lt_of_le hw1 hb.size))
    have hb0 : Below w1.heap.size w1 w1 := Below.refl _ _
    clear hm1 hlv hll HK HM HC
    go_wp2_with (first
      | (go_at_call 8; (with_reducible refine (HO.out _ _ (by assumption)).mono ?_); rintro e w2 ⟨rfl, hb2⟩; clear hb0; have hb0 := hb2; clear hb2)
      | (go_at_call 9; (with_reducible refine (HC2.out _ (by assumption)).mono ?_); rintro e w2 ⟨rfl, hb2⟩; clear hb0; have hb0 := hb2; clear hb2)
      | (go_at_call 6; (with_reducible refine (HK2.out _ (by assumption)).mono ?_); rintro e w2 ⟨rfl, hb2⟩; clear hb0; have hb0 := hb2; clear hb2))
    go_ret
    exact ⟨rfl, HB1.out.trans (hb0.mono HB1.out.size)⟩
  · have h9' : 9000 < l.length := by omega
    have HK1 := HK w hm hw0
    clear hm
    go_enter Tryd.func3, Tryd.ntmps3
    go_wp2_with (go_at_call 6; refine HK1.out.mono ?_; rintro e w' ⟨rfl, hb⟩)
    go_ret
    exact ⟨rfl, hb⟩
end Go.Proofs.YtppmjlfecbaicaaDoor
