/- Attributes put into a writer. -/
import Derived.Test.YtniaijgejljjbaaY15
namespace Go.Proofs.Ytniaijgejljjbaa.Tlv
open Go.RowKit
set_option maxRecDepth 100000
set_option linter.unusedVariables false
set_option linter.unusedSimpArgs false
def itemI (a : At) (k : Nat) : List Int := if k = 0 then valB 1 (bytesOf (sx a.t)) else valB 2 (bytesOf (sx a.v))
def atB (a : At) : List Int := valB 3 (valB 1 (bytesOf (sx a.t)) ++ valB 2 (bytesOf (sx a.v)))
def itemO (l : List At) (i : Nat) : List Int := atB (l.getD i default)
def atsB (l : List At) : List Int := l.flatMap atB
theorem allI_inner (a : At) : allI (itemI a) 2 = valB 1 (bytesOf (sx a.t)) ++ valB 2 (bytesOf (sx a.v)) := by
 unfold allI itemI
 simp [List.range_succ]
theorem allI_outer (l : List At) : allI (itemO l) l.length = atsB l := by
 have h : ∀ k, k ≤ l.length → allI (itemO l) k = atsB (l.take k) := by
   intro k
   induction k with
   | zero => intro _; rfl
   | succ k ih =>
     intro hk
     rw [allI_succ, ih (by omega), take_snoc l k (by omega)]
     unfold atsB itemO
     rw [List.flatMap_append]
     simp
 rw [h l.length (Nat.le_refl _), List.take_length]
def sumA (l : List At) : Nat := (l.map fun a => a.t.length + a.v.length).sum
structure FewA (l : List At) : Prop where
 many : l.length ≤ 200
 sum : sumA l ≤ 100000
theorem bytes_sx (l : List UInt8) : (bytesOf (sx l)).length = l.length := by rw [bytesOf_length, sx_size]
theorem atB_len (a : At) : (atB a).length = 15 + (a.t.length + a.v.length) := by
 unfold atB
 rw [valB_length, List.length_append, valB_length, valB_length, bytes_sx, bytes_sx]
 omega
theorem sumA_take : ∀ (l : List At) (k : Nat), sumA (l.take k) ≤ sumA l
 | [], k => by simp [sumA]
 | x :: l, 0 => by simp [sumA]
 | x :: l, k + 1 => by
   have := sumA_take l k
   simp only [sumA, List.take_succ_cons, List.map_cons, List.sum_cons] at *
   omega
theorem atsB_len (l : List At) : (atsB l).length = 15 * l.length + sumA l := by
 induction l with
 | nil => rfl
 | cons x l ih =>
   have h : (atsB (x :: l)).length = (atB x).length + (atsB l).length := by unfold atsB; rw [List.flatMap_cons, List.length_append]
   rw [h, ih, atB_len]
   simp only [sumA, List.map_cons, List.sum_cons, List.length_cons]
   omega
theorem sumA_mem {l : List At} {x : At} (h : x ∈ l) : x.t.length + x.v.length ≤ sumA l := by
 induction l with
 | nil => cases h
 | cons y l ih =>
   simp only [sumA, List.map_cons, List.sum_cons]
   rcases List.mem_cons.1 h with rfl | h
   · omega
   · have := ih h
     unfold sumA at this
     omega
theorem allI_le (l : List At) (hf : FewA l) (k : Nat) (hk : k ≤ l.length) : (allI (itemO l) k).length ≤ 4000000 := by
 have h : ∀ k, k ≤ l.length → allI (itemO l) k = atsB (l.take k) := by
   intro k
   induction k with
   | zero => intro _; rfl
   | succ k ih =>
     intro hk
     rw [allI_succ, ih (by omega), take_snoc l k (by omega)]
     unfold atsB itemO
     rw [List.flatMap_append]
     simp
 rw [h k hk, atsB_len]
 have h1 := sumA_take l k
 have h2 := hf.many
 have h3 := hf.sum
 rw [List.length_take]
 omega
set_option maxHeartbeats 2000000 in
theorem putI_any (g B5 B4 base n c m k i : Nat) (A : Option Addr) (l : List At) (q : List Int) (w : World) (hs : WS w base g (some q) m) (hb : base ≤ w.heap.size) (h5 : Blk w B5 36 #[.slice A n c]) (h4 : Blk w B4 3 #[.int .i64 (i : Int)])
   (hr : Ytniaijgejljjbaa.RdK kA w w.heap.size A l) (hnl : n = l.length) (hi : i < l.length) (hf : FewA l) (hk : k < 2) (hq : q.length ≤ 4000000) (hm : m ≤ 1000000) (hgb : base ≤ g) :
   Calls Try.prog 80 #[.pointer (some ⟨g, 0, none⟩), .int .i64 (k : Int), .pointer (some ⟨B5, 0, none⟩), .pointer (some ⟨B4, 0, none⟩)] w fun e w' => (∃ v, e = .returned v) ∧ WS w' base g (some (q ++ itemI (l.getD i default) k)) (m + 1) ∧ WB base w w' := by
 obtain ⟨b, off, rfl, _, c0, c1⟩ := at_cells hr (Below.refl _ _) hi
 have hmem : l.getD i default ∈ l := by rw [getD_at l i hi]; exact List.getElem_mem _
 have hsz := sumA_mem hmem
 have hf2 := hf.sum
 have hin : i < n := by omega
 have hml := hf.many
 have hn2 : n ≤ 200 := by omega
 generalize l.getD i default = a at c0 c1 hsz ⊢
 have d5 := h5.cell 0
 have d4 := h4.cell 0
 have ht := Lib.hid (text_any g (some q) m 1 (sx a.t) base w hs hb (by decide) (by decide) (by rw [sx_size]; omega) (fun l' e => by injection e with e; subst e; omega) hm hgb)
 have hv := Lib.hid (text_any g (some q) m 2 (sx a.v) base w hs hb (by decide) (by decide) (by rw [sx_size]; omega) (fun l' e => by injection e with e; subst e; omega) hm hgb)
 clear hs hr h5 h4 hmem hsz hf2 hf hi hnl hml
 have hk2 : k = 0 ∨ k = 1 := by omega
 rcases hk2 with rfl | rfl
 · go_enter Try.func80, Try.ntmps80
   go_wp2_with (go_at_call 66; (with_reducible refine ht.out.mono ?_); rintro e w1 ⟨rfl, h1, h2⟩)
   go_end0
   exact ⟨⟨_, rfl⟩, by simpa [putS, cntS, itemI, valB] using h1, h2⟩
 · go_enter Try.func80, Try.ntmps80
   go_wp2_with (go_at_call 66; (with_reducible refine hv.out.mono ?_); rintro e w1 ⟨rfl, h1, h2⟩)
   go_end0
   exact ⟨⟨_, rfl⟩, by simpa [putS, cntS, itemI, valB] using h1, h2⟩
set_option maxHeartbeats 2000000 in
theorem putO_any (g B5 base n c m i : Nat) (A : Option Addr) (l : List At) (q : List Int) (w : World) (hs : WS w base g (some q) m) (hb : base ≤ w.heap.size) (h5 : Blk w B5 36 #[.slice A n c])
   (hr : Ytniaijgejljjbaa.RdK kA w w.heap.size A l) (hnl : n = l.length) (hi : i < l.length) (hf : FewA l) (hq : q.length ≤ 4000000) (hm : m ≤ 1000000) (hgb : base ≤ g) :
   Calls Try.prog 79 #[.pointer (some ⟨g, 0, none⟩), .int .i64 (i : Int), .pointer (some ⟨B5, 0, none⟩)] w fun e w' => (∃ v, e = .returned v) ∧ WS w' base g (some (q ++ itemO l i)) (m + 1) ∧ WB base w w' := by
 have hb1 : Below w.heap.size w (w.alloc (.cells #[.int .i64 (i : Int)] 3)) := (Below.refl _ _).alloc (Nat.le_refl _) _
 have h4 := Blk.new w 3 #[.int .i64 (i : Int)]
 have h5' := h5.on hb1
 have hs' := WS.on (s := some q) hs hb1
 have hr' := hr.on hb1
 have hmem : l.getD i default ∈ l := by rw [getD_at l i hi]; exact List.getElem_mem _
 have hsz := sumA_mem hmem
 have hf2 := hf.sum
 generalize hW : w.alloc (.cells #[.int .i64 (i : Int)] 3) = W at hb1 h4 h5' hs' hr'
 have hl := listI_any g B5 w.heap.size base (some q) m 2 (itemI (l.getD i default)) 3 W hs' (Nat.le_trans hb hb1.size) (by decide)
   (fun k q2 m2 W2 hk hs2 hwb hq2 hm2 => by
     have hW2 : Below W.heap.size W W2 := ((Below.refl _ _).alloc (Nat.le_refl _) _).trans hwb.bel
     exact putI_any W.heap.size B5 w.heap.size W.heap.size n c m2 k i A l q2 W2 hs2 hW2.size (h5'.on hW2) (h4.on hW2) (hr'.on hW2) hnl hi hf hk hq2 hm2 (Nat.le_refl _))
   (fun k hk => by
     have hk3 : k = 0 ∨ k = 1 ∨ k = 2 := by omega
     have e2 : (allI (itemI (l.getD i default)) 2).length = 10 + ((l.getD i default).t.length + (l.getD i default).v.length) := by
       rw [allI_inner, List.length_append, valB_length, valB_length, bytes_sx, bytes_sx]
       omega
     rcases hk3 with rfl | rfl | rfl
     · simp [allI]
     · have : (allI (itemI (l.getD i default)) 2).length = (allI (itemI (l.getD i default)) 1).length + (itemI (l.getD i default) 1).length := by rw [allI_succ, List.length_append]
       omega
     · omega)
   hgb (by decide) (by decide) (fun l' e => by injection e with e; subst e; omega) hm
 have hput : putS (some q) 3 (allI (itemI (l.getD i default)) 2) = some (q ++ itemO l i) := by
   rw [allI_inner]
   simp [putS, itemO, atB, valB]
 rw [hput, show ((2 : Nat) : Int) = 2 from rfl] at hl
 have HL := Lib.hid hl
 have HB := Lib.hid (WB.of hb1 hb)
 subst hW
 clear hl hb1 h4 h5 h5' hs hs' hr hr' hmem hsz hf2 hput hnl
 go_enter Try.func79, Try.ntmps79
 go_wp2_with (go_at_call 68; (with_reducible refine HL.out.mono ?_); rintro e w1 ⟨rfl, h1, h2⟩)
 go_end0
 exact ⟨⟨_, rfl⟩, by simpa [cntS] using h1, HB.out.trans h2⟩
set_option maxHeartbeats 2000000 in
theorem put_any (g base m : Nat) (s : Option (List Int)) (tag : Int) (l : List At) (v : Value) (w : World) (hs : WS w base g s m) (hb : base ≤ w.heap.size) (hv : RdV w v l) (hf : FewA l) (hgb : base ≤ g) (ht : 0 ≤ tag) (ht2 : tag ≤ 255) (hl : ∀ q, s = some q → q.length ≤ 100000000) (hm : m ≤ 1000000) :
   Calls Try.prog 67 #[.pointer (some ⟨g, 0, none⟩), .int .u8 tag, v] w fun e w' => (∃ u, e = .returned u) ∧ WS w' base g (putS s tag (atsB l)) (cntS s tag m) ∧ WB base w w' := by
 obtain ⟨A, c, rfl, _, hr⟩ := hv
 obtain ⟨n, hn⟩ : ∃ n, n = l.length := ⟨_, rfl⟩
 rw [← hn]
 have hb1 : Below w.heap.size w (w.alloc (.cells #[.slice A n c] 36)) := (Below.refl _ _).alloc (Nat.le_refl _) _
 have h5 := Blk.new w 36 #[.slice A n c]
 have hs' := WS.on hs hb1
 have hr' := hr.on hb1
 have hn2 := hf.many
 generalize hW : w.alloc (.cells #[.slice A n c] 36) = W at hb1 h5 hs' hr'
 have hll := listO_any g w.heap.size base s m n (itemO l) tag W hs' (Nat.le_trans hb hb1.size) (by omega)
   (fun k q2 m2 W2 hk hs2 hwb hq2 hm2 => by
     have hW2 : Below W.heap.size W W2 := ((Below.refl _ _).alloc (Nat.le_refl _) _).trans hwb.bel
     exact putO_any W.heap.size w.heap.size W.heap.size n c m2 k A l q2 W2 hs2 hW2.size (h5.on hW2) (hr'.on hW2) hn (by omega) hf hq2 hm2 (Nat.le_refl _))
   (fun k hk => allI_le l hf k (by omega)) hgb ht ht2 hl hm
 rw [hn, allI_outer] at hll
 rw [← hn] at hll
 have HL := Lib.hid hll
 have HB := Lib.hid (WB.of hb1 hb)
 have c5 := h5.cell 0
 subst hW
 clear hll hb1 h5 hs hs' hr hr' hn
 go_enter Try.func67, Try.ntmps67
 go_wp2_with (go_at_call 68; (with_reducible refine HL.out.mono ?_); rintro e w1 ⟨rfl, h1, h2⟩)
 go_end0
 exact ⟨⟨_, rfl⟩, h1, HB.out.trans h2⟩
end Go.Proofs.Ytniaijgejljjbaa.Tlv
