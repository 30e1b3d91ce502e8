/- Attributes put into a writer. -/
import Derived.Test.YtcjiofhjognklaaGreatV15
import Derived.Deep.RegionHeld3
import Derived.Deep.RegionLaw
namespace Go.Proofs.YtcjiofhjognklaaGreat.Tlv
open Go.RowKit
set_option maxRecDepth 100000
set_option linter.unusedVariables false
set_option linter.unusedSimpArgs false
def itemI (a : At) (k : Nat) : List Int := if k = 0 then valB 1 (bytesOf (sx a.t)) else valB 2 (bytesOf (sx a.v))
def atB (a : At) : List Int := valB 3 (valB 1 (bytesOf (sx a.t)) ++ valB 2 (bytesOf (sx a.v)))
def itemO (l : List At) (i : Nat) : List Int := atB (l.getD i default)
def atsB (l : List At) : List Int := l.flatMap atB
theorem allI_inner (a : At) : allI (itemI a) 2 = valB 1 (bytesOf (sx a.t)) ++ valB 2 (bytesOf (sx a.v)) := by
 unfold allI itemI
 simp [List.range_succ]
theorem allI_outer (l : List At) : allI (itemO l) l.length = atsB l := by
 have h : ∀ k, k ≤ l.length → allI (itemO l) k = atsB (l.take k) := by
   intro k
   induction k with
   | zero => intro _; rfl
   | succ k ih =>
     intro hk
     rw [allI_succ, ih (by omega), take_snoc l k (by omega)]
     unfold atsB itemO
     rw [List.flatMap_append]
     simp
 rw [h l.length (Nat.le_refl _), List.take_length]
def sumA (l : List At) : Nat := (l.map fun a => a.t.length + a.v.length).sum
structure FewA (l : List At) : Prop where
 many : l.length ≤ 200
 sum : sumA l ≤ 100000
theorem bytes_sx (l : List UInt8) : (bytesOf (sx l)).length = l.length := by rw [bytesOf_length, sx_size]
theorem atB_len (a : At) : (atB a).length = 15 + (a.t.length + a.v.length) := by
 unfold atB
 rw [valB_length, List.length_append, valB_length, valB_length, bytes_sx, bytes_sx]
 omega
theorem sumA_take : ∀ (l : List At) (k : Nat), sumA (l.take k) ≤ sumA l
 | [], k => by simp [sumA]
 | x :: l, 0 => by simp [sumA]
 | x :: l, k + 1 => by
   have := sumA_take l k
   simp only [sumA, List.take_succ_cons, List.map_cons, List.sum_cons] at *
   omega
theorem atsB_len (l : List At) : (atsB l).length = 15 * l.length + sumA l := by
 induction l with
 | nil => rfl
 | cons x l ih =>
   have h : (atsB (x :: l)).length = (atB x).length + (atsB l).length := by unfold atsB; rw [List.flatMap_cons, List.length_append]
   rw [h, ih, atB_len]
   simp only [sumA, List.map_cons, List.sum_cons, List.length_cons]
   omega
theorem sumA_mem {l : List At} {x : At} (h : x ∈ l) : x.t.length + x.v.length ≤ sumA l := by
 induction l with
 | nil => cases h
 | cons y l ih =>
   simp only [sumA, List.map_cons, List.sum_cons]
   rcases List.mem_cons.1 h with rfl | h
   · omega
   · have := ih h
     unfold sumA at this
     omega
theorem allI_le (l : List At) (hf : FewA l) (k : Nat) (hk : k ≤ l.length) : (allI (itemO l) k).length ≤ 4000000 := by
 have h : ∀ k, k ≤ l.length → allI (itemO l) k = atsB (l.take k) := by
   intro k
   induction k with
   | zero => intro _; rfl
   | succ k ih =>
     intro hk
     rw [allI_succ, ih (by omega), take_snoc l k (by omega)]
     unfold atsB itemO
     rw [List.flatMap_append]
     simp
 rw [h k hk, atsB_len]
 have h1 := sumA_take l k
 have h2 := hf.many
 have h3 := hf.sum
 rw [List.length_take]
 omega
set_option maxHeartbeats 2000000 in
theorem putI_any (g B5 B4 base n c m k i : Nat) (A : Option Addr) (l : List At) (q : List Int) (w : World) (hs : WS w base g (some q) m) (hb : base ≤ w.heap.size) (h5 : Blk w B5 23 #[.slice A n c]) (h4 : Blk w B4 3 #[.int .i64 (i : Int)])
   (hr : YtcjiofhjognklaaGreat.RdK kA w w.heap.size A l) (hnl : n = l.length) (hi : i < l.length) (hf : FewA l) (hk : k < 2) (hq : q.length ≤ 4000000) (hm : m ≤ 1000000) (hgb : base ≤ g) :
   Calls Tryz.prog 113 #[.pointer (some ⟨g, 0, none⟩), .int .i64 (k : Int), .pointer (some ⟨B5, 0, none⟩), .pointer (some ⟨B4, 0, none⟩)] w fun e w' => (∃ v, e = .returned v) ∧ WS w' base g (some (q ++ itemI (l.getD i default) k)) (m + 1) ∧ WB base w w' := by
 obtain ⟨b, off, rfl, _, c0, c1⟩ := at_cells hr (Below.refl _ _) hi
 have hmem : l.getD i default ∈ l := by rw [getD_at l i hi]; exact List.getElem_mem _
 have hsz := sumA_mem hmem
 have hf2 := hf.sum
 have hin : i < n := by omega
 have hml := hf.many
 have hn2 : n ≤ 200 := by omega
 generalize l.getD i default = a at c0 c1 hsz ⊢
 have d5 := h5.cell 0
 have d4 := h4.cell 0
 have ht := Lib.hid (text_any g (some q) m 1 (sx a.t) base w hs hb (by decide) (by decide) (by rw [sx_size]; omega) (fun l' e => by injection e with e; subst e; omega) hm hgb)
 have hv := Lib.hid (text_any g (some q) m 2 (sx a.v) base w hs hb (by decide) (by decide) (by rw [sx_size]; omega) (fun l' e => by injection e with e; subst e; omega) hm hgb)
 clear hs hr h5 h4 hmem hsz hf2 hf hi hnl hml
 have hk2 : k = 0 ∨ k = 1 := by omega
 rcases hk2 with rfl | rfl
 · go_enter Tryz.func113, Tryz.ntmps113
   go_wp2_with (go_at_call 46; (with_reducible refine ht.out.mono ?_); rintro e w1 ⟨rfl, h1, h2⟩)
   go_end0
   exact ⟨⟨_, rfl⟩, by simpa [putS, cntS, itemI, valB] using h1, h2⟩
 · go_enter Tryz.func113, Tryz.ntmps113
   go_wp2_with (go_at_call 46; (with_reducible refine hv.out.mono ?_); rintro e w1 ⟨rfl, h1, h2⟩)
   go_end0
   exact ⟨⟨_, rfl⟩, by simpa [putS, cntS, itemI, valB] using h1, h2⟩
set_option maxHeartbeats 2000000 in
theorem putO_any (g B5 base n c m i : Nat) (A : Option Addr) (l : List At) (q : List Int) (w : World) (hs : WS w base g (some q) m) (hb : base ≤ w.heap.size) (h5 : Blk w B5 23 #[.slice A n c])
   (hr : YtcjiofhjognklaaGreat.RdK kA w w.heap.size A l) (hnl : n = l.length) (hi : i < l.length) (hf : FewA l) (hq : q.length ≤ 4000000) (hm : m ≤ 1000000) (hgb : base ≤ g) :
   Calls Tryz.prog 112 #[.pointer (some ⟨g, 0, none⟩), .int .i64 (i : Int), .pointer (some ⟨B5, 0, none⟩)] w fun e w' => (∃ v, e = .returned v) ∧ WS w' base g (some (q ++ itemO l i)) (m + 1) ∧ WB base w w' := by
 have hb1 : Below w.heap.size w (w.alloc (.cells #[.int .i64 (i : Int)] 3)) := (Below.refl _ _).alloc (Nat.le_refl _) _
 have h4 := Blk.new w 3 #[.int .i64 (i : Int)]
 have h5' := h5.on hb1
 have hs' := WS.on (s := some q) hs hb1
 have hr' := hr.on hb1
 have hmem : l.getD i default ∈ l := by rw [getD_at l i hi]; exact List.getElem_mem _
 have hsz := sumA_mem hmem
 have hf2 := hf.sum
 generalize hW : w.alloc (.cells #[.int .i64 (i : Int)] 3) = W at hb1 h4 h5' hs' hr'
 have hl := listI_any g B5 w.heap.size base (some q) m 2 (itemI (l.getD i default)) 3 W hs' (Nat.le_trans hb hb1.size) (by decide)
   (fun k q2 m2 W2 hk hs2 hwb hq2 hm2 => by
     have hW2 : Below W.heap.size W W2 := ((Below.refl _ _).alloc (Nat.le_refl _) _).trans hwb.bel
     exact putI_any W.heap.size B5 w.heap.size W.heap.size n c m2 k i A l q2 W2 hs2 hW2.size (h5'.on hW2) (h4.on hW2) (hr'.on hW2) hnl hi hf hk hq2 hm2 (Nat.le_refl _))
   (fun k hk => by
     have hk3 : k = 0 ∨ k = 1 ∨ k = 2 := by omega
     have e2 : (allI (itemI (l.getD i default)) 2).length = 10 + ((l.getD i default).t.length + (l.getD i default).v.length) := by
       rw [allI_inner, List.length_append, valB_length, valB_length, bytes_sx, bytes_sx]
       omega
     rcases hk3 with rfl | rfl | rfl
     · simp [allI]
     · have : (allI (itemI (l.getD i default)) 2).length = (allI (itemI (l.getD i default)) 1).length + (itemI (l.getD i default) 1).length := by rw [allI_succ, List.length_append]
       omega
     · omega)
   hgb (by decide) (by decide) (fun l' e => by injection e with e; subst e; omega) hm
 have hput : putS (some q) 3 (allI (itemI (l.getD i default)) 2) = some (q ++ itemO l i) := by
   rw [allI_inner]
   simp [putS, itemO, atB, valB]
 rw [hput, show ((2 : Nat) : Int) = 2 from rfl] at hl
 have HL := Lib.hid hl
 have HB := Lib.hid (WB.of hb1 hb)
 subst hW
 clear hl hb1 h4 h5 h5' hs hs' hr hr' hmem hsz hf2 hput hnl
 go_enter Tryz.func112, Tryz.ntmps112
 go_wp2_with (go_at_call 48; (with_reducible refine HL.out.mono ?_); rintro e w1 ⟨rfl, h1, h2⟩)
 go_end0
 exact ⟨⟨_, rfl⟩, by simpa [cntS] using h1, HB.out.trans h2⟩
set_option maxHeartbeats 2000000 in
theorem put_any (g base m : Nat) (s : Option (List Int)) (tag : Int) (l : List At) (v : Value) (w : World) (hs : WS w base g s m) (hb : base ≤ w.heap.size) (hv : RdV w v l) (hf : FewA l) (hgb : base ≤ g) (ht : 0 ≤ tag) (ht2 : tag ≤ 255) (hl : ∀ q, s = some q → q.length ≤ 100000000) (hm : m ≤ 1000000) :
   Calls Tryz.prog 47 #[.pointer (some ⟨g, 0, none⟩), .int .u8 tag, v] w fun e w' => (∃ u, e = .returned u) ∧ WS w' base g (putS s tag (atsB l)) (cntS s tag m) ∧ WB base w w' := by
 obtain ⟨A, c, rfl, _, hr⟩ := hv
 obtain ⟨n, hn⟩ : ∃ n, n = l.length := ⟨_, rfl⟩
 rw [← hn]
 have hb1 : Below w.heap.size w (w.alloc (.cells #[.slice A n c] 23)) := (Below.refl _ _).alloc (Nat.le_refl _) _
 have h5 := Blk.new w 23 #[.slice A n c]
 have hs' := WS.on hs hb1
 have hr' := hr.on hb1
 have hn2 := hf.many
 generalize hW : w.alloc (.cells #[.slice A n c] 23) = W at hb1 h5 hs' hr'
 have hll := listO_any g w.heap.size base s m n (itemO l) tag W hs' (Nat.le_trans hb hb1.size) (by omega)
   (fun k q2 m2 W2 hk hs2 hwb hq2 hm2 => by
     have hW2 : Below W.heap.size W W2 := ((Below.refl _ _).alloc (Nat.le_refl _) _).trans hwb.bel
     exact putO_any W.heap.size w.heap.size W.heap.size n c m2 k A l q2 W2 hs2 hW2.size (h5.on hW2) (hr'.on hW2) hn (by omega) hf hq2 hm2 (Nat.le_refl _))
   (fun k hk => allI_le l hf k (by omega)) hgb ht ht2 hl hm
 rw [hn, allI_outer] at hll
 rw [← hn] at hll
 have HL := Lib.hid hll
 have HB := Lib.hid (WB.of hb1 hb)
 have c5 := h5.cell 0
 subst hW
 clear hll hb1 h5 hs hs' hr hr' hn
 go_enter Tryz.func47, Tryz.ntmps47
 go_wp2_with (go_at_call 48; (with_reducible refine HL.out.mono ?_); rintro e w1 ⟨rfl, h1, h2⟩)
 go_end0
 exact ⟨⟨_, rfl⟩, h1, HB.out.trans h2⟩
theorem mayA_len {a : At} (h : mayA a = true) : a.t.length ≤ 32 ∧ a.v.length ≤ 1000 := by
 unfold mayA at h
 obtain ⟨h1, h2⟩ := Bool.and_eq_true_iff.1 h
 unfold mayT at h1
 unfold mayN at h2
 simp at h1 h2
 exact ⟨by omega, by omega⟩
theorem mayN_len {n : List UInt8} (h : mayN n = true) : n.length ≤ 1000 := by
 unfold mayN at h
 simp at h
 omega
def u8s (l : List Int) : List UInt8 := (mkS l).data.toList
theorem sx_u8s (l : List Int) : sx (u8s l) = mkS l := data_sx _
theorem u8s_bytes (l : List UInt8) : u8s (bytesOf (sx l)) = l := by unfold u8s; rw [mkS_bytesOf, sx_data]
theorem bytes_u8s {l : List Int} (h : Byt l) : bytesOf (sx (u8s l)) = l := by rw [sx_u8s, bytesOf_mkS h]
def inA (bs : List Int) : Option (List Int) × (Bool × List Int) := tk false bs 1
def inB (bs : List Int) : Option (List Int) × (Bool × List Int) := tk (inA bs).2.1 (inA bs).2.2 2
def mkAt (bs : List Int) : At := ⟨u8s ((inA bs).1.getD []), u8s ((inB bs).1.getD [])⟩
def okAt (bs : List Int) : Bool := decide ((inB bs).2 = (false, []))
def SmA (a : At) : Prop := a.t.length + a.v.length ≤ 4194294
theorem okAt_put (a : At) (h : SmA a) : okAt (valB 1 (bytesOf (sx a.t)) ++ valB 2 (bytesOf (sx a.v))) = true ∧ mkAt (valB 1 (bytesOf (sx a.t)) ++ valB 2 (bytesOf (sx a.v))) = a := by
 unfold SmA at h
 have h1 : inA (valB 1 (bytesOf (sx a.t)) ++ valB 2 (bytesOf (sx a.v))) = (some (bytesOf (sx a.t)), (false, valB 2 (bytesOf (sx a.v)))) := tk_put (by decide) (by rw [bytes_sx]; omega)
 have h2 : inB (valB 1 (bytesOf (sx a.t)) ++ valB 2 (bytesOf (sx a.v))) = (some (bytesOf (sx a.v)), (false, [])) := by
   unfold inB
   rw [h1]
   have := tk_put (tag := 2) (xs := bytesOf (sx a.v)) (r := []) (by decide) (by rw [bytes_sx]; omega)
   rwa [List.append_nil] at this
 refine ⟨by unfold okAt; rw [h2]; rfl, ?_⟩
 unfold mkAt
 rw [h1, h2]
 show (⟨u8s (bytesOf (sx a.t)), u8s (bytesOf (sx a.v))⟩ : At) = a
 rw [u8s_bytes, u8s_bytes]
theorem okAt_inv {bs : List Int} (hb : Byt bs) (h : okAt bs = true) : bs = valB 1 (bytesOf (sx (mkAt bs).t)) ++ valB 2 (bytesOf (sx (mkAt bs).v)) := by
 have h2 : (inB bs).2 = (false, []) := of_decide_eq_true h
 unfold mkAt
 cases hA : inA bs with
 | mk oA qA =>
   obtain ⟨fA, rA⟩ := qA
   cases hB : inB bs with
   | mk oB qB =>
     rw [hB] at h2
     simp only at h2
     subst h2
     have hB' : tk fA rA 2 = (oB, (false, [])) := by
       have := hB
       unfold inB at this
       rw [hA] at this
       exact this
     cases oA with
     | none =>
       exfalso
       obtain ⟨x1, x2⟩ := tk_none hA
       subst x1
       simp [tk] at hB'
     | some vA =>
       obtain ⟨_, y2, _, y4, y5⟩ := tk_some hb hA
       subst y2
       have hbA : Byt vA := fun x hx => hb x (by rw [y4]; simp [valB, hx])
       have hbr : Byt rA := fun x hx => hb x (by rw [y4]; simp [hx])
       cases oB with
       | none =>
         exfalso
         obtain ⟨x1, x2⟩ := tk_none hB'
         cases x1
       | some vB =>
         obtain ⟨_, _, _, z4, z5⟩ := tk_some hbr hB'
         have hbB : Byt vB := fun x hx => hbr x (by rw [z4]; simp [valB, hx])
         show bs = valB 1 (bytesOf (sx (u8s vA))) ++ valB 2 (bytesOf (sx (u8s vB)))
         rw [bytes_u8s hbA, bytes_u8s hbB, y4, z4, List.append_nil]
theorem atB_cancel {a a' : At} {x y : List Int} (ha : SmA a) (ha' : SmA a') (h : atB a ++ x = atB a' ++ y) : a = a' ∧ x = y := by
 unfold SmA at ha ha'
 have e1 : tk false (atB a ++ x) 3 = (some (valB 1 (bytesOf (sx a.t)) ++ valB 2 (bytesOf (sx a.v))), (false, x)) := tk_put (by decide) (by rw [List.length_append, valB_length, valB_length, bytes_sx, bytes_sx]; omega)
 have e2 : tk false (atB a' ++ y) 3 = (some (valB 1 (bytesOf (sx a'.t)) ++ valB 2 (bytesOf (sx a'.v))), (false, y)) := tk_put (by decide) (by rw [List.length_append, valB_length, valB_length, bytes_sx, bytes_sx]; omega)
 rw [h, e2] at e1
 simp only [Prod.mk.injEq, Option.some.injEq, true_and] at e1
 obtain ⟨e3, e4⟩ := e1
 refine ⟨?_, e4.symm⟩
 have h1 := (okAt_put a ha).2
 have h2 := (okAt_put a' ha').2
 rw [← e3, h2] at h1
 exact h1.symm
theorem atsB_cons (a : At) (l : List At) : atsB (a :: l) = atB a ++ atsB l := by unfold atsB; rw [List.flatMap_cons]
theorem step_at {r : List Int} (hb : Byt r) (hst : stands r = true) :
   (okAt ((tk false r 3).1.getD []) = true ∧ (tk false r 3).2.1 = false ∧ r = atB (mkAt ((tk false r 3).1.getD [])) ++ (tk false r 3).2.2 ∧ (tk false r 3).2.2.length < r.length ∧ SmA (mkAt ((tk false r 3).1.getD []))) ∨
   ((okAt ((tk false r 3).1.getD []) = false ∨ (tk false r 3).2.2.length = r.length) ∧ ∀ l, (∀ a ∈ l, SmA a) → r ≠ atsB l) := by
 have hput : ∀ l, (∀ a ∈ l, SmA a) → r = atsB l → ∃ a l', l = a :: l' ∧ tk false r 3 = (some (valB 1 (bytesOf (sx a.t)) ++ valB 2 (bytesOf (sx a.v))), (false, atsB l')) ∧ SmA a := fun l hl e => by
   cases l with
   | nil => rw [e] at hst; simp [atsB, stands] at hst
   | cons a l' =>
     have ha := hl a (List.mem_cons_self ..)
     refine ⟨a, l', rfl, ?_, ha⟩
     rw [e, atsB_cons]
     unfold SmA at ha
     exact tk_put (by decide) (by rw [List.length_append, valB_length, valB_length, bytes_sx, bytes_sx]; omega)
 cases htk : tk false r 3 with
 | mk o q =>
   obtain ⟨f1, r1⟩ := q
   rw [htk] at hput
   cases o with
   | none =>
     obtain ⟨x1, x2⟩ := tk_none htk
     refine .inr ⟨.inr (by show r1.length = _; rw [x2]), fun l hl e => ?_⟩
     obtain ⟨a, l', _, h2, _⟩ := hput l hl e
     simp at h2
   | some bs =>
     obtain ⟨_, h2, _, h4, h5⟩ := tk_some hb htk
     have hbs : Byt bs := fun x hx => hb x (by rw [h4]; simp [valB, hx])
     show (okAt bs = true ∧ f1 = false ∧ r = atB (mkAt bs) ++ r1 ∧ r1.length < r.length ∧ SmA (mkAt bs)) ∨ ((okAt bs = false ∨ r1.length = r.length) ∧ _)
     cases hok : okAt bs with
     | true =>
       have hi := okAt_inv hbs hok
       have hl := congrArg List.length hi
       rw [List.length_append, valB_length, valB_length, bytes_sx, bytes_sx] at hl
       refine .inl ⟨rfl, h2, ?_, ?_, ?_⟩
       · unfold atB
         rw [← hi]
         exact h4
       · have := congrArg List.length h4
         rw [List.length_append, valB_length] at this
         omega
       · unfold SmA
         omega
     | false =>
       refine .inr ⟨.inl rfl, fun l hl e => ?_⟩
       obtain ⟨a, l', _, h6, h7⟩ := hput l hl e
       simp only [Prod.mk.injEq, Option.some.injEq] at h6
       have := (okAt_put a h7).1
       rw [← h6.1, hok] at this
       cases this
theorem cv_fun : ∃ (cv : World → ByteArray → World) (ca : World → ByteArray → Addr) (cc : World → ByteArray → Nat), ∀ W s, (convert 9 25 (.string s)).run Tryz.prog W = .ok (.slice (some (ca W s)) (bytesOf s).length (cc W s)) (cv W s) ∧ Rd (cv W s) (cv W s).heap.size (some (ca W s)) (bytesOf s) ∧ Below W.heap.size W (cv W s) :=
 ⟨fun W s => Classical.choose (text_conv W s), fun W s => ⟨W.heap.size, 0, none⟩, fun W s => Classical.choose (Classical.choose_spec (text_conv W s)), fun W s => Classical.choose_spec (Classical.choose_spec (text_conv W s))⟩
theorem Row.lowR {w : World} {base base' : Nat} {v : Value} {l : List Int} (h : Row w base v l) (hb : base' ≤ base) : Row w base' v l := by
 refine ⟨h.1, ?_⟩
 rcases h.2 with h0 | ⟨g, cap, cur, hv, hg, rest⟩
 · exact .inl h0
 · exact .inr ⟨g, cap, cur, hv, Nat.le_trans hb hg, rest⟩
theorem Rd.on {w w' : World} {A : Option Addr} {l : List Int} (h : Rd w w.heap.size A l) (hb : Below w.heap.size w w') : Rd w' w'.heap.size A l := (h.below hb).more hb.size
theorem row_nilR {w : World} {base n c : Nat} {A : Option Addr} {l : List Int} (h : Row w base (.slice A n c) l) : A = none → c = 0 := fun e => by
 subst e
 rcases h.2 with ⟨e0, _⟩ | ⟨g', cap, cur, e0, _⟩
 · injection e0
 · cases e0
def Rows2 (w : World) (base : Nat) (A : Option Addr) (c : Nat) (l : List Int) : Prop := RowK kB w base (.slice A l.length c) l ∧ Rd w w.heap.size A l ∧ (A = none → c = 0)
theorem row_two {w : World} {base : Nat} {v : Value} {l : List Int} (h : Row w base v l) : ∃ A c, v = .slice A l.length c ∧ Rows2 w base A c l := by
 obtain ⟨A, c, rfl, _, hr⟩ := h.rd
 exact ⟨A, c, rfl, row_k.2 h, hr, row_nilR h⟩
theorem atsB_snoc (l : List At) (k : Nat) (h : k < l.length) : atsB (l.take (k + 1)) = atsB (l.take k) ++ atB (l.getD k default) := by
 rw [take_snoc l k h]
 unfold atsB
 rw [List.flatMap_append]
 simp
theorem atsB_take_len (l : List At) (k : Nat) (hf : FewA l) : (atsB (l.take k)).length ≤ 103000 := by
 rw [atsB_len, List.length_take]
 have h1 := sumA_take l k
 have h2 := hf.many
 have h3 := hf.sum
 omega
def VOut (wr : World) (xs : List Int) (e : Ending) (w' : World) : Prop := ∃ A c, e = .returned (.slice A xs.length c) ∧ Rows2 w' wr.heap.size A c xs ∧ Below wr.heap.size wr w'
theorem value_out (wr : World) (tag : Int) (xs ys : List Int) (A : Option Addr) (c : Nat) (w : World) (hw : Below wr.heap.size wr w) (hr : Rd w w.heap.size A xs) (hA : A = none → c = 0) (hx : xs.length ≤ 4194304) (hy : ys = valB tag xs) :
   Calls Tryz.prog 79 #[.int .u8 tag, .slice A xs.length c] w fun e w' => VOut wr ys e w' ∧ Below w.heap.size w w' := by
 refine (refValue_any tag xs A c w hr hA hx).mono ?_
 rintro e w' ⟨v, rfl, h1, h2⟩
 subst hy
 obtain ⟨A', c', rfl, h3⟩ := row_two (h1.lowR hw.size)
 exact ⟨⟨A', c', rfl, h3, hw.trans (h2.mono hw.size)⟩, h2⟩
theorem Rows2.on {w w' : World} {base c : Nat} {A : Option Addr} {l : List Int} (h : Rows2 w base A c l) (hb : Below w.heap.size w w') : Rows2 w' base A c l := ⟨row_k.2 (Row.below (row_k.1 h.1) hb), h.2.1.on hb, h.2.2⟩
set_option maxHeartbeats 8000000 in
theorem refAttrs_any (tag : Int) (l : List At) (v : Value) (w : World) (hv : RdV w v l) (hf : FewA l) :
   Calls Tryz.prog 80 #[.int .u8 tag, v] w fun e w' => ∃ u, e = .returned u ∧ Row w' w.heap.size u (valB tag (atsB l)) ∧ Below w.heap.size w w' := by
 obtain ⟨A, c, rfl, _, hr⟩ := hv
 have HR := Lib.hid hr
 have HF := Lib.hid hf
 obtain ⟨n, hn⟩ : ∃ n, n = l.length := ⟨_, rfl⟩
 have hn2 : n ≤ 200 := by have := hf.many; omega
 rw [← hn]
 have HN := Lib.hid hn
 clear hr hf hn
 obtain ⟨cv, ca, cc, hcv⟩ := cv_fun
 go_enter Tryz.func80, Tryz.ntmps80
 go_wp2
 go_loopw [5, 6] (fun s5 s6 wr => ∃ k : Nat, s6 = .int .i64 k ∧ k ≤ n ∧ Hid (Row wr w.heap.size s5 (atsB (l.take k)) ∧ Below w.heap.size w wr)) (fun _ s6 _ => n - (intOf s6).toNat)
 case atStart => exact ⟨0, rfl, Nat.zero_le _, Lib.hid ⟨World.ownsRow_nil _ _ _ _, Below.refl _ _⟩⟩
 case round =>
   obtain ⟨k, rfl, hk, H⟩ := hrel
   by_cases hlt : k < n
   · have hkl : k < l.length := by have := HN.out; omega
     obtain ⟨b, off, rfl, hbl, c0', c1'⟩ := at_cells HR.out (Below.refl _ _) hkl
     have hmem : l.getD k default ∈ l := by rw [getD_at l k hkl]; exact List.getElem_mem _
     have hsz := sumA_mem hmem
     have hf3 := HF.out.sum
     have HAS := Lib.hid (atsB_snoc l k hkl)
     have HQL := Lib.hid (atsB_take_len l k HF.out)
     have HAL := Lib.hid (atB_len (l.getD k default))
     have HAB : Hid (atB (l.getD k default) = valB 3 (valB 1 (bytesOf (sx (l.getD k default).t)) ++ valB 2 (bytesOf (sx (l.getD k default).v)))) := Lib.hid rfl
     generalize atsB (l.take k) = q at H HAS HQL
     generalize atB (l.getD k default) = ab at HAS HAL HAB
     generalize l.getD k default = x at c0' c1' hsz HAL HAB
     have HSZ := Lib.hid (And.intro (show (bytesOf (sx x.t)).length ≤ 200000 by rw [bytes_sx]; omega) (And.intro (show (bytesOf (sx x.v)).length ≤ 200000 by rw [bytes_sx]; omega) (show (ab).length ≤ 200000 by rw [HAL.out]; omega)))
     have hT := hcv wr.drew (sx x.t)
     have hcT : ∀ W, (convert 9 25 (.string (sx x.t))).run Tryz.prog W = .ok (.slice (some (ca W (sx x.t))) (bytesOf (sx x.t)).length (cc W (sx x.t))) (cv W (sx x.t)) := fun W => (hcv W _).1
     have hcV : ∀ W, (convert 9 25 (.string (sx x.v))).run Tryz.prog W = .ok (.slice (some (ca W (sx x.v))) (bytesOf (sx x.v)).length (cc W (sx x.v))) (cv W (sx x.v)) := fun W => (hcv W _).1
     have HCT := Lib.hid fun W => (hcv W (sx x.t)).2
     have HCV := Lib.hid fun W => (hcv W (sx x.v)).2
     have hS0 := fun W' (hb : Below wr.heap.size wr W') => And.intro (((H.out.2.trans (hb.mono H.out.2.size)).cell (p := ⟨b, off + k * 2, none⟩) hbl).trans c0') (((H.out.2.trans (hb.mono H.out.2.size)).cell (p := ⟨b, off + k * 2 + 1, none⟩) hbl).trans c1')
     generalize sx x.t = sT at *
     generalize sx x.v = sV at *
     obtain ⟨bt, hbt⟩ : ∃ bt, bt = bytesOf sT := ⟨_, rfl⟩
     obtain ⟨bv, hbv⟩ : ∃ bv, bv = bytesOf sV := ⟨_, rfl⟩
     rw [← hbt] at hcT HCT HSZ HAB
     rw [← hbv] at hcV HCV HSZ HAB
     obtain ⟨p1, hp1⟩ : ∃ p, p = valB 1 bt := ⟨_, rfl⟩
     obtain ⟨p2, hp2⟩ : ∃ p, p = valB 2 bv := ⟨_, rfl⟩
     rw [← hp1, ← hp2] at HAB
     have hp12 : (p1 ++ p2).length ≤ 500000 := by rw [List.length_append, hp1, hp2, valB_length, valB_length]; have h1 := HSZ.out.1; have h2 := HSZ.out.2.1; omega
     obtain ⟨p3, hp3⟩ : ∃ p, p = p1 ++ p2 := ⟨_, rfl⟩
     rw [← hp3] at HAB hp12
     have HP3 := Lib.hid hp3
     have HPL := Lib.hid hp12
     have HS := Lib.hid hS0
     have HQ := Lib.hid H.out.1
     have HB := Lib.hid H.out.2
     obtain ⟨c0, c1⟩ := hS0 wr (Below.refl _ _)
     -- the worlds of the conversions
     have b0 : Below wr.heap.size wr wr.drew := below_drew (Below.refl _ _)
     have hTb := (HCT.out wr.drew).2
     have hVb := (HCV.out wr.drew).2
     have bT := b0.trans (hTb.mono b0.size)
     have bV := b0.trans (hVb.mono b0.size)
     have hTV := HCV.out (cv wr.drew sT)
     have hVT := HCT.out (cv wr.drew sV)
     have bTV := bT.trans (hTV.2.mono bT.size)
     have bVT := bV.trans (hVT.2.mono bV.size)
     have xT := (HS.out _ bT).2
     have xV := (HS.out _ bV).1
     have Ha := Lib.hid (value_out wr 1 bt p1 _ (cc wr.drew sT) (cv wr.drew sT) bT (HCT.out wr.drew).1 (fun h => by cases h) (by have := HSZ.out.1; omega) hp1)
     have Hb := Lib.hid (value_out wr 1 bt p1 _ (cc wr.drew sT) (cv (cv wr.drew sT) sV) bTV ((HCT.out wr.drew).1.on hTV.2) (fun h => by cases h) (by have := HSZ.out.1; omega) hp1)
     have Hc := Lib.hid (value_out wr 1 bt p1 _ (cc (cv wr.drew sV) sT) (cv (cv wr.drew sV) sT) bVT hVT.1 (fun h => by cases h) (by have := HSZ.out.1; omega) hp1)
     have HRb := Lib.hid hTV.1
     have HRc := Lib.hid ((HCV.out wr.drew).1.on hVT.2)
     have HP2 := Lib.hid hp2
     have HV2 : Hid (∀ W A c, Below wr.heap.size wr W → Rd W W.heap.size (some A) bv → Calls Tryz.prog 79 #[.int .u8 2, .slice (some A) bv.length c] W fun e w' => VOut wr p2 e w' ∧ Below W.heap.size W w') := Lib.hid fun W A c h1 h2 => value_out wr 2 bv p2 _ c W h1 h2 (fun h => by cases h) (by have := HSZ.out.2.1; omega) HP2.out
     have HV3 : Hid (∀ W A c, Below wr.heap.size wr W → Rd W W.heap.size A p3 → (A = none → c = 0) → Calls Tryz.prog 79 #[.int .u8 3, .slice A p3.length c] W fun e w' => VOut wr ab e w' ∧ Below W.heap.size W w') := Lib.hid fun W A c h1 h2 h3 => value_out wr 3 p3 ab _ c W h1 h2 h3 (by have := HPL.out; omega) HAB.out
     have hzw : w.heap.size ≤ wr.heap.size := HB.out.size
     clear hsz hf3 hmem hS0 c0' c1' H hT hcv hbt hbv hp1 hp2 hp3 hp12 b0 hTb hVb bT bV hTV hVT bTV bVT
     go_wp2_with fail
     go_region_law (first
       | (go_simp; (with_reducible refine Ha.out.mono ?_); clear Ha Hb Hc HRb HRc; rintro e w20 ⟨⟨A20, c20, rfl, hR20, hB20⟩, _⟩; dsimp only; have y20 := (HS.out _ hB20).2; have H27 := Lib.hid (HV2.out (cv w20 sV) _ (cc w20 sV) (hB20.trans ((HCV.out w20).2.mono hB20.size)) (HCV.out w20).1); have HR20 := Lib.hid (hR20.on (HCV.out w20).2); clear hR20 HV2)
       | (go_simp; (with_reducible refine Hb.out.mono ?_); clear Ha Hb Hc HRc; rintro e w20 ⟨⟨A20, c20, rfl, hR20, hB20⟩, hb⟩; dsimp only; have H27 := Lib.hid (HV2.out w20 _ (cc (cv wr.drew sT) sV) hB20 (HRb.out.on hb)); have HR20 := Lib.hid hR20; clear hR20 HV2 hb HRb)
       | (go_simp; (with_reducible refine Hc.out.mono ?_); clear Ha Hb Hc HRb; rintro e w20 ⟨⟨A20, c20, rfl, hR20, hB20⟩, hb⟩; dsimp only; have H27 := Lib.hid (HV2.out w20 _ (cc wr.drew sV) hB20 (HRc.out.on hb)); have HR20 := Lib.hid hR20; clear hR20 HV2 hb HRc)
       | (go_simp; (with_reducible refine H27.out.mono ?_); clear H27; rintro e w27 ⟨⟨A27, c27, rfl, hR27, hB27⟩, hb27⟩; dsimp only; have HR27 := Lib.hid hR27; have HR20' := Lib.hid (HR20.out.on hb27); have hl28 : p1.length + p2.length ≤ 1000000000 := (by have h := HPL.out; rw [HP3.out, List.length_append] at h; omega); clear hR27 HR20)
       | (refine step_app kB (w := w27) (by rfl) _ _ (by rfl) p2 (by rfl) HR20'.out.1 (by rfl) (rd_k HR27.out.2.1) HR27.out.2.2 hl28 hB27.size ?_; intro v28 w28 hrow28 hgr28; have hb28 := row_below HR20'.out.1 hgr28 hB27.size; have hB28 := hB27.trans hb28; obtain ⟨A28, c28, e28, hR28⟩ := row_two (row_k.1 hrow28); rw [← HP3.out] at e28 hR28; subst e28; have H29 := Lib.hid (HV3.out w28 A28 c28 hB28 hR28.2.1 hR28.2.2); clear HR20' HR27 hrow28 hR28 HV3)
       | (go_simp; (with_reducible refine H29.out.mono ?_); clear H29; rintro e w29 ⟨⟨A29, c29, rfl, hR29, hB29⟩, _⟩; dsimp only; have HR29 := Lib.hid hR29; have hQ29 := row_k.2 (Row.below HQ.out hB29); have hl30 : q.length + ab.length ≤ 1000000000 := (by have h1 := HQL.out; have h2 := HSZ.out.2.2; omega); clear hR29)
       | (refine step_app kB (w := w29) (by rfl) _ _ (by rfl) ab (by rfl) hQ29 (by rfl) (rd_k HR29.out.2.1) HR29.out.2.2 hl30 (Nat.le_trans hzw hB29.size) ?_; intro v30 w30 hrow30 hgr30))
     all_goals
       have hb30 := row_below hQ29 hgr30 (Nat.le_trans hzw hB29.size)
       have hF := Lib.hid (And.intro (row_k.1 hrow30) ((HB.out.trans (hB29.mono hzw)).trans hb30))
       clear hrow30 hgr30 hb30 hQ29
       go_wp2
       exact ⟨⟨k + 1, by simp, by omega, Lib.hid ⟨by rw [HAS.out]; exact hF.out.1, hF.out.2⟩⟩, by simp [intOf]; omega⟩
   · have hkn : k = n := by omega
     subst hkn
     have HLT : Hid (l.take k = l) := Lib.hid (by rw [HN.out, List.take_length])
     obtain ⟨A5, c5, rfl, hr5⟩ := row_two H.out.1
     have hql := atsB_take_len l k HF.out
     have HB := Lib.hid H.out.2
     rw [HLT.out] at hr5 hql ⊢
     have H6 := Lib.hid (refValue_any tag (atsB l) A5 c5 wr hr5.2.1 hr5.2.2 (by omega))
     clear H hr5 hql
     go_wp2_with (go_at_call 79; (with_reducible refine H6.out.mono ?_); clear H6; rintro e w' ⟨v, rfl, h1, h2⟩)
     go_ret
     exact ⟨_, rfl, h1.lowR HB.out.size, HB.out.trans (h2.mono HB.out.size)⟩
end Go.Proofs.YtcjiofhjognklaaGreat.Tlv
