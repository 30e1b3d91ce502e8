/- Attributes put into a writer. -/
import Derived.Test.YtniaijgejljjbaaGreatY14
import Derived.Test.YtniaijgejljjbaaGreatY12
import Derived.Test.YtniaijgejljjbaaGreatY13
import Derived.Great.BuildSlice
import Derived.Great.Walk
import Derived.Laws.CopyOwn
import Derived.Deep.MidRow
import Derived.Deep.DeepCutAuto
import Derived.Lib.QuietBelow
namespace Go.Proofs.YtniaijgejljjbaaGreat.Tlv
open Go.RowKit
set_option maxRecDepth 100000
set_option linter.unusedVariables false
set_option linter.unusedSimpArgs false
def itemI (a : At) (k : Nat) : List Int := if k = 0 then valB 1 (bytesOf (sx a.t)) else valB 2 (bytesOf (sx a.v))
def atB (a : At) : List Int := valB 3 (valB 1 (bytesOf (sx a.t)) ++ valB 2 (bytesOf (sx a.v)))
def itemO (l : List At) (i : Nat) : List Int := atB (l.getD i default)
def atsB (l : List At) : List Int := l.flatMap atB
theorem allI_inner (a : At) : allI (itemI a) 2 = valB 1 (bytesOf (sx a.t)) ++ valB 2 (bytesOf (sx a.v)) := by
 unfold allI itemI
 simp [List.range_succ]
theorem allI_outer (l : List At) : allI (itemO l) l.length = atsB l := by
 have h : ∀ k, k ≤ l.length → allI (itemO l) k = atsB (l.take k) := by
   intro k
   induction k with
   | zero => intro _; rfl
   | succ k ih =>
     intro hk
     rw [allI_succ, ih (by omega), take_snoc l k (by omega)]
     unfold atsB itemO
     rw [List.flatMap_append]
     simp
 rw [h l.length (Nat.le_refl _), List.take_length]
def sumA (l : List At) : Nat := (l.map fun a => a.t.length + a.v.length).sum
structure FewA (l : List At) : Prop where
 many : l.length ≤ 200
 sum : sumA l ≤ 100000
theorem bytes_sx (l : List UInt8) : (bytesOf (sx l)).length = l.length := by rw [bytesOf_length, sx_size]
theorem atB_len (a : At) : (atB a).length = 15 + (a.t.length + a.v.length) := by
 unfold atB
 rw [valB_length, List.length_append, valB_length, valB_length, bytes_sx, bytes_sx]
 omega
theorem sumA_take : ∀ (l : List At) (k : Nat), sumA (l.take k) ≤ sumA l
 | [], k => by simp [sumA]
 | x :: l, 0 => by simp [sumA]
 | x :: l, k + 1 => by
   have := sumA_take l k
   simp only [sumA, List.take_succ_cons, List.map_cons, List.sum_cons] at *
   omega
theorem atsB_len (l : List At) : (atsB l).length = 15 * l.length + sumA l := by
 induction l with
 | nil => rfl
 | cons x l ih =>
   have h : (atsB (x :: l)).length = (atB x).length + (atsB l).length := by unfold atsB; rw [List.flatMap_cons, List.length_append]
   rw [h, ih, atB_len]
   simp only [sumA, List.map_cons, List.sum_cons, List.length_cons]
   omega
theorem sumA_mem {l : List At} {x : At} (h : x ∈ l) : x.t.length + x.v.length ≤ sumA l := by
 induction l with
 | nil => cases h
 | cons y l ih =>
   simp only [sumA, List.map_cons, List.sum_cons]
   rcases List.mem_cons.1 h with rfl | h
   · omega
   · have := ih h
     unfold sumA at this
     omega
theorem allI_le (l : List At) (hf : FewA l) (k : Nat) (hk : k ≤ l.length) : (allI (itemO l) k).length ≤ 4000000 := by
 have h : ∀ k, k ≤ l.length → allI (itemO l) k = atsB (l.take k) := by
   intro k
   induction k with
   | zero => intro _; rfl
   | succ k ih =>
     intro hk
     rw [allI_succ, ih (by omega), take_snoc l k (by omega)]
     unfold atsB itemO
     rw [List.flatMap_append]
     simp
 rw [h k hk, atsB_len]
 have h1 := sumA_take l k
 have h2 := hf.many
 have h3 := hf.sum
 rw [List.length_take]
 omega
set_option maxHeartbeats 2000000 in
theorem putI_any (g B5 B4 base n c m k i : Nat) (A : Option Addr) (l : List At) (q : List Int) (w : World) (hs : WS w base g (some q) m) (hb : base ≤ w.heap.size) (h5 : Blk w B5 40 #[.slice A n c]) (h4 : Blk w B4 3 #[.int .i64 (i : Int)])
   (hr : YtniaijgejljjbaaGreat.RdK kA w w.heap.size A l) (hnl : n = l.length) (hi : i < l.length) (hf : FewA l) (hk : k < 2) (hq : q.length ≤ 4000000) (hm : m ≤ 1000000) (hgb : base ≤ g) :
   Calls Tryz.prog 78 #[.pointer (some ⟨g, 0, none⟩), .int .i64 (k : Int), .pointer (some ⟨B5, 0, none⟩), .pointer (some ⟨B4, 0, none⟩)] w fun e w' => (∃ v, e = .returned v) ∧ WS w' base g (some (q ++ itemI (l.getD i default) k)) (m + 1) ∧ WB base w w' := by
 obtain ⟨b, off, rfl, _, c0, c1⟩ := at_cells hr (Below.refl _ _) hi
 have hmem : l.getD i default ∈ l := by rw [getD_at l i hi]; exact List.getElem_mem _
 have hsz := sumA_mem hmem
 have hf2 := hf.sum
 have hin : i < n := by omega
 have hml := hf.many
 have hn2 : n ≤ 200 := by omega
 generalize l.getD i default = a at c0 c1 hsz ⊢
 have d5 := h5.cell 0
 have d4 := h4.cell 0
 have ht := Lib.hid (text_any g (some q) m 1 (sx a.t) base w hs hb (by decide) (by decide) (by rw [sx_size]; omega) (fun l' e => by injection e with e; subst e; omega) hm hgb)
 have hv := Lib.hid (text_any g (some q) m 2 (sx a.v) base w hs hb (by decide) (by decide) (by rw [sx_size]; omega) (fun l' e => by injection e with e; subst e; omega) hm hgb)
 clear hs hr h5 h4 hmem hsz hf2 hf hi hnl hml
 have hk2 : k = 0 ∨ k = 1 := by omega
 rcases hk2 with rfl | rfl
 · go_enter Tryz.func78, Tryz.ntmps78
   go_wp2_with (go_at_call 64; (with_reducible refine ht.out.mono ?_); rintro e w1 ⟨rfl, h1, h2⟩)
   go_end0
   exact ⟨⟨_, rfl⟩, by simpa [putS, cntS, itemI, valB] using h1, h2⟩
 · go_enter Tryz.func78, Tryz.ntmps78
   go_wp2_with (go_at_call 64; (with_reducible refine hv.out.mono ?_); rintro e w1 ⟨rfl, h1, h2⟩)
   go_end0
   exact ⟨⟨_, rfl⟩, by simpa [putS, cntS, itemI, valB] using h1, h2⟩
set_option maxHeartbeats 2000000 in
theorem putO_any (g B5 base n c m i : Nat) (A : Option Addr) (l : List At) (q : List Int) (w : World) (hs : WS w base g (some q) m) (hb : base ≤ w.heap.size) (h5 : Blk w B5 40 #[.slice A n c])
   (hr : YtniaijgejljjbaaGreat.RdK kA w w.heap.size A l) (hnl : n = l.length) (hi : i < l.length) (hf : FewA l) (hq : q.length ≤ 4000000) (hm : m ≤ 1000000) (hgb : base ≤ g) :
   Calls Tryz.prog 77 #[.pointer (some ⟨g, 0, none⟩), .int .i64 (i : Int), .pointer (some ⟨B5, 0, none⟩)] w fun e w' => (∃ v, e = .returned v) ∧ WS w' base g (some (q ++ itemO l i)) (m + 1) ∧ WB base w w' := by
 have hb1 : Below w.heap.size w (w.alloc (.cells #[.int .i64 (i : Int)] 3)) := (Below.refl _ _).alloc (Nat.le_refl _) _
 have h4 := Blk.new w 3 #[.int .i64 (i : Int)]
 have h5' := h5.on hb1
 have hs' := WS.on (s := some q) hs hb1
 have hr' := hr.on hb1
 have hmem : l.getD i default ∈ l := by rw [getD_at l i hi]; exact List.getElem_mem _
 have hsz := sumA_mem hmem
 have hf2 := hf.sum
 generalize hW : w.alloc (.cells #[.int .i64 (i : Int)] 3) = W at hb1 h4 h5' hs' hr'
 have hl := listI_any g B5 w.heap.size base (some q) m 2 (itemI (l.getD i default)) 3 W hs' (Nat.le_trans hb hb1.size) (by decide)
   (fun k q2 m2 W2 hk hs2 hwb hq2 hm2 => by
     have hW2 : Below W.heap.size W W2 := ((Below.refl _ _).alloc (Nat.le_refl _) _).trans hwb.bel
     exact putI_any W.heap.size B5 w.heap.size W.heap.size n c m2 k i A l q2 W2 hs2 hW2.size (h5'.on hW2) (h4.on hW2) (hr'.on hW2) hnl hi hf hk hq2 hm2 (Nat.le_refl _))
   (fun k hk => by
     have hk3 : k = 0 ∨ k = 1 ∨ k = 2 := by omega
     have e2 : (allI (itemI (l.getD i default)) 2).length = 10 + ((l.getD i default).t.length + (l.getD i default).v.length) := by
       rw [allI_inner, List.length_append, valB_length, valB_length, bytes_sx, bytes_sx]
       omega
     rcases hk3 with rfl | rfl | rfl
     · simp [allI]
     · have : (allI (itemI (l.getD i default)) 2).length = (allI (itemI (l.getD i default)) 1).length + (itemI (l.getD i default) 1).length := by rw [allI_succ, List.length_append]
       omega
     · omega)
   hgb (by decide) (by decide) (fun l' e => by injection e with e; subst e; omega) hm
 have hput : putS (some q) 3 (allI (itemI (l.getD i default)) 2) = some (q ++ itemO l i) := by
   rw [allI_inner]
   simp [putS, itemO, atB, valB]
 rw [hput, show ((2 : Nat) : Int) = 2 from rfl] at hl
 have HL := Lib.hid hl
 have HB := Lib.hid (WB.of hb1 hb)
 subst hW
 clear hl hb1 h4 h5 h5' hs hs' hr hr' hmem hsz hf2 hput hnl
 go_enter Tryz.func77, Tryz.ntmps77
 go_wp2_with (go_at_call 66; (with_reducible refine HL.out.mono ?_); rintro e w1 ⟨rfl, h1, h2⟩)
 go_end0
 exact ⟨⟨_, rfl⟩, by simpa [cntS] using h1, HB.out.trans h2⟩
set_option maxHeartbeats 2000000 in
theorem put_any (g base m : Nat) (s : Option (List Int)) (tag : Int) (l : List At) (v : Value) (w : World) (hs : WS w base g s m) (hb : base ≤ w.heap.size) (hv : RdV w v l) (hf : FewA l) (hgb : base ≤ g) (ht : 0 ≤ tag) (ht2 : tag ≤ 255) (hl : ∀ q, s = some q → q.length ≤ 100000000) (hm : m ≤ 1000000) :
   Calls Tryz.prog 65 #[.pointer (some ⟨g, 0, none⟩), .int .u8 tag, v] w fun e w' => (∃ u, e = .returned u) ∧ WS w' base g (putS s tag (atsB l)) (cntS s tag m) ∧ WB base w w' := by
 obtain ⟨A, c, rfl, _, hr⟩ := hv
 obtain ⟨n, hn⟩ : ∃ n, n = l.length := ⟨_, rfl⟩
 rw [← hn]
 have hb1 : Below w.heap.size w (w.alloc (.cells #[.slice A n c] 40)) := (Below.refl _ _).alloc (Nat.le_refl _) _
 have h5 := Blk.new w 40 #[.slice A n c]
 have hs' := WS.on hs hb1
 have hr' := hr.on hb1
 have hn2 := hf.many
 generalize hW : w.alloc (.cells #[.slice A n c] 40) = W at hb1 h5 hs' hr'
 have hll := listO_any g w.heap.size base s m n (itemO l) tag W hs' (Nat.le_trans hb hb1.size) (by omega)
   (fun k q2 m2 W2 hk hs2 hwb hq2 hm2 => by
     have hW2 : Below W.heap.size W W2 := ((Below.refl _ _).alloc (Nat.le_refl _) _).trans hwb.bel
     exact putO_any W.heap.size w.heap.size W.heap.size n c m2 k A l q2 W2 hs2 hW2.size (h5.on hW2) (hr'.on hW2) hn (by omega) hf hq2 hm2 (Nat.le_refl _))
   (fun k hk => allI_le l hf k (by omega)) hgb ht ht2 hl hm
 rw [hn, allI_outer] at hll
 rw [← hn] at hll
 have HL := Lib.hid hll
 have HB := Lib.hid (WB.of hb1 hb)
 have c5 := h5.cell 0
 subst hW
 clear hll hb1 h5 hs hs' hr hr' hn
 go_enter Tryz.func65, Tryz.ntmps65
 go_wp2_with (go_at_call 66; (with_reducible refine HL.out.mono ?_); rintro e w1 ⟨rfl, h1, h2⟩)
 go_end0
 exact ⟨⟨_, rfl⟩, h1, HB.out.trans h2⟩
structure Opn where
 k : Int
 name : List UInt8
 dst : List UInt8
 attrs : List At
 parts : List (List UInt8)
 cur : List Int
 n : Int
deriving Inhabited
theorem info9 : ∃ (i : TypeInfo) (z : Value), Tryz.prog.info? 9 = some i ∧ i.zero = some z ∧ i.size = 1 ∧ i.bytes = 16 ∧ z.cells.size = 1 := by
 have h : (Tryz.prog.info? 9).map (fun i => (i.zero, i.size, i.bytes)) = some (some (.string ⟨#[]⟩), 1, 16) := by kernel_rfl
 obtain ⟨i, hi, h0, h1, h2⟩ := info_parts h
 exact ⟨i, _, hi, h0, h1, h2, rfl⟩
def kStr : Kind (List UInt8) where
 e := 9
 st := 41
 size := 1
 bytes := 16
 cs := fun s => [.string (sx s)]
 len := fun _ => rfl
 one := fun x u hu => by simp at hu; subst hu; rfl
 pos := by decide
 sl := Tryz.underlying41
 zero := info9
 small := by decide
def RdP (w : World) (v : Value) (l : List (List UInt8)) : Prop := ∃ A c, v = .slice A l.length c ∧ ((A = none → c = 0) ∧ l.length ≤ c ∧ c ≤ maxLen) ∧ RdK kStr w w.heap.size A l
def RdC (w : World) (v : Value) (l : List Int) : Prop := ∃ A c, v = .slice A l.length c ∧ ((A = none → c = 0) ∧ l.length ≤ c ∧ c ≤ maxLen) ∧ Rd w w.heap.size A l
theorem RdP.on {w w' : World} {v : Value} {l : List (List UInt8)} (h : RdP w v l) (hb : Below w.heap.size w w') : RdP w' v l := by
 obtain ⟨A, c, e, h0, h1⟩ := h
 exact ⟨A, c, e, h0, h1.on hb⟩
theorem RdC.on {w w' : World} {v : Value} {l : List Int} (h : RdC w v l) (hb : Below w.heap.size w w') : RdC w' v l := by
 obtain ⟨A, c, e, h0, h1⟩ := h
 exact ⟨A, c, e, h0, (h1.below hb).more hb.size⟩
theorem RdP.nil (w : World) : RdP w (.slice none 0 0) [] := ⟨none, 0, rfl, ⟨fun _ => rfl, Nat.le_refl _, Nat.zero_le _⟩, fun h => by simp at h⟩
theorem RdC.nil (w : World) : RdC w (.slice none 0 0) [] := ⟨none, 0, rfl, ⟨fun _ => rfl, Nat.le_refl _, Nat.zero_le _⟩, fun h => by simp at h⟩
structure OpAt (w : World) (o : Opn) (va vp vc : Value) : Prop where
 a : YtniaijgejljjbaaGreat.RdV w va o.attrs
 p : RdP w vp o.parts
 c : RdC w vc o.cur
theorem OpAt.on {w w' : World} {o : Opn} {va vp vc : Value} (h : OpAt w o va vp vc) (hb : Below w.heap.size w w') : OpAt w' o va vp vc := ⟨YtniaijgejljjbaaGreat.RdV.on h.a hb, h.p.on hb, h.c.on hb⟩
abbrev opCs (o : Opn) (va vp vc : Value) : Array Value := #[.int .i64 o.k, .string (sx o.name), .string (sx o.dst), va, vp, vc, .int .i64 o.n]
structure Lim (o : Opn) : Prop where
 ln : o.name.length ≤ 9223372036854775807
 lt : o.dst.length ≤ 9223372036854775807
 sa : YtniaijgejljjbaaGreat.Sm o.attrs
 la : o.attrs.length ≤ 1000000
 lp : o.parts.length ≤ 1000000
 sp : ∀ s ∈ o.parts, s.length ≤ 9223372036854775807
 lc : o.cur.length ≤ 9223372036854775807
 byt : Byt o.cur
def fN (k : Int) : Bool := k == 1 || k == 3 || k == 5 || k == 2 || k == 6 || k == 4
def fT (k : Int) : Bool := k == 4
def fA (k : Int) : Bool := k == 1 || k == 3 || k == 5
def fP (k : Int) : Bool := k == 7
def fG (k : Int) : Bool := k == 7 || k == 8
def isK (k : Int) : Bool := fN k || fG k
def mayText (b : Bool) (s : List UInt8) : Bool := mayN s && (b || decide (s = []))
def mayAt (k : Int) (l : List At) : Bool := if k = 1 then mayL l else if k = 3 then decide (l.length ≤ 50) && l.all mayA else if k = 5 then decide (l.length = 1) && l.all mayA else decide (l = [])
def mayPt (b : Bool) (l : List (List UInt8)) : Bool := if b = true then decide (l.length ≤ 8) && l.all mayN else decide (l = [])
def mayPg (b : Bool) (c : List Int) (n : Int) : Bool := if b = true then decide (c.length ≤ 4000) && (decide (0 ≤ n) && decide (n ≤ 1000)) else decide (c = []) && decide (n = 0)
def mayO (o : Opn) : Bool := isK o.k && (mayText (fN o.k) o.name && (mayText (fT o.k) o.dst && (mayAt o.k o.attrs && (mayPt (fP o.k) o.parts && mayPg (fG o.k) o.cur o.n))))
theorem kinds (k : Int) : k = 1 ∨ k = 2 ∨ k = 3 ∨ k = 4 ∨ k = 5 ∨ k = 6 ∨ k = 7 ∨ k = 8 ∨ isK k = false := by
 by_cases h : isK k = false
 · exact .inr (.inr (.inr (.inr (.inr (.inr (.inr (.inr h)))))))
 · unfold isK fN fG at h
   simp at h
   omega
theorem notK {k : Int} (h : isK k = false) : (k == 1) = false ∧ (k == 2) = false ∧ (k == 3) = false ∧ (k == 4) = false ∧ (k == 5) = false ∧ (k == 6) = false ∧ (k == 7) = false ∧ (k == 8) = false := by
 unfold isK fN fG at h
 simp at h ⊢
 omega
abbrev fdCs (k : Int) : Array Value := #[.bool (fN k), .bool (fT k), .bool (fA k), .bool (fP k), .bool (fG k)]
abbrev fdZ : Array Value := #[.bool false, .bool false, .bool false, .bool false, .bool false]
theorem fields1 (w : World) : Calls Tryz.prog 63 #[.int .i64 1] w fun e w' => e = .returned (.tuple #[.agg (fdCs 1), .bool true]) ∧ Below w.heap.size w w' := by
 go_enter Tryz.func63, Tryz.ntmps63
 go_wp2
 exact bodyPost_ret (v := .tuple #[.agg (fdCs 1), .bool true]) (by simp [results, Tryz.f63, go_sem, fN, fT, fA, fP, fG]) rfl ⟨rfl, (Below.refl _ _).alloc (Nat.le_refl _) _⟩
theorem fields2 (w : World) : Calls Tryz.prog 63 #[.int .i64 2] w fun e w' => e = .returned (.tuple #[.agg (fdCs 2), .bool true]) ∧ Below w.heap.size w w' := by
 go_enter Tryz.func63, Tryz.ntmps63
 go_wp2
 exact bodyPost_ret (v := .tuple #[.agg (fdCs 2), .bool true]) (by simp [results, Tryz.f63, go_sem, fN, fT, fA, fP, fG]) rfl ⟨rfl, (Below.refl _ _).alloc (Nat.le_refl _) _⟩
theorem fields3 (w : World) : Calls Tryz.prog 63 #[.int .i64 3] w fun e w' => e = .returned (.tuple #[.agg (fdCs 3), .bool true]) ∧ Below w.heap.size w w' := by
 go_enter Tryz.func63, Tryz.ntmps63
 go_wp2
 exact bodyPost_ret (v := .tuple #[.agg (fdCs 3), .bool true]) (by simp [results, Tryz.f63, go_sem, fN, fT, fA, fP, fG]) rfl ⟨rfl, (Below.refl _ _).alloc (Nat.le_refl _) _⟩
theorem fields4 (w : World) : Calls Tryz.prog 63 #[.int .i64 4] w fun e w' => e = .returned (.tuple #[.agg (fdCs 4), .bool true]) ∧ Below w.heap.size w w' := by
 go_enter Tryz.func63, Tryz.ntmps63
 go_wp2
 exact bodyPost_ret (v := .tuple #[.agg (fdCs 4), .bool true]) (by simp [results, Tryz.f63, go_sem, fN, fT, fA, fP, fG]) rfl ⟨rfl, (Below.refl _ _).alloc (Nat.le_refl _) _⟩
theorem fields5 (w : World) : Calls Tryz.prog 63 #[.int .i64 5] w fun e w' => e = .returned (.tuple #[.agg (fdCs 5), .bool true]) ∧ Below w.heap.size w w' := by
 go_enter Tryz.func63, Tryz.ntmps63
 go_wp2
 exact bodyPost_ret (v := .tuple #[.agg (fdCs 5), .bool true]) (by simp [results, Tryz.f63, go_sem, fN, fT, fA, fP, fG]) rfl ⟨rfl, (Below.refl _ _).alloc (Nat.le_refl _) _⟩
theorem fields6 (w : World) : Calls Tryz.prog 63 #[.int .i64 6] w fun e w' => e = .returned (.tuple #[.agg (fdCs 6), .bool true]) ∧ Below w.heap.size w w' := by
 go_enter Tryz.func63, Tryz.ntmps63
 go_wp2
 exact bodyPost_ret (v := .tuple #[.agg (fdCs 6), .bool true]) (by simp [results, Tryz.f63, go_sem, fN, fT, fA, fP, fG]) rfl ⟨rfl, (Below.refl _ _).alloc (Nat.le_refl _) _⟩
theorem fields7 (w : World) : Calls Tryz.prog 63 #[.int .i64 7] w fun e w' => e = .returned (.tuple #[.agg (fdCs 7), .bool true]) ∧ Below w.heap.size w w' := by
 go_enter Tryz.func63, Tryz.ntmps63
 go_wp2
 exact bodyPost_ret (v := .tuple #[.agg (fdCs 7), .bool true]) (by simp [results, Tryz.f63, go_sem, fN, fT, fA, fP, fG]) rfl ⟨rfl, (Below.refl _ _).alloc (Nat.le_refl _) _⟩
theorem fields8 (w : World) : Calls Tryz.prog 63 #[.int .i64 8] w fun e w' => e = .returned (.tuple #[.agg (fdCs 8), .bool true]) ∧ Below w.heap.size w w' := by
 go_enter Tryz.func63, Tryz.ntmps63
 go_wp2
 exact bodyPost_ret (v := .tuple #[.agg (fdCs 8), .bool true]) (by simp [results, Tryz.f63, go_sem, fN, fT, fA, fP, fG]) rfl ⟨rfl, (Below.refl _ _).alloc (Nat.le_refl _) _⟩
theorem fieldsNo (k : Int) (hk : isK k = false) (w : World) : Calls Tryz.prog 63 #[.int .i64 k] w fun e w' => e = .returned (.tuple #[.agg fdZ, .bool false]) ∧ Below w.heap.size w w' := by
 obtain ⟨h1, h2, h3, h4, h5, h6, h7, h8⟩ := notK hk
 clear hk
 go_enter Tryz.func63, Tryz.ntmps63
 go_wp2
 exact bodyPost_ret (v := .tuple #[.agg fdZ, .bool false]) (by simp [results, Tryz.f63, go_sem]) rfl ⟨rfl, (Below.refl _ _).alloc (Nat.le_refl _) _⟩
theorem fields_any (k : Int) (w : World) : Calls Tryz.prog 63 #[.int .i64 k] w fun e w' => e = .returned (.tuple #[.agg (if isK k = true then fdCs k else fdZ), .bool (isK k)]) ∧ Below w.heap.size w w' := by
 rcases kinds k with rfl | rfl | rfl | rfl | rfl | rfl | rfl | rfl | h
 · exact fields1 w
 · exact fields2 w
 · exact fields3 w
 · exact fields4 w
 · exact fields5 w
 · exact fields6 w
 · exact fields7 w
 · exact fields8 w
 · rw [h]
   exact fieldsNo k h w
end Go.Proofs.YtniaijgejljjbaaGreat.Tlv
namespace Go.Proofs.YtniaijgejljjbaaGreat.Tlv
open Go.RowKit
set_option maxRecDepth 100000
set_option linter.unusedVariables false
set_option linter.unusedSimpArgs false
open Go.Shelf Go.Lib
theorem sx_emp (s : List UInt8) : (sx s).toList.isEmpty = decide (s = []) := by
 rw [sx_list]
 cases s <;> simp
set_option maxHeartbeats 1000000 in
theorem mayText_any (b : Bool) (s : List UInt8) (w : World) (hl : s.length ≤ 9223372036854775807) : Calls Tryz.prog 73 #[.bool b, .string (sx s)] w fun e w' => e = .returned (.bool (mayText b s)) ∧ w = w' := by
 have HM := Lib.hid (YtniaijgejljjbaaGreat.mayName_any s w hl)
 unfold mayText
 cases hm : mayN s with
 | false =>
   rw [hm] at HM
   go_enter Tryz.func73, Tryz.ntmps73
   go_wp2_with (with_reducible refine HM.out.mono ?_; rintro e w1 ⟨rfl, rfl⟩)
   go_ret
   exact ⟨rfl, rfl⟩
 | true =>
   rw [hm] at HM
   cases b with
   | true =>
     go_enter Tryz.func73, Tryz.ntmps73
     go_wp2_with (with_reducible refine HM.out.mono ?_; rintro e w1 ⟨rfl, rfl⟩)
     go_ret
     exact ⟨rfl, rfl⟩
   | false =>
     go_enter Tryz.func73, Tryz.ntmps73
     go_wp2_with (with_reducible refine HM.out.mono ?_; rintro e w1 ⟨rfl, rfl⟩)
     go_ret
     exact ⟨by rw [sx_emp]; simp, rfl⟩
theorem mayNot_any (x : At) (w : World) (h1 : x.t.length ≤ 9223372036854775807) (h2 : x.v.length ≤ 9223372036854775807) : Calls Tryz.prog 84 #[x.val] w fun e w' => e = .returned (.bool (!mayA x)) ∧ Below w.heap.size w w' := by
 have hb : Below w.heap.size w (w.alloc (.cells #[.string (sx x.t), .string (sx x.v)] 99)) := (Below.refl _ _).alloc (Nat.le_refl _) _
 have HM := Lib.hid (YtniaijgejljjbaaGreat.mayAttr_any x (w.alloc (.cells #[.string (sx x.t), .string (sx x.v)] 99)) h1 h2)
 have HB := Lib.hid hb
 clear hb
 cases hm : mayA x
 all_goals
   rw [hm] at HM
   go_enter Tryz.func84, Tryz.ntmps84
   go_wp2_with (with_reducible refine HM.out.mono ?_; rintro e w1 ⟨rfl, hb1⟩; have HB1 := Lib.hid (HB.out.trans (hb1.mono HB.out.size)); clear hb1)
   go_ret
   exact ⟨rfl, HB1.out⟩
theorem partNot_any (s : List UInt8) (w : World) (h1 : s.length ≤ 9223372036854775807) : Calls Tryz.prog 87 #[.string (sx s)] w fun e w' => e = .returned (.bool (!mayN s)) ∧ w = w' := by
 have HM := Lib.hid (YtniaijgejljjbaaGreat.mayName_any s w h1)
 cases hm : mayN s
 all_goals
   rw [hm] at HM
   go_enter Tryz.func87, Tryz.ntmps87
   go_wp2_with (with_reducible refine HM.out.mono ?_; rintro e w1 ⟨rfl, rfl⟩)
   go_ret
   exact ⟨rfl, rfl⟩
theorem str_cell {w w' : World} {n k : Nat} {A : Option Addr} {l : List (List UInt8)} (h : RdK kStr w n A l) (hb : Below n w w') (hk : k < l.length) : ∃ b off, A = some ⟨b, off, none⟩ ∧ b < n ∧ w'.cell? ⟨b, off + k, none⟩ = some (.string (sx (l.getD k default))) := by
 obtain ⟨b, off, e, hlt, hc⟩ := h (by omega)
 have := hc k hk 0 _ rfl
 refine ⟨b, off, e, hlt, (hb.cell (p := ⟨b, off + k, none⟩) hlt).trans ?_⟩
 simpa [kStr] using this
def IdxR (p : Bool) (w : World) (e : Ending) (w' : World) : Prop := ∃ i : Int, e = .returned (.int .i64 i) ∧ decide (0 ≤ i) = p ∧ w = w'
set_option maxHeartbeats 2000000 in
theorem idxP_any (l : List (List UInt8)) (A : Option Addr) (c : Nat) (w : World) (hr : RdK kStr w w.heap.size A l) (hl : l.length ≤ 1000000) (hs : ∀ s ∈ l, s.length ≤ 9223372036854775807) :
   Calls Tryz.prog 94 #[.slice A l.length c, .func (.func 87) #[] #[]] w (IdxR (!(l.all mayN)) w) := by
 have HR := Lib.hid hr
 have HS := Lib.hid hs
 obtain ⟨n, hn⟩ : ∃ n, n = l.length := ⟨_, rfl⟩
 have HN := Lib.hid hn
 rw [← hn] at hl ⊢
 clear hr hs hn
 go_enter Tryz.func94, Tryz.ntmps94
 go_wp2
 go_loop [8] (fun i => ∃ k : Nat, i = .int .i64 k ∧ k ≤ n ∧ Hid (∀ j, j < k → mayN (l.getD j default) = true)) (fun i => n - (intOf i).toNat)
 case atStart => exact ⟨0, rfl, Nat.zero_le _, Lib.hid fun j hj => absurd hj (Nat.not_lt_zero _)⟩
 case round =>
   obtain ⟨k, rfl, hk, HA⟩ := hrel
   by_cases hlt : k < n
   · obtain ⟨b, off, rfl, _, c0⟩ := str_cell HR.out (Below.refl _ _) (show k < l.length by have := HN.out; omega)
     have hmem : l.getD k default ∈ l := by
       rw [List.getD_eq_getElem?_getD, List.getElem?_eq_getElem (show k < l.length by have := HN.out; omega)]
       exact List.getElem_mem _
     have HP := Lib.hid (partNot_any (l.getD k default) w (HS.out _ hmem))
     obtain ⟨x, hx⟩ : ∃ x, x = l.getD k default := ⟨_, rfl⟩
     rw [← hx] at c0 HP hmem
     have HX := Lib.hid hx
     clear hx
     cases hm : mayN x with
     | true =>
       rw [hm] at HP
       have HM := Lib.hid hm
       clear hm hmem
       go_wp2_with (with_reducible refine HP.out.mono ?_; rintro e w1 ⟨rfl, rfl⟩)
       go_round
       case rel => exact ⟨k + 1, by go_num, by omega, Lib.hid fun j hj => by
         by_cases h : j = k
         · rw [h, ← HX.out]; exact HM.out
         · exact HA.out j (by omega)⟩
       case measure => simp [intOf]; omega
     | false =>
       rw [hm] at HP
       have HM := Lib.hid (show l.all mayN = false from by
         rw [List.all_eq_false]
         exact ⟨_, hmem, by rw [hm]; decide⟩)
       clear hm hmem
       go_wp2_with (with_reducible refine HP.out.mono ?_; rintro e w1 ⟨rfl, rfl⟩)
       go_ret
       exact ⟨k, rfl, by rw [HM.out]; simp, rfl⟩
   · have : k = n := by omega
     subst this
     go_wp2
     go_ret
     refine ⟨-1, rfl, ?_, rfl⟩
     have : l.all mayN = true := by
       rw [List.all_eq_true]
       intro x hx
       obtain ⟨j, hj, rfl⟩ := List.getElem_of_mem hx
       have := HA.out j (by have := HN.out; omega)
       rwa [List.getD_eq_getElem?_getD, List.getElem?_eq_getElem hj] at this
     rw [this]
     decide
theorem conP_any (l : List (List UInt8)) (A : Option Addr) (c : Nat) (w : World) (hr : RdK kStr w w.heap.size A l) (hl : l.length ≤ 1000000) (hs : ∀ s ∈ l, s.length ≤ 9223372036854775807) :
   Calls Tryz.prog 86 #[.slice A l.length c, .func (.func 87) #[] #[]] w fun e w' => e = .returned (.bool (!(l.all mayN))) ∧ w = w' := by
 have HI := Lib.hid (idxP_any l A c w hr hl hs)
 obtain ⟨n, hn⟩ : ∃ n, n = l.length := ⟨_, rfl⟩
 rw [← hn] at HI ⊢
 clear hr hl hs hn
 generalize (!(l.all mayN)) = p at HI ⊢
 go_enter Tryz.func86, Tryz.ntmps86
 go_wp2_with ((with_reducible refine HI.out.mono ?_); rintro e w1 ⟨i, rfl, hd, rfl⟩)
 go_ret
 exact ⟨by rw [← hd]; rfl, rfl⟩
theorem eg86 : ∀ args w, (callFunc 84 args).run Tryz.prog w = .ok (.enter 84 args) w := enters_of Tryz.func84 (by kernel_rfl) rfl
theorem pred86 (w : World) : PredBelow Tryz.prog 84 #[] (fun x : YtniaijgejljjbaaGreat.SmA => .agg x.1.cells.toArray) (fun x => !mayA x.1) w := fun W x hb => by
 obtain ⟨x, h1, h2⟩ := x
 exact (mayNot_any x W h1 h2).mono fun e w' ⟨he, hw⟩ => ⟨he, hb.trans (hw.mono hb.size)⟩
theorem conA_any (l : List At) (A : Option Addr) (c : Nat) (w : World) (hr : YtniaijgejljjbaaGreat.RdK kA w w.heap.size A l) (hl : l.length ≤ 1000000) (hs : YtniaijgejljjbaaGreat.Sm l) :
   Calls Tryz.prog 83 #[.slice A l.length c, .func (.func 84) #[] #[]] w fun e w' => e = .returned (.bool (!(l.all mayA))) ∧ Below w.heap.size w w' := by
 obtain ⟨zs, rfl⟩ := YtniaijgejljjbaaGreat.sm_list hs
 have h := YtniaijgejljjbaaGreat.cf_any (α := YtniaijgejljjbaaGreat.SmA) (fun x => x.1) (fun x => !mayA x.1) 84 #[] eg86 zs A c w (pred86 w) hr (by rw [List.length_map] at hl; exact hl)
 have e : (!((zs.map (·.1)).all mayA)) = zs.any fun x => !mayA x.1 := by rw [List.all_map, List.not_all_eq_any_not]; rfl
 rw [e, List.length_map]
 exact h
end Go.Proofs.YtniaijgejljjbaaGreat.Tlv
