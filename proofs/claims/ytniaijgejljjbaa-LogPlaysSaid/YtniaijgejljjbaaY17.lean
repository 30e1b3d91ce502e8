/- Operations as values; which may be. -/
import Derived.Test.YtniaijgejljjbaaY16
import Derived.Test.YtniaijgejljjbaaY13
import Derived.Test.YtniaijgejljjbaaY14
import Derived.Great.BuildSlice
import Derived.Great.Walk
import Derived.Laws.CopyOwn
import Derived.Deep.MidRow
import Derived.Deep.DeepCutAuto
import Derived.Lib.QuietBelow
namespace Go.Proofs.Ytniaijgejljjbaa.Tlv
open Go.RowKit
set_option maxRecDepth 100000
set_option linter.unusedVariables false
set_option linter.unusedSimpArgs false
structure Opn where
 k : Int
 name : List UInt8
 dst : List UInt8
 attrs : List At
 parts : List (List UInt8)
 cur : List Int
 n : Int
deriving Inhabited
theorem info9 : ∃ (i : TypeInfo) (z : Value), Try.prog.info? 9 = some i ∧ i.zero = some z ∧ i.size = 1 ∧ i.bytes = 16 ∧ z.cells.size = 1 := by
 have h : (Try.prog.info? 9).map (fun i => (i.zero, i.size, i.bytes)) = some (some (.string ⟨#[]⟩), 1, 16) := by kernel_rfl
 obtain ⟨i, hi, h0, h1, h2⟩ := info_parts h
 exact ⟨i, _, hi, h0, h1, h2, rfl⟩
def kStr : Kind (List UInt8) where
 e := 9
 st := 37
 size := 1
 bytes := 16
 cs := fun s => [.string (sx s)]
 len := fun _ => rfl
 one := fun x u hu => by simp at hu; subst hu; rfl
 pos := by decide
 sl := Try.underlying37
 zero := info9
 small := by decide
def RdP (w : World) (v : Value) (l : List (List UInt8)) : Prop := ∃ A c, v = .slice A l.length c ∧ ((A = none → c = 0) ∧ l.length ≤ c ∧ c ≤ maxLen) ∧ RdK kStr w w.heap.size A l
def RdC (w : World) (v : Value) (l : List Int) : Prop := ∃ A c, v = .slice A l.length c ∧ ((A = none → c = 0) ∧ l.length ≤ c ∧ c ≤ maxLen) ∧ Rd w w.heap.size A l
theorem RdP.on {w w' : World} {v : Value} {l : List (List UInt8)} (h : RdP w v l) (hb : Below w.heap.size w w') : RdP w' v l := by
 obtain ⟨A, c, e, h0, h1⟩ := h
 exact ⟨A, c, e, h0, h1.on hb⟩
theorem RdC.on {w w' : World} {v : Value} {l : List Int} (h : RdC w v l) (hb : Below w.heap.size w w') : RdC w' v l := by
 obtain ⟨A, c, e, h0, h1⟩ := h
 exact ⟨A, c, e, h0, (h1.below hb).more hb.size⟩
theorem RdP.nil (w : World) : RdP w (.slice none 0 0) [] := ⟨none, 0, rfl, ⟨fun _ => rfl, Nat.le_refl _, Nat.zero_le _⟩, fun h => by simp at h⟩
theorem RdC.nil (w : World) : RdC w (.slice none 0 0) [] := ⟨none, 0, rfl, ⟨fun _ => rfl, Nat.le_refl _, Nat.zero_le _⟩, fun h => by simp at h⟩
structure OpAt (w : World) (o : Opn) (va vp vc : Value) : Prop where
 a : Ytniaijgejljjbaa.RdV w va o.attrs
 p : RdP w vp o.parts
 c : RdC w vc o.cur
theorem OpAt.on {w w' : World} {o : Opn} {va vp vc : Value} (h : OpAt w o va vp vc) (hb : Below w.heap.size w w') : OpAt w' o va vp vc := ⟨Ytniaijgejljjbaa.RdV.on h.a hb, h.p.on hb, h.c.on hb⟩
abbrev opCs (o : Opn) (va vp vc : Value) : Array Value := #[.int .i64 o.k, .string (sx o.name), .string (sx o.dst), va, vp, vc, .int .i64 o.n]
structure Lim (o : Opn) : Prop where
 ln : o.name.length ≤ 9223372036854775807
 lt : o.dst.length ≤ 9223372036854775807
 sa : Ytniaijgejljjbaa.Sm o.attrs
 la : o.attrs.length ≤ 1000000
 lp : o.parts.length ≤ 1000000
 sp : ∀ s ∈ o.parts, s.length ≤ 9223372036854775807
 lc : o.cur.length ≤ 9223372036854775807
 byt : Byt o.cur
def fN (k : Int) : Bool := k == 1 || k == 3 || k == 5 || k == 2 || k == 6 || k == 4
def fT (k : Int) : Bool := k == 4
def fA (k : Int) : Bool := k == 1 || k == 3 || k == 5
def fP (k : Int) : Bool := k == 7
def fG (k : Int) : Bool := k == 7 || k == 8
def isK (k : Int) : Bool := fN k || fG k
def mayText (b : Bool) (s : List UInt8) : Bool := mayN s && (b || decide (s = []))
def mayAt (k : Int) (l : List At) : Bool := if k = 1 then mayL l else if k = 3 then decide (l.length ≤ 50) && l.all mayA else if k = 5 then decide (l.length = 1) && l.all mayA else decide (l = [])
def mayPt (b : Bool) (l : List (List UInt8)) : Bool := if b = true then decide (l.length ≤ 8) && l.all mayN else decide (l = [])
def mayPg (b : Bool) (c : List Int) (n : Int) : Bool := if b = true then decide (c.length ≤ 4000) && (decide (0 ≤ n) && decide (n ≤ 1000)) else decide (c = []) && decide (n = 0)
def mayO (o : Opn) : Bool := isK o.k && (mayText (fN o.k) o.name && (mayText (fT o.k) o.dst && (mayAt o.k o.attrs && (mayPt (fP o.k) o.parts && mayPg (fG o.k) o.cur o.n))))
theorem kinds (k : Int) : k = 1 ∨ k = 2 ∨ k = 3 ∨ k = 4 ∨ k = 5 ∨ k = 6 ∨ k = 7 ∨ k = 8 ∨ isK k = false := by
 by_cases h : isK k = false
 · exact .inr (.inr (.inr (.inr (.inr (.inr (.inr (.inr h)))))))
 · unfold isK fN fG at h
   simp at h
   omega
theorem notK {k : Int} (h : isK k = false) : (k == 1) = false ∧ (k == 2) = false ∧ (k == 3) = false ∧ (k == 4) = false ∧ (k == 5) = false ∧ (k == 6) = false ∧ (k == 7) = false ∧ (k == 8) = false := by
 unfold isK fN fG at h
 simp at h ⊢
 omega
abbrev fdCs (k : Int) : Array Value := #[.bool (fN k), .bool (fT k), .bool (fA k), .bool (fP k), .bool (fG k)]
abbrev fdZ : Array Value := #[.bool false, .bool false, .bool false, .bool false, .bool false]
theorem fields1 (w : World) : Calls Try.prog 65 #[.int .i64 1] w fun e w' => e = .returned (.tuple #[.agg (fdCs 1), .bool true]) ∧ Below w.heap.size w w' := by
 go_enter Try.func65, Try.ntmps65
 go_wp2
 exact bodyPost_ret (v := .tuple #[.agg (fdCs 1), .bool true]) (by simp [results, Try.f65, go_sem, fN, fT, fA, fP, fG]) rfl ⟨rfl, (Below.refl _ _).alloc (Nat.le_refl _) _⟩
theorem fields2 (w : World) : Calls Try.prog 65 #[.int .i64 2] w fun e w' => e = .returned (.tuple #[.agg (fdCs 2), .bool true]) ∧ Below w.heap.size w w' := by
 go_enter Try.func65, Try.ntmps65
 go_wp2
 exact bodyPost_ret (v := .tuple #[.agg (fdCs 2), .bool true]) (by simp [results, Try.f65, go_sem, fN, fT, fA, fP, fG]) rfl ⟨rfl, (Below.refl _ _).alloc (Nat.le_refl _) _⟩
theorem fields3 (w : World) : Calls Try.prog 65 #[.int .i64 3] w fun e w' => e = .returned (.tuple #[.agg (fdCs 3), .bool true]) ∧ Below w.heap.size w w' := by
 go_enter Try.func65, Try.ntmps65
 go_wp2
 exact bodyPost_ret (v := .tuple #[.agg (fdCs 3), .bool true]) (by simp [results, Try.f65, go_sem, fN, fT, fA, fP, fG]) rfl ⟨rfl, (Below.refl _ _).alloc (Nat.le_refl _) _⟩
theorem fields4 (w : World) : Calls Try.prog 65 #[.int .i64 4] w fun e w' => e = .returned (.tuple #[.agg (fdCs 4), .bool true]) ∧ Below w.heap.size w w' := by
 go_enter Try.func65, Try.ntmps65
 go_wp2
 exact bodyPost_ret (v := .tuple #[.agg (fdCs 4), .bool true]) (by simp [results, Try.f65, go_sem, fN, fT, fA, fP, fG]) rfl ⟨rfl, (Below.refl _ _).alloc (Nat.le_refl _) _⟩
theorem fields5 (w : World) : Calls Try.prog 65 #[.int .i64 5] w fun e w' => e = .returned (.tuple #[.agg (fdCs 5), .bool true]) ∧ Below w.heap.size w w' := by
 go_enter Try.func65, Try.ntmps65
 go_wp2
 exact bodyPost_ret (v := .tuple #[.agg (fdCs 5), .bool true]) (by simp [results, Try.f65, go_sem, fN, fT, fA, fP, fG]) rfl ⟨rfl, (Below.refl _ _).alloc (Nat.le_refl _) _⟩
theorem fields6 (w : World) : Calls Try.prog 65 #[.int .i64 6] w fun e w' => e = .returned (.tuple #[.agg (fdCs 6), .bool true]) ∧ Below w.heap.size w w' := by
 go_enter Try.func65, Try.ntmps65
 go_wp2
 exact bodyPost_ret (v := .tuple #[.agg (fdCs 6), .bool true]) (by simp [results, Try.f65, go_sem, fN, fT, fA, fP, fG]) rfl ⟨rfl, (Below.refl _ _).alloc (Nat.le_refl _) _⟩
theorem fields7 (w : World) : Calls Try.prog 65 #[.int .i64 7] w fun e w' => e = .returned (.tuple #[.agg (fdCs 7), .bool true]) ∧ Below w.heap.size w w' := by
 go_enter Try.func65, Try.ntmps65
 go_wp2
 exact bodyPost_ret (v := .tuple #[.agg (fdCs 7), .bool true]) (by simp [results, Try.f65, go_sem, fN, fT, fA, fP, fG]) rfl ⟨rfl, (Below.refl _ _).alloc (Nat.le_refl _) _⟩
theorem fields8 (w : World) : Calls Try.prog 65 #[.int .i64 8] w fun e w' => e = .returned (.tuple #[.agg (fdCs 8), .bool true]) ∧ Below w.heap.size w w' := by
 go_enter Try.func65, Try.ntmps65
 go_wp2
 exact bodyPost_ret (v := .tuple #[.agg (fdCs 8), .bool true]) (by simp [results, Try.f65, go_sem, fN, fT, fA, fP, fG]) rfl ⟨rfl, (Below.refl _ _).alloc (Nat.le_refl _) _⟩
theorem fieldsNo (k : Int) (hk : isK k = false) (w : World) : Calls Try.prog 65 #[.int .i64 k] w fun e w' => e = .returned (.tuple #[.agg fdZ, .bool false]) ∧ Below w.heap.size w w' := by
 obtain ⟨h1, h2, h3, h4, h5, h6, h7, h8⟩ := notK hk
 clear hk
 go_enter Try.func65, Try.ntmps65
 go_wp2
 exact bodyPost_ret (v := .tuple #[.agg fdZ, .bool false]) (by simp [results, Try.f65, go_sem]) rfl ⟨rfl, (Below.refl _ _).alloc (Nat.le_refl _) _⟩
theorem fields_any (k : Int) (w : World) : Calls Try.prog 65 #[.int .i64 k] w fun e w' => e = .returned (.tuple #[.agg (if isK k = true then fdCs k else fdZ), .bool (isK k)]) ∧ Below w.heap.size w w' := by
 rcases kinds k with rfl | rfl | rfl | rfl | rfl | rfl | rfl | rfl | h
 · exact fields1 w
 · exact fields2 w
 · exact fields3 w
 · exact fields4 w
 · exact fields5 w
 · exact fields6 w
 · exact fields7 w
 · exact fields8 w
 · rw [h]
   exact fieldsNo k h w
end Go.Proofs.Ytniaijgejljjbaa.Tlv
namespace Go.Proofs.Ytniaijgejljjbaa.Tlv
open Go.RowKit
set_option maxRecDepth 100000
set_option linter.unusedVariables false
set_option linter.unusedSimpArgs false
open Go.Shelf Go.Lib
theorem sx_emp (s : List UInt8) : (sx s).toList.isEmpty = decide (s = []) := by
 rw [sx_list]
 cases s <;> simp
set_option maxHeartbeats 1000000 in
theorem mayText_any (b : Bool) (s : List UInt8) (w : World) (hl : s.length ≤ 9223372036854775807) : Calls Try.prog 75 #[.bool b, .string (sx s)] w fun e w' => e = .returned (.bool (mayText b s)) ∧ w = w' := by
 have HM := Lib.hid (Ytniaijgejljjbaa.mayName_any s w hl)
 unfold mayText
 cases hm : mayN s with
 | false =>
   rw [hm] at HM
   go_enter Try.func75, Try.ntmps75
   go_wp2_with (with_reducible refine HM.out.mono ?_; rintro e w1 ⟨rfl, rfl⟩)
   go_ret
   exact ⟨rfl, rfl⟩
 | true =>
   rw [hm] at HM
   cases b with
   | true =>
     go_enter Try.func75, Try.ntmps75
     go_wp2_with (with_reducible refine HM.out.mono ?_; rintro e w1 ⟨rfl, rfl⟩)
     go_ret
     exact ⟨rfl, rfl⟩
   | false =>
     go_enter Try.func75, Try.ntmps75
     go_wp2_with (with_reducible refine HM.out.mono ?_; rintro e w1 ⟨rfl, rfl⟩)
     go_ret
     exact ⟨by rw [sx_emp]; simp, rfl⟩
theorem mayNot_any (x : At) (w : World) (h1 : x.t.length ≤ 9223372036854775807) (h2 : x.v.length ≤ 9223372036854775807) : Calls Try.prog 86 #[x.val] w fun e w' => e = .returned (.bool (!mayA x)) ∧ Below w.heap.size w w' := by
 have hb : Below w.heap.size w (w.alloc (.cells #[.string (sx x.t), .string (sx x.v)] 100)) := (Below.refl _ _).alloc (Nat.le_refl _) _
 have HM := Lib.hid (Ytniaijgejljjbaa.mayAttr_any x (w.alloc (.cells #[.string (sx x.t), .string (sx x.v)] 100)) h1 h2)
 have HB := Lib.hid hb
 clear hb
 cases hm : mayA x
 all_goals
   rw [hm] at HM
   go_enter Try.func86, Try.ntmps86
   go_wp2_with (with_reducible refine HM.out.mono ?_; rintro e w1 ⟨rfl, hb1⟩; have HB1 := Lib.hid (HB.out.trans (hb1.mono HB.out.size)); clear hb1)
   go_ret
   exact ⟨rfl, HB1.out⟩
theorem partNot_any (s : List UInt8) (w : World) (h1 : s.length ≤ 9223372036854775807) : Calls Try.prog 89 #[.string (sx s)] w fun e w' => e = .returned (.bool (!mayN s)) ∧ w = w' := by
 have HM := Lib.hid (Ytniaijgejljjbaa.mayName_any s w h1)
 cases hm : mayN s
 all_goals
   rw [hm] at HM
   go_enter Try.func89, Try.ntmps89
   go_wp2_with (with_reducible refine HM.out.mono ?_; rintro e w1 ⟨rfl, rfl⟩)
   go_ret
   exact ⟨rfl, rfl⟩
theorem str_cell {w w' : World} {n k : Nat} {A : Option Addr} {l : List (List UInt8)} (h : RdK kStr w n A l) (hb : Below n w w') (hk : k < l.length) : ∃ b off, A = some ⟨b, off, none⟩ ∧ b < n ∧ w'.cell? ⟨b, off + k, none⟩ = some (.string (sx (l.getD k default))) := by
 obtain ⟨b, off, e, hlt, hc⟩ := h (by omega)
 have := hc k hk 0 _ rfl
 refine ⟨b, off, e, hlt, (hb.cell (p := ⟨b, off + k, none⟩) hlt).trans ?_⟩
 simpa [kStr] using this
def IdxR (p : Bool) (w : World) (e : Ending) (w' : World) : Prop := ∃ i : Int, e = .returned (.int .i64 i) ∧ decide (0 ≤ i) = p ∧ w = w'
set_option maxHeartbeats 2000000 in
theorem idxP_any (l : List (List UInt8)) (A : Option Addr) (c : Nat) (w : World) (hr : RdK kStr w w.heap.size A l) (hl : l.length ≤ 1000000) (hs : ∀ s ∈ l, s.length ≤ 9223372036854775807) :
   Calls Try.prog 96 #[.slice A l.length c, .func (.func 89) #[] #[]] w (IdxR (!(l.all mayN)) w) := by
 have HR := Lib.hid hr
 have HS := Lib.hid hs
 obtain ⟨n, hn⟩ : ∃ n, n = l.length := ⟨_, rfl⟩
 have HN := Lib.hid hn
 rw [← hn] at hl ⊢
 clear hr hs hn
 go_enter Try.func96, Try.ntmps96
 go_wp2
 go_loop [8] (fun i => ∃ k : Nat, i = .int .i64 k ∧ k ≤ n ∧ Hid (∀ j, j < k → mayN (l.getD j default) = true)) (fun i => n - (intOf i).toNat)
 case atStart => exact ⟨0, rfl, Nat.zero_le _, Lib.hid fun j hj => absurd hj (Nat.not_lt_zero _)⟩
 case round =>
   obtain ⟨k, rfl, hk, HA⟩ := hrel
   by_cases hlt : k < n
   · obtain ⟨b, off, rfl, _, c0⟩ := str_cell HR.out (Below.refl _ _) (show k < l.length by have := HN.out; omega)
     have hmem : l.getD k default ∈ l := by
       rw [List.getD_eq_getElem?_getD, List.getElem?_eq_getElem (show k < l.length by have := HN.out; omega)]
       exact List.getElem_mem _
     have HP := Lib.hid (partNot_any (l.getD k default) w (HS.out _ hmem))
     obtain ⟨x, hx⟩ : ∃ x, x = l.getD k default := ⟨_, rfl⟩
     rw [← hx] at c0 HP hmem
     have HX := Lib.hid hx
     clear hx
     cases hm : mayN x with
     | true =>
       rw [hm] at HP
       have HM := Lib.hid hm
       clear hm hmem
       go_wp2_with (with_reducible refine HP.out.mono ?_; rintro e w1 ⟨rfl, rfl⟩)
       go_round
       case rel => exact ⟨k + 1, by go_num, by omega, Lib.hid fun j hj => by
         by_cases h : j = k
         · rw [h, ← HX.out]; exact HM.out
         · exact HA.out j (by omega)⟩
       case measure => simp [intOf]; omega
     | false =>
       rw [hm] at HP
       have HM := Lib.hid (show l.all mayN = false from by
         rw [List.all_eq_false]
         exact ⟨_, hmem, by rw [hm]; decide⟩)
       clear hm hmem
       go_wp2_with (with_reducible refine HP.out.mono ?_; rintro e w1 ⟨rfl, rfl⟩)
       go_ret
       exact ⟨k, rfl, by rw [HM.out]; simp, rfl⟩
   · have : k = n := by omega
     subst this
     go_wp2
     go_ret
     refine ⟨-1, rfl, ?_, rfl⟩
     have : l.all mayN = true := by
       rw [List.all_eq_true]
       intro x hx
       obtain ⟨j, hj, rfl⟩ := List.getElem_of_mem hx
       have := HA.out j (by have := HN.out; omega)
       rwa [List.getD_eq_getElem?_getD, List.getElem?_eq_getElem hj] at this
     rw [this]
     decide
theorem conP_any (l : List (List UInt8)) (A : Option Addr) (c : Nat) (w : World) (hr : RdK kStr w w.heap.size A l) (hl : l.length ≤ 1000000) (hs : ∀ s ∈ l, s.length ≤ 9223372036854775807) :
   Calls Try.prog 88 #[.slice A l.length c, .func (.func 89) #[] #[]] w fun e w' => e = .returned (.bool (!(l.all mayN))) ∧ w = w' := by
 have HI := Lib.hid (idxP_any l A c w hr hl hs)
 obtain ⟨n, hn⟩ : ∃ n, n = l.length := ⟨_, rfl⟩
 rw [← hn] at HI ⊢
 clear hr hl hs hn
 generalize (!(l.all mayN)) = p at HI ⊢
 go_enter Try.func88, Try.ntmps88
 go_wp2_with ((with_reducible refine HI.out.mono ?_); rintro e w1 ⟨i, rfl, hd, rfl⟩)
 go_ret
 exact ⟨by rw [← hd]; rfl, rfl⟩
theorem eg86 : ∀ args w, (callFunc 86 args).run Try.prog w = .ok (.enter 86 args) w := enters_of Try.func86 (by kernel_rfl) rfl
theorem pred86 (w : World) : PredBelow Try.prog 86 #[] (fun x : Ytniaijgejljjbaa.SmA => .agg x.1.cells.toArray) (fun x => !mayA x.1) w := fun W x hb => by
 obtain ⟨x, h1, h2⟩ := x
 exact (mayNot_any x W h1 h2).mono fun e w' ⟨he, hw⟩ => ⟨he, hb.trans (hw.mono hb.size)⟩
theorem conA_any (l : List At) (A : Option Addr) (c : Nat) (w : World) (hr : Ytniaijgejljjbaa.RdK kA w w.heap.size A l) (hl : l.length ≤ 1000000) (hs : Ytniaijgejljjbaa.Sm l) :
   Calls Try.prog 85 #[.slice A l.length c, .func (.func 86) #[] #[]] w fun e w' => e = .returned (.bool (!(l.all mayA))) ∧ Below w.heap.size w w' := by
 obtain ⟨zs, rfl⟩ := Ytniaijgejljjbaa.sm_list hs
 have h := Ytniaijgejljjbaa.cf_any (α := Ytniaijgejljjbaa.SmA) (fun x => x.1) (fun x => !mayA x.1) 86 #[] eg86 zs A c w (pred86 w) hr (by rw [List.length_map] at hl; exact hl)
 have e : (!((zs.map (·.1)).all mayA)) = zs.any fun x => !mayA x.1 := by rw [List.all_map, List.not_all_eq_any_not]; rfl
 rw [e, List.length_map]
 exact h
end Go.Proofs.Ytniaijgejljjbaa.Tlv
