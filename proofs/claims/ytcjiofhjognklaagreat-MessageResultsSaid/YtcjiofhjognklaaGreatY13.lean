/- Attributes: how they stand; lists that rise. -/
import GoSem.Op.String
import Derived.Test.YtcjiofhjognklaaGreatY07
import Derived.Outline
import Derived.Test.YtcjiofhjognklaaGreatY12
namespace Go.Proofs.YtcjiofhjognklaaGreat
set_option linter.unusedVariables false
abbrev bless := Op.bytesLess
theorem bless_irrefl : ∀ x, bless x x = false
 | [] => rfl
 | a :: x => by
   have h := bless_irrefl x
   show (decide (a < a) || (a == a && bless x x)) = false
   rw [h]
   simp
theorem bless_cons {a b : UInt8} {x y : List UInt8} : bless (a :: x) (b :: y) = true ↔ a < b ∨ a = b ∧ bless x y = true := by
 show (decide (a < b) || (a == b && bless x y)) = true ↔ _
 simp
theorem u8_tri (a b : UInt8) : a < b ∨ a = b ∨ b < a := by
 rcases Nat.lt_trichotomy a.toNat b.toNat with h | h | h
 · exact .inl (UInt8.lt_iff_toNat_lt.2 h)
 · exact .inr (.inl (UInt8.toNat_inj.1 h))
 · exact .inr (.inr (UInt8.lt_iff_toNat_lt.2 h))
theorem u8_trans {a b c : UInt8} (h : a < b) (k : b < c) : a < c := UInt8.lt_iff_toNat_lt.2 (Nat.lt_trans (UInt8.lt_iff_toNat_lt.1 h) (UInt8.lt_iff_toNat_lt.1 k))
theorem bless_trans : ∀ {x y z : List UInt8}, bless x y = true → bless y z = true → bless x z = true
 | x, [], _, h, _ => by cases x <;> simp [bless, Op.bytesLess] at h
 | _, _ :: _, [], _, h => by simp [bless, Op.bytesLess] at h
 | [], _ :: _, _ :: _, _, _ => rfl
 | a :: x, b :: y, c :: z, h, k => by
   rw [bless_cons] at h k ⊢
   rcases h with h | ⟨rfl, h⟩
   · rcases k with k | ⟨rfl, k⟩
     · exact .inl (u8_trans h k)
     · exact .inl h
   · rcases k with k | ⟨rfl, k⟩
     · exact .inl k
     · exact .inr ⟨rfl, bless_trans h k⟩
theorem bless_tri : ∀ (x y : List UInt8), bless x y = true ∨ x = y ∨ bless y x = true
 | [], [] => .inr (.inl rfl)
 | [], _ :: _ => .inl rfl
 | _ :: _, [] => .inr (.inr rfl)
 | a :: x, b :: y => by
   rw [bless_cons, bless_cons]
   rcases u8_tri a b with h | rfl | h
   · exact .inl (.inl h)
   · rcases bless_tri x y with h | rfl | h
     · exact .inl (.inr ⟨rfl, h⟩)
     · exact .inr (.inl rfl)
     · exact .inr (.inr (.inr ⟨rfl, h⟩))
   · exact .inr (.inr (.inl h))
theorem bless_asymm {x y : List UInt8} (h : bless x y = true) : bless y x = false := by
 cases k : bless y x with
 | false => rfl
 | true => have := bless_trans h k; rw [bless_irrefl] at this; cases this
structure At where
 t : List UInt8
 v : List UInt8
deriving Inhabited, DecidableEq
def ltA (x y : At) : Bool := bless x.t y.t || (x.t == y.t && bless x.v y.v)
theorem ltA_iff {x y : At} : ltA x y = true ↔ bless x.t y.t = true ∨ x.t = y.t ∧ bless x.v y.v = true := by unfold ltA; simp
theorem ltA_irrefl (x : At) : ltA x x = false := by unfold ltA; rw [bless_irrefl, bless_irrefl]; simp
theorem ltA_trans {x y z : At} (h : ltA x y = true) (k : ltA y z = true) : ltA x z = true := by
 rw [ltA_iff] at *
 rcases h with h | ⟨e, h⟩
 · rcases k with k | ⟨e', k⟩
   · exact .inl (bless_trans h k)
   · exact .inl (e' ▸ h)
 · rcases k with k | ⟨e', k⟩
   · exact .inl (e ▸ k)
   · exact .inr ⟨e.trans e', bless_trans h k⟩
theorem ltA_asymm {x y : At} (h : ltA x y = true) : ltA y x = false := by
 cases k : ltA y x with
 | false => rfl
 | true => have := ltA_trans h k; rw [ltA_irrefl] at this; cases this
def cmpA (x y : At) : Int := if ltA x y = true then -1 else if ltA y x = true then 1 else 0
def cmpB (x y : List UInt8) : Int := if bless x y = true then -1 else if bless y x = true then 1 else 0
theorem cmpA_or (x y : At) : cmpA x y = if cmpB x.t y.t = 0 then cmpB x.v y.v else cmpB x.t y.t := by
 unfold cmpA cmpB
 rcases bless_tri x.t y.t with h | h | h
 · have h2 := bless_asymm h
   have e1 : ltA x y = true := ltA_iff.2 (.inl h)
   simp [h, e1]
 · have e1 : ltA x y = bless x.v y.v := by unfold ltA; rw [h, bless_irrefl]; simp
   have e2 : ltA y x = bless y.v x.v := by unfold ltA; rw [h, bless_irrefl]; simp
   rw [h, bless_irrefl, e1, e2]
   simp
 · have h2 := bless_asymm h
   have e1 : ltA y x = true := ltA_iff.2 (.inl h)
   have e2 : ltA x y = false := ltA_asymm e1
   simp [h, h2, e1, e2]
def Rises (l : List At) : Prop := l.Pairwise fun x y => ltA x y = true
end Go.Proofs.YtcjiofhjognklaaGreat
namespace Go.Proofs.YtcjiofhjognklaaGreat
open Go.RowKit
set_option linter.unusedVariables false
set_option linter.unusedSimpArgs false
def sx (l : List UInt8) : ByteArray := ⟨l.toArray⟩
theorem sx_data (l : List UInt8) : (sx l).data.toList = l := by unfold sx; simp
theorem data_sx (s : ByteArray) : sx s.data.toList = s := by cases s; unfold sx; simp
theorem sx_size (l : List UInt8) : (sx l).size = l.length := by unfold sx; exact List.size_toArray
theorem sx_list (r : List UInt8) : (sx r).toList = r := by rw [ByteArray.toList_eq, sx_data]
abbrev At.val (a : At) : Value := .agg #[.string (sx a.t), .string (sx a.v)]
def At.cells (a : At) : List Value := [.string (sx a.t), .string (sx a.v)]
theorem info29 : ∃ (i : TypeInfo) (z : Value), Tryz.prog.info? 67 = some i ∧ i.zero = some z ∧ i.size = 2 ∧ i.bytes = 32 ∧ z.cells.size = 2 := by
 have h : (Tryz.prog.info? 67).map (fun i => (i.zero, i.size, i.bytes)) = some (some (.agg #[.string ⟨#[]⟩, .string ⟨#[]⟩]), 2, 32) := by kernel_rfl
 obtain ⟨i, hi, h0, h1, h2⟩ := info_parts h
 exact ⟨i, _, hi, h0, h1, h2, rfl⟩
def kA : Kind At where
 e := 67
 st := 23
 size := 2
 bytes := 32
 cs := At.cells
 len := fun _ => rfl
 one := fun x u hu => by simp [At.cells] at hu; rcases hu with rfl | rfl <;> rfl
 pos := by decide
 sl := Tryz.underlying23
 zero := info29
 small := by decide
theorem RowK.on {α : Type} {K : Kind α} {w w' : World} {base : Nat} {v : Value} {l : List α} (h : RowK K w base v l) (hb : Below w.heap.size w w') : RowK K w' base v l := by
 refine ⟨h.1, ?_⟩
 rcases h.2 with h0 | ⟨g, cap, cur, hv, hg, hh, rest⟩
 · exact .inl h0
 · exact .inr ⟨g, cap, cur, hv, hg, (hb.block g (Array.getElem?_eq_some_iff.1 hh).1).trans hh, rest⟩
theorem RowK.low {α : Type} {K : Kind α} {w : World} {base base' : Nat} {v : Value} {l : List α} (h : RowK K w base v l) (hb : base' ≤ base) : RowK K w base' v l := by
 refine ⟨h.1, ?_⟩
 rcases h.2 with h0 | ⟨g, cap, cur, hv, hg, rest⟩
 · exact .inl h0
 · exact .inr ⟨g, cap, cur, hv, Nat.le_trans hb hg, rest⟩
theorem at_cells {w w' : World} {n k : Nat} {A : Option Addr} {l : List At} (h : RdK kA w n A l) (hb : Below n w w') (hk : k < l.length) : ∃ b off, A = some ⟨b, off, none⟩ ∧ b < n ∧
   w'.cell? ⟨b, off + k * 2, none⟩ = some (.string (sx (l.getD k default).t)) ∧ w'.cell? ⟨b, off + k * 2 + 1, none⟩ = some (.string (sx (l.getD k default).v)) := by
 obtain ⟨b, off, e, hlt, hc⟩ := h (by omega)
 exact ⟨b, off, e, hlt, (hb.cell (p := ⟨b, off + k * 2, none⟩) hlt).trans (hc k hk 0 _ rfl), (hb.cell (p := ⟨b, off + k * 2 + 1, none⟩) hlt).trans (hc k hk 1 _ rfl)⟩
theorem Utf_ret_bool {a b : Bool} (h : a = b) : Ending.returned (.bool a) = .returned (.bool b) := by rw [h]
def lowC (c : Int) : Bool := decide (97 ≤ c) && decide (c ≤ 122)
def otherC (c : Int) : Bool := c == 45 || (decide (48 ≤ c) && decide (c ≤ 57))
def okC (c : Int) : Bool := lowC c || otherC c
def ch (t : List UInt8) (k : Nat) : Int := ((t.getD k 0).toNat : Int)
def okAt (t : List UInt8) (k : Nat) : Bool := okC (ch t k) && (decide (0 < k) || lowC (ch t k))
def upTo (t : List UInt8) (k : Nat) : Bool := (List.range k).all (okAt t)
def mayT (t : List UInt8) : Bool := decide (1 ≤ t.length) && decide (t.length ≤ 32) && upTo t t.length
theorem upTo_succ (t : List UInt8) (k : Nat) : upTo t (k + 1) = (upTo t k && okAt t k) := by
 unfold upTo
 rw [List.range_succ, List.all_append]
 simp
theorem upTo_no {t : List UInt8} {k : Nat} (hk : k < t.length) (h : okAt t k = false) : mayT t = false := by
 have : upTo t t.length = false := by
   unfold upTo
   rw [List.all_eq_false]
   exact ⟨k, List.mem_range.2 hk, by rw [h]; decide⟩
 unfold mayT
 rw [this, Bool.and_false]
theorem sx_get (t : List UInt8) (k : Nat) (h : k < t.length) : ((((sx t)[k]'(by rw [sx_size]; exact h)).toNat : Nat) : Int) = ch t k := by
 unfold ch
 rw [List.getD_eq_getElem?_getD, List.getElem?_eq_getElem h]
 have e : (sx t)[k]'(by rw [sx_size]; exact h) = (sx t).data.toList[k]'(by rw [sx_data]; exact h) := rfl
 rw [e, List.getElem_of_eq (sx_data t) _]
 rfl
theorem ch_bd (t : List UInt8) (k : Nat) : 0 ≤ ch t k ∧ ch t k ≤ 255 := by unfold ch; have := (t.getD k 0).toNat_lt; omega
theorem lowC_t {c : Int} (h : lowC c = true) : 97 ≤ c ∧ c ≤ 122 := by unfold lowC at h; simp at h; exact h
theorem lowC_f {c : Int} (h : lowC c = false) : c < 97 ∨ 122 < c := by unfold lowC at h; simp at h; omega
set_option maxHeartbeats 8000000 in
set_option maxRecDepth 100000 in
theorem mayType_any (t : List UInt8) (w : World) (hs : t.length ≤ 9223372036854775807) : Calls Tryz.prog 149 #[.string (sx t)] w fun e w' => e = .returned (.bool (mayT t)) ∧ w = w' := by
 have hz := sx_size t
 go_enter Tryz.func149, Tryz.ntmps149
 go_wp2
 go_loopw [7] (fun i wr => ∃ k : Nat, i = .int .i64 k ∧ k ≤ t.length ∧ wr = w ∧ Hid (upTo t k = true)) (fun i _ => t.length - (intOf i).toNat)
 case atStart => exact ⟨0, rfl, Nat.zero_le _, rfl, Lib.hid rfl⟩
 case round =>
   obtain ⟨k, rfl, hk, rfl, HU⟩ := hrel
   by_cases hlt : k < t.length
   · have hg := sx_get t k hlt
     have hb := ch_bd t k
     have HN := Lib.hid (upTo_no hlt)
     have HS := Lib.hid (upTo_succ t k)
     have hks : k < (sx t).size := by omega
     unfold okAt okC lowC otherC at HN HS
     rw [HU.out, Bool.true_and] at HS
     rw [← hg] at HN HS hb
     clear hg
     obtain ⟨h0, h1⟩ := hb
     by_cases hl : 97 ≤ ((((sx t)[k]'hks).toNat : Nat) : Int) ∧ ((((sx t)[k]'hks).toNat : Nat) : Int) ≤ 122
     · obtain ⟨hl1, hl2⟩ := hl
       have HU2 : Hid (upTo t (k + 1) = true) := Lib.hid (by rw [HS.out]; simp; omega)
       clear HN HS HU
       go_wp2
       go_roundw
       case rel => exact ⟨k + 1, by go_num, by omega, by trivial, HU2⟩
       case measure => simp [intOf]; omega
     · by_cases ho : ((((sx t)[k]'hks).toNat : Nat) : Int) = 45 ∨ (48 ≤ ((((sx t)[k]'hks).toNat : Nat) : Int) ∧ ((((sx t)[k]'hks).toNat : Nat) : Int) ≤ 57)
       · by_cases hk0 : k = 0
         · have hk0' : ((k : Int) == 0) = true := by simp; omega
           rcases ho with hc45 | ⟨ho1, ho2⟩
           · rw [hc45] at HN HS h0 h1
             have HM := Lib.hid (HN.out (by rw [hk0]; decide))
             clear HN HS HU hk0
             go_wp2
             go_ret
             exact ⟨by rw [HM.out]; rfl, rfl⟩
           · have hn45 : (((((sx t)[k]'hks).toNat : Nat) : Int) == 45) = false := by simp; omega
             have HM := Lib.hid (HN.out (by simp; omega))
             clear HN HS HU hk0
             go_wp2
             go_ret
             exact ⟨by rw [HM.out]; rfl, rfl⟩
         · have hk1 : 0 < k := by omega
           have hk2 : ((k : Int) == 0) = false := by simp; omega
           rcases ho with hc45 | ⟨ho1, ho2⟩
           · rw [hc45] at HN HS h0 h1
             have HU2 : Hid (upTo t (k + 1) = true) := Lib.hid (by rw [HS.out]; simp; omega)
             clear HN HS HU
             go_wp2
             go_roundw
             case rel => exact ⟨k + 1, by go_num, by omega, by trivial, HU2⟩
             case measure => simp [intOf]; omega
           · have hn45 : (((((sx t)[k]'hks).toNat : Nat) : Int) == 45) = false := by simp; omega
             have HU2 : Hid (upTo t (k + 1) = true) := Lib.hid (by rw [HS.out]; simp; omega)
             clear HN HS HU
             go_wp2
             go_roundw
             case rel => exact ⟨k + 1, by go_num, by omega, by trivial, HU2⟩
             case measure => simp [intOf]; omega
       · have hn45 : (((((sx t)[k]'hks).toNat : Nat) : Int) == 45) = false := by simp; omega
         have hx : ((((sx t)[k]'hks).toNat : Nat) : Int) < 48 ∨ (57 < ((((sx t)[k]'hks).toNat : Nat) : Int) ∧ ((((sx t)[k]'hks).toNat : Nat) : Int) < 97) ∨ 122 < ((((sx t)[k]'hks).toNat : Nat) : Int) := by omega
         rcases hx with hx | ⟨hx1, hx2⟩ | hx
         all_goals
           have HM := Lib.hid (HN.out (by simp; omega))
           clear HN HS HU
           go_wp2
           go_ret
           exact ⟨by rw [HM.out]; rfl, rfl⟩
   · have hk2 : k = t.length := by omega
     have HM : Hid (mayT t = (decide (1 ≤ t.length) && decide (t.length ≤ 32))) := Lib.hid (by unfold mayT; rw [← hk2, HU.out, Bool.and_true])
     clear HU
     by_cases h1 : 1 ≤ t.length
     · by_cases h2 : t.length ≤ 32
       · have HM2 : Hid (mayT t = true) := Lib.hid (by rw [HM.out, decide_eq_true h1, decide_eq_true h2]; rfl)
         clear HM
         go_wp2
         go_ret
         exact ⟨Utf_ret_bool (by rw [HM2.out]; simp; omega), rfl⟩
       · have HM2 : Hid (mayT t = false) := Lib.hid (by rw [HM.out, decide_eq_false h2, Bool.and_false])
         have h2' : 32 < t.length := by omega
         clear HM h2
         go_wp2
         go_ret
         exact ⟨Utf_ret_bool (by rw [HM2.out]; simp; omega), rfl⟩
     · have HM2 : Hid (mayT t = false) := Lib.hid (by rw [HM.out, decide_eq_false h1, Bool.false_and])
       have h1' : t.length < 1 := by omega
       clear HM h1
       go_wp2
       go_ret
       exact ⟨by rw [HM2.out]; rfl, rfl⟩
def validV (v : List UInt8) : Bool := decide (Utf.upto (sx v) = (sx v).size)
def mayN (v : List UInt8) : Bool := decide (v.length ≤ 1000) && validV v
def mayA (x : At) : Bool := mayT x.t && mayN x.v
set_option maxHeartbeats 1000000 in
theorem refValid_any (v : List UInt8) (w : World) (h1 : v.length ≤ 40000) : Calls Tryz.prog 121 #[.string (sx v)] w fun e w' => e = .returned (.bool (validV v)) ∧ Below w.heap.size w w' := by
 have hz := sx_size v
 have HD := Lib.hid (Utf.refDec_any (sx v) w (by omega))
 by_cases h : Utf.upto (sx v) = (sx v).size
 · have HV : Hid (validV v = true) := Lib.hid (decide_eq_true h)
   rw [h] at HD
   clear h
   go_enter Tryz.func121, Tryz.ntmps121
   go_wp2_with (go_at_call 145; refine HD.out.mono ?_; rintro e w' ⟨v1, rfl, _, hb⟩)
   go_ret
   exact ⟨by rw [HV.out]; rfl, hb⟩
 · have HV : Hid (validV v = false) := Lib.hid (decide_eq_false h)
   have hne : (((Utf.upto (sx v) : Nat) : Int) == ((sx v).size : Int)) = false := by simp; omega
   have hne2 : (((Utf.upto (sx v) : Nat) : Int) == (v.length : Int)) = false := by simp; omega
   clear h
   generalize Utf.upto (sx v) = u at *
   go_enter Tryz.func121, Tryz.ntmps121
   go_wp2_with (go_at_call 145; refine HD.out.mono ?_; rintro e w' ⟨v1, rfl, _, hb⟩)
   go_ret
   exact ⟨by rw [HV.out]; rfl, hb⟩
set_option maxHeartbeats 1000000 in
theorem mayName_any (v : List UInt8) (w : World) (h1 : v.length ≤ 9223372036854775807) : Calls Tryz.prog 123 #[.string (sx v)] w fun e w' => e = .returned (.bool (mayN v)) ∧ w = w' := by
 have hz := sx_size v
 by_cases h : v.length ≤ 1000
 · have HD : Hid (∀ W, Calls Tryz.prog 146 #[.string (sx v)] W fun e w' => e = .returned (.bool (validV v)) ∧ W = w') := Lib.hid fun W => Utf.valid_any (sx v) W (by omega)
   have HV : Hid (mayN v = validV v) := Lib.hid (by unfold mayN; rw [decide_eq_true h, Bool.true_and])
   generalize validV v = b at *
   go_enter Tryz.func123, Tryz.ntmps123
   go_wp2_with (go_at_call 146; refine (HD.out _).mono ?_; rintro e w' ⟨rfl, rfl⟩)
   go_ret
   exact ⟨by rw [HV.out]; rfl, rfl⟩
 · have HV : Hid (mayN v = false) := Lib.hid (by unfold mayN; rw [decide_eq_false h, Bool.false_and])
   have h' : 1000 < v.length := by omega
   clear h
   go_enter Tryz.func123, Tryz.ntmps123
   go_wp2
   go_ret
   exact ⟨by rw [HV.out]; rfl, rfl⟩
set_option maxHeartbeats 1000000 in
theorem refMayName_any (v : List UInt8) (w : World) (h1 : v.length ≤ 9223372036854775807) : Calls Tryz.prog 67 #[.string (sx v)] w fun e w' => e = .returned (.bool (mayN v)) ∧ Below w.heap.size w w' := by
 have hz := sx_size v
 by_cases h : v.length ≤ 1000
 · have HD : Hid (∀ W, Calls Tryz.prog 121 #[.string (sx v)] W fun e w' => e = .returned (.bool (validV v)) ∧ Below W.heap.size W w') := Lib.hid fun W => refValid_any v W (by omega)
   have HV : Hid (mayN v = validV v) := Lib.hid (by unfold mayN; rw [decide_eq_true h, Bool.true_and])
   generalize validV v = b at *
   go_enter Tryz.func67, Tryz.ntmps67
   go_wp2_with (go_at_call 121; refine (HD.out _).mono ?_; rintro e w' ⟨rfl, hb⟩)
   go_ret
   exact ⟨by rw [HV.out]; rfl, hb⟩
 · have HV : Hid (mayN v = false) := Lib.hid (by unfold mayN; rw [decide_eq_false h, Bool.false_and])
   have h' : 1000 < v.length := by omega
   clear h
   go_enter Tryz.func67, Tryz.ntmps67
   go_wp2
   go_ret
   exact ⟨by rw [HV.out]; rfl, Below.refl _ _⟩
set_option maxHeartbeats 1000000 in
theorem mayAttr_any (x : At) (w : World) (h1 : x.t.length ≤ 9223372036854775807) (h2 : x.v.length ≤ 9223372036854775807) : Calls Tryz.prog 127 #[x.val] w fun e w' => e = .returned (.bool (mayA x)) ∧ Below w.heap.size w w' := by
 have HT : Hid (∀ W, Calls Tryz.prog 149 #[.string (sx x.t)] W fun e w' => e = .returned (.bool (mayT x.t)) ∧ W = w') := Lib.hid fun W => mayType_any x.t W h1
 have HN : Hid (∀ W, Calls Tryz.prog 123 #[.string (sx x.v)] W fun e w' => e = .returned (.bool (mayN x.v)) ∧ W = w') := Lib.hid fun W => mayName_any x.v W h2
 cases ht : mayT x.t with
 | false =>
   have HV : Hid (mayA x = false) := Lib.hid (by unfold mayA; rw [ht]; rfl)
   rw [ht] at HT
   clear ht
   go_enter Tryz.func127, Tryz.ntmps127
   go_wp2_with (go_at_call 149; (with_reducible refine (HT.out _).mono ?_); rintro e w' ⟨rfl, rfl⟩)
   go_ret
   exact ⟨by rw [HV.out]; rfl, (Below.refl _ _).alloc (Nat.le_refl _) _⟩
 | true =>
   have HV : Hid (mayA x = mayN x.v) := Lib.hid (by unfold mayA; rw [ht]; rfl)
   rw [ht] at HT
   generalize mayN x.v = b at *
   clear ht
   go_enter Tryz.func127, Tryz.ntmps127
   go_wp2_with (first
     | (go_at_call 149; (with_reducible refine (HT.out _).mono ?_); rintro e w' ⟨rfl, rfl⟩)
     | (go_at_call 123; (with_reducible refine (HN.out _).mono ?_); rintro e w' ⟨rfl, rfl⟩))
   go_ret
   exact ⟨by rw [HV.out]; rfl, (Below.refl _ _).alloc (Nat.le_refl _) _⟩
end Go.Proofs.YtcjiofhjognklaaGreat
