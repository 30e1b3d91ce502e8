/- Which names, types and attributes may be. -/
import Derived.Test.YtidkpdoiblomjaaZ06
import Derived.Outline
import Derived.Test.YtidkpdoiblomjaaZ12
namespace Go.Proofs.Ytidkpdoiblomjaa
open Go.RowKit
set_option linter.unusedVariables false
set_option linter.unusedSimpArgs false
theorem Utf_ret_bool {a b : Bool} (h : a = b) : Ending.returned (.bool a) = .returned (.bool b) := by rw [h]
def lowC (c : Int) : Bool := decide (97 ≤ c) && decide (c ≤ 122)
def otherC (c : Int) : Bool := c == 45 || (decide (48 ≤ c) && decide (c ≤ 57))
def okC (c : Int) : Bool := lowC c || otherC c
def ch (t : List UInt8) (k : Nat) : Int := ((t.getD k 0).toNat : Int)
def okAt (t : List UInt8) (k : Nat) : Bool := okC (ch t k) && (decide (0 < k) || lowC (ch t k))
def upTo (t : List UInt8) (k : Nat) : Bool := (List.range k).all (okAt t)
def mayT (t : List UInt8) : Bool := decide (1 ≤ t.length) && decide (t.length ≤ 32) && upTo t t.length
theorem upTo_succ (t : List UInt8) (k : Nat) : upTo t (k + 1) = (upTo t k && okAt t k) := by
 unfold upTo
 rw [List.range_succ, List.all_append]
 simp
theorem upTo_no {t : List UInt8} {k : Nat} (hk : k < t.length) (h : okAt t k = false) : mayT t = false := by
 have : upTo t t.length = false := by
   unfold upTo
   rw [List.all_eq_false]
   exact ⟨k, List.mem_range.2 hk, by rw [h]; decide⟩
 unfold mayT
 rw [this, Bool.and_false]
theorem sx_get (t : List UInt8) (k : Nat) (h : k < t.length) : ((((sx t)[k]'(by rw [sx_size]; exact h)).toNat : Nat) : Int) = ch t k := by
 unfold ch
 rw [List.getD_eq_getElem?_getD, List.getElem?_eq_getElem h]
 have e : (sx t)[k]'(by rw [sx_size]; exact h) = (sx t).data.toList[k]'(by rw [sx_data]; exact h) := rfl
 rw [e, List.getElem_of_eq (sx_data t) _]
 rfl
theorem ch_bd (t : List UInt8) (k : Nat) : 0 ≤ ch t k ∧ ch t k ≤ 255 := by unfold ch; have := (t.getD k 0).toNat_lt; omega
theorem lowC_t {c : Int} (h : lowC c = true) : 97 ≤ c ∧ c ≤ 122 := by unfold lowC at h; simp at h; exact h
theorem lowC_f {c : Int} (h : lowC c = false) : c < 97 ∨ 122 < c := by unfold lowC at h; simp at h; omega
set_option maxHeartbeats 8000000 in
set_option maxRecDepth 100000 in
theorem mayType_any (t : List UInt8) (w : World) (hs : t.length ≤ 9223372036854775807) : Calls Try.prog 106 #[.string (sx t)] w fun e w' => e = .returned (.bool (mayT t)) ∧ w = w' := by
 have hz := sx_size t
 go_enter Try.func106, Try.ntmps106
 go_wp2
 go_loopw [7] (fun i wr => ∃ k : Nat, i = .int .i64 k ∧ k ≤ t.length ∧ wr = w ∧ Hid (upTo t k = true)) (fun i _ => t.length - (intOf i).toNat)
 case atStart => exact ⟨0, rfl, Nat.zero_le _, rfl, Lib.hid rfl⟩
 case round =>
   obtain ⟨k, rfl, hk, rfl, HU⟩ := hrel
   by_cases hlt : k < t.length
   · have hg := sx_get t k hlt
     have hb := ch_bd t k
     have HN := Lib.hid (upTo_no hlt)
     have HS := Lib.hid (upTo_succ t k)
     have hks : k < (sx t).size := by omega
     unfold okAt okC lowC otherC at HN HS
     rw [HU.out, Bool.true_and] at HS
     rw [← hg] at HN HS hb
     clear hg
     obtain ⟨h0, h1⟩ := hb
     by_cases hl : 97 ≤ ((((sx t)[k]'hks).toNat : Nat) : Int) ∧ ((((sx t)[k]'hks).toNat : Nat) : Int) ≤ 122
     · obtain ⟨hl1, hl2⟩ := hl
       have HU2 : Hid (upTo t (k + 1) = true) := Lib.hid (by rw [HS.out]; simp; omega)
       clear HN HS HU
       go_wp2
       go_roundw
       case rel => exact ⟨k + 1, by go_num, by omega, by trivial, HU2⟩
       case measure => simp [intOf]; omega
     · by_cases ho : ((((sx t)[k]'hks).toNat : Nat) : Int) = 45 ∨ (48 ≤ ((((sx t)[k]'hks).toNat : Nat) : Int) ∧ ((((sx t)[k]'hks).toNat : Nat) : Int) ≤ 57)
       · by_cases hk0 : k = 0
         · have hk0' : ((k : Int) == 0) = true := by simp; omega
           rcases ho with hc45 | ⟨ho1, ho2⟩
           · rw [hc45] at HN HS h0 h1
             have HM := Lib.hid (HN.out (by rw [hk0]; decide))
             clear HN HS HU hk0
             go_wp2
             go_ret
             exact ⟨by rw [HM.out]; rfl, rfl⟩
           · have hn45 : (((((sx t)[k]'hks).toNat : Nat) : Int) == 45) = false := by simp; omega
             have HM := Lib.hid (HN.out (by simp; omega))
             clear HN HS HU hk0
             go_wp2
             go_ret
             exact ⟨by rw [HM.out]; rfl, rfl⟩
         · have hk1 : 0 < k := by omega
           have hk2 : ((k : Int) == 0) = false := by simp; omega
           rcases ho with hc45 | ⟨ho1, ho2⟩
           · rw [hc45] at HN HS h0 h1
             have HU2 : Hid (upTo t (k + 1) = true) := Lib.hid (by rw [HS.out]; simp; omega)
             clear HN HS HU
             go_wp2
             go_roundw
             case rel => exact ⟨k + 1, by go_num, by omega, by trivial, HU2⟩
             case measure => simp [intOf]; omega
           · have hn45 : (((((sx t)[k]'hks).toNat : Nat) : Int) == 45) = false := by simp; omega
             have HU2 : Hid (upTo t (k + 1) = true) := Lib.hid (by rw [HS.out]; simp; omega)
             clear HN HS HU
             go_wp2
             go_roundw
             case rel => exact ⟨k + 1, by go_num, by omega, by trivial, HU2⟩
             case measure => simp [intOf]; omega
       · have hn45 : (((((sx t)[k]'hks).toNat : Nat) : Int) == 45) = false := by simp; omega
         have hx : ((((sx t)[k]'hks).toNat : Nat) : Int) < 48 ∨ (57 < ((((sx t)[k]'hks).toNat : Nat) : Int) ∧ ((((sx t)[k]'hks).toNat : Nat) : Int) < 97) ∨ 122 < ((((sx t)[k]'hks).toNat : Nat) : Int) := by omega
         rcases hx with hx | ⟨hx1, hx2⟩ | hx
         all_goals
           have HM := Lib.hid (HN.out (by simp; omega))
           clear HN HS HU
           go_wp2
           go_ret
           exact ⟨by rw [HM.out]; rfl, rfl⟩
   · have hk2 : k = t.length := by omega
     have HM : Hid (mayT t = (decide (1 ≤ t.length) && decide (t.length ≤ 32))) := Lib.hid (by unfold mayT; rw [← hk2, HU.out, Bool.and_true])
     clear HU
     by_cases h1 : 1 ≤ t.length
     · by_cases h2 : t.length ≤ 32
       · have HM2 : Hid (mayT t = true) := Lib.hid (by rw [HM.out, decide_eq_true h1, decide_eq_true h2]; rfl)
         clear HM
         go_wp2
         go_ret
         exact ⟨Utf_ret_bool (by rw [HM2.out]; simp; omega), rfl⟩
       · have HM2 : Hid (mayT t = false) := Lib.hid (by rw [HM.out, decide_eq_false h2, Bool.and_false])
         have h2' : 32 < t.length := by omega
         clear HM h2
         go_wp2
         go_ret
         exact ⟨Utf_ret_bool (by rw [HM2.out]; simp; omega), rfl⟩
     · have HM2 : Hid (mayT t = false) := Lib.hid (by rw [HM.out, decide_eq_false h1, Bool.false_and])
       have h1' : t.length < 1 := by omega
       clear HM h1
       go_wp2
       go_ret
       exact ⟨by rw [HM2.out]; rfl, rfl⟩
def validV (v : List UInt8) : Bool := decide (Utf.upto (sx v) = (sx v).size)
def mayN (v : List UInt8) : Bool := decide (v.length ≤ 1000) && validV v
def mayA (x : At) : Bool := mayT x.t && mayN x.v
set_option maxHeartbeats 1000000 in
theorem refValid_any (v : List UInt8) (w : World) (h1 : v.length ≤ 40000) : Calls Try.prog 62 #[.string (sx v)] w fun e w' => e = .returned (.bool (validV v)) ∧ Below w.heap.size w w' := by
 have hz := sx_size v
 have HD := Lib.hid (Utf.refDec_any (sx v) w (by omega))
 by_cases h : Utf.upto (sx v) = (sx v).size
 · have HV : Hid (validV v = true) := Lib.hid (decide_eq_true h)
   rw [h] at HD
   clear h
   go_enter Try.func62, Try.ntmps62
   go_wp2_with (go_at_call 73; refine HD.out.mono ?_; rintro e w' ⟨v1, rfl, _, hb⟩)
   go_ret
   exact ⟨by rw [HV.out]; rfl, hb⟩
 · have HV : Hid (validV v = false) := Lib.hid (decide_eq_false h)
   have hne : (((Utf.upto (sx v) : Nat) : Int) == ((sx v).size : Int)) = false := by simp; omega
   have hne2 : (((Utf.upto (sx v) : Nat) : Int) == (v.length : Int)) = false := by simp; omega
   clear h
   generalize Utf.upto (sx v) = u at *
   go_enter Try.func62, Try.ntmps62
   go_wp2_with (go_at_call 73; refine HD.out.mono ?_; rintro e w' ⟨v1, rfl, _, hb⟩)
   go_ret
   exact ⟨by rw [HV.out]; rfl, hb⟩
set_option maxHeartbeats 1000000 in
theorem mayName_any (v : List UInt8) (w : World) (h1 : v.length ≤ 9223372036854775807) : Calls Try.prog 77 #[.string (sx v)] w fun e w' => e = .returned (.bool (mayN v)) ∧ w = w' := by
 have hz := sx_size v
 by_cases h : v.length ≤ 1000
 · have HD : Hid (∀ W, Calls Try.prog 94 #[.string (sx v)] W fun e w' => e = .returned (.bool (validV v)) ∧ W = w') := Lib.hid fun W => Utf.valid_any (sx v) W (by omega)
   have HV : Hid (mayN v = validV v) := Lib.hid (by unfold mayN; rw [decide_eq_true h, Bool.true_and])
   generalize validV v = b at *
   go_enter Try.func77, Try.ntmps77
   go_wp2_with (go_at_call 94; refine (HD.out _).mono ?_; rintro e w' ⟨rfl, rfl⟩)
   go_ret
   exact ⟨by rw [HV.out]; rfl, rfl⟩
 · have HV : Hid (mayN v = false) := Lib.hid (by unfold mayN; rw [decide_eq_false h, Bool.false_and])
   have h' : 1000 < v.length := by omega
   clear h
   go_enter Try.func77, Try.ntmps77
   go_wp2
   go_ret
   exact ⟨by rw [HV.out]; rfl, rfl⟩
set_option maxHeartbeats 1000000 in
theorem refMayName_any (v : List UInt8) (w : World) (h1 : v.length ≤ 9223372036854775807) : Calls Try.prog 46 #[.string (sx v)] w fun e w' => e = .returned (.bool (mayN v)) ∧ Below w.heap.size w w' := by
 have hz := sx_size v
 by_cases h : v.length ≤ 1000
 · have HD : Hid (∀ W, Calls Try.prog 62 #[.string (sx v)] W fun e w' => e = .returned (.bool (validV v)) ∧ Below W.heap.size W w') := Lib.hid fun W => refValid_any v W (by omega)
   have HV : Hid (mayN v = validV v) := Lib.hid (by unfold mayN; rw [decide_eq_true h, Bool.true_and])
   generalize validV v = b at *
   go_enter Try.func46, Try.ntmps46
   go_wp2_with (go_at_call 62; refine (HD.out _).mono ?_; rintro e w' ⟨rfl, hb⟩)
   go_ret
   exact ⟨by rw [HV.out]; rfl, hb⟩
 · have HV : Hid (mayN v = false) := Lib.hid (by unfold mayN; rw [decide_eq_false h, Bool.false_and])
   have h' : 1000 < v.length := by omega
   clear h
   go_enter Try.func46, Try.ntmps46
   go_wp2
   go_ret
   exact ⟨by rw [HV.out]; rfl, Below.refl _ _⟩
set_option maxHeartbeats 1000000 in
theorem mayAttr_any (x : At) (w : World) (h1 : x.t.length ≤ 9223372036854775807) (h2 : x.v.length ≤ 9223372036854775807) : Calls Try.prog 95 #[x.val] w fun e w' => e = .returned (.bool (mayA x)) ∧ Below w.heap.size w w' := by
 have HT : Hid (∀ W, Calls Try.prog 106 #[.string (sx x.t)] W fun e w' => e = .returned (.bool (mayT x.t)) ∧ W = w') := Lib.hid fun W => mayType_any x.t W h1
 have HN : Hid (∀ W, Calls Try.prog 77 #[.string (sx x.v)] W fun e w' => e = .returned (.bool (mayN x.v)) ∧ W = w') := Lib.hid fun W => mayName_any x.v W h2
 cases ht : mayT x.t with
 | false =>
   have HV : Hid (mayA x = false) := Lib.hid (by unfold mayA; rw [ht]; rfl)
   rw [ht] at HT
   clear ht
   go_enter Try.func95, Try.ntmps95
   go_wp2_with (go_at_call 106; (with_reducible refine (HT.out _).mono ?_); rintro e w' ⟨rfl, rfl⟩)
   go_ret
   exact ⟨by rw [HV.out]; rfl, (Below.refl _ _).alloc (Nat.le_refl _) _⟩
 | true =>
   have HV : Hid (mayA x = mayN x.v) := Lib.hid (by unfold mayA; rw [ht]; rfl)
   rw [ht] at HT
   generalize mayN x.v = b at *
   clear ht
   go_enter Try.func95, Try.ntmps95
   go_wp2_with (first
     | (go_at_call 106; (with_reducible refine (HT.out _).mono ?_); rintro e w' ⟨rfl, rfl⟩)
     | (go_at_call 77; (with_reducible refine (HN.out _).mono ?_); rintro e w' ⟨rfl, rfl⟩))
   go_ret
   exact ⟨by rw [HV.out]; rfl, (Below.refl _ _).alloc (Nat.le_refl _) _⟩
end Go.Proofs.Ytidkpdoiblomjaa
