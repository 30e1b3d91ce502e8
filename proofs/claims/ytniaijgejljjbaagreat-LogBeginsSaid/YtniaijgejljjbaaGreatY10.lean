/- Which names, types and attributes may be. -/
import Derived.Test.YtniaijgejljjbaaGreatY04
import Derived.Outline
import Derived.Test.YtniaijgejljjbaaGreatY09
import Derived.WalkLawsBesides
namespace Go.Proofs.YtniaijgejljjbaaGreat
open Go.RowKit
set_option linter.unusedVariables false
set_option linter.unusedSimpArgs false
theorem Utf_ret_bool {a b : Bool} (h : a = b) : Ending.returned (.bool a) = .returned (.bool b) := by rw [h]
def lowC (c : Int) : Bool := decide (97 ≤ c) && decide (c ≤ 122)
def otherC (c : Int) : Bool := c == 45 || (decide (48 ≤ c) && decide (c ≤ 57))
def okC (c : Int) : Bool := lowC c || otherC c
def ch (t : List UInt8) (k : Nat) : Int := ((t.getD k 0).toNat : Int)
def okAt (t : List UInt8) (k : Nat) : Bool := okC (ch t k) && (decide (0 < k) || lowC (ch t k))
def upTo (t : List UInt8) (k : Nat) : Bool := (List.range k).all (okAt t)
def mayT (t : List UInt8) : Bool := decide (1 ≤ t.length) && decide (t.length ≤ 32) && upTo t t.length
theorem upTo_succ (t : List UInt8) (k : Nat) : upTo t (k + 1) = (upTo t k && okAt t k) := by
 unfold upTo
 rw [List.range_succ, List.all_append]
 simp
theorem upTo_no {t : List UInt8} {k : Nat} (hk : k < t.length) (h : okAt t k = false) : mayT t = false := by
 have : upTo t t.length = false := by
   unfold upTo
   rw [List.all_eq_false]
   exact ⟨k, List.mem_range.2 hk, by rw [h]; decide⟩
 unfold mayT
 rw [this, Bool.and_false]
theorem sx_get (t : List UInt8) (k : Nat) (h : k < t.length) : ((((sx t)[k]'(by rw [sx_size]; exact h)).toNat : Nat) : Int) = ch t k := by
 unfold ch
 rw [List.getD_eq_getElem?_getD, List.getElem?_eq_getElem h]
 have e : (sx t)[k]'(by rw [sx_size]; exact h) = (sx t).data.toList[k]'(by rw [sx_data]; exact h) := rfl
 rw [e, List.getElem_of_eq (sx_data t) _]
 rfl
theorem ch_bd (t : List UInt8) (k : Nat) : 0 ≤ ch t k ∧ ch t k ≤ 255 := by unfold ch; have := (t.getD k 0).toNat_lt; omega
theorem lowC_t {c : Int} (h : lowC c = true) : 97 ≤ c ∧ c ≤ 122 := by unfold lowC at h; simp at h; exact h
theorem lowC_f {c : Int} (h : lowC c = false) : c < 97 ∨ 122 < c := by unfold lowC at h; simp at h; omega
set_option maxHeartbeats 8000000 in
set_option maxRecDepth 100000 in
theorem mayType_any (t : List UInt8) (w : World) (hs : t.length ≤ 9223372036854775807) : Calls Tryz.prog 93 #[.string (sx t)] w fun e w' => e = .returned (.bool (mayT t)) ∧ w = w' := by
 have hz := sx_size t
 go_enter Tryz.func93, Tryz.ntmps93
 go_wp2
 go_loopw [7] (fun i wr => ∃ k : Nat, i = .int .i64 k ∧ k ≤ t.length ∧ wr = w ∧ Hid (upTo t k = true)) (fun i _ => t.length - (intOf i).toNat)
 case atStart => exact ⟨0, rfl, Nat.zero_le _, rfl, Lib.hid rfl⟩
 case round =>
   obtain ⟨k, rfl, hk, rfl, HU⟩ := hrel
   by_cases hlt : k < t.length
   · have hg := sx_get t k hlt
     have hb := ch_bd t k
     have HN := Lib.hid (upTo_no hlt)
     have HS := Lib.hid (upTo_succ t k)
     have hks : k < (sx t).size := by omega
     unfold okAt okC lowC otherC at HN HS
     rw [HU.out, Bool.true_and] at HS
     rw [← hg] at HN HS hb
     clear hg
     obtain ⟨h0, h1⟩ := hb
     by_cases hl : 97 ≤ ((((sx t)[k]'hks).toNat : Nat) : Int) ∧ ((((sx t)[k]'hks).toNat : Nat) : Int) ≤ 122
     · obtain ⟨hl1, hl2⟩ := hl
       have HU2 : Hid (upTo t (k + 1) = true) := Lib.hid (by rw [HS.out]; simp; omega)
       clear HN HS HU
       go_wp2
       go_roundw
       case rel => exact ⟨k + 1, by go_num, by omega, by trivial, HU2⟩
       case measure => simp [intOf]; omega
     · by_cases ho : ((((sx t)[k]'hks).toNat : Nat) : Int) = 45 ∨ (48 ≤ ((((sx t)[k]'hks).toNat : Nat) : Int) ∧ ((((sx t)[k]'hks).toNat : Nat) : Int) ≤ 57)
       · by_cases hk0 : k = 0
         · have hk0' : ((k : Int) == 0) = true := by simp; omega
           rcases ho with hc45 | ⟨ho1, ho2⟩
           · rw [hc45] at HN HS h0 h1
             have HM := Lib.hid (HN.out (by rw [hk0]; decide))
             clear HN HS HU hk0
             go_wp2
             go_ret
             exact ⟨by rw [HM.out]; rfl, rfl⟩
           · have hn45 : (((((sx t)[k]'hks).toNat : Nat) : Int) == 45) = false := by simp; omega
             have HM := Lib.hid (HN.out (by simp; omega))
             clear HN HS HU hk0
             go_wp2
             go_ret
             exact ⟨by rw [HM.out]; rfl, rfl⟩
         · have hk1 : 0 < k := by omega
           have hk2 : ((k : Int) == 0) = false := by simp; omega
           rcases ho with hc45 | ⟨ho1, ho2⟩
           · rw [hc45] at HN HS h0 h1
             have HU2 : Hid (upTo t (k + 1) = true) := Lib.hid (by rw [HS.out]; simp; omega)
             clear HN HS HU
             go_wp2
             go_roundw
             case rel => exact ⟨k + 1, by go_num, by omega, by trivial, HU2⟩
             case measure => simp [intOf]; omega
           · have hn45 : (((((sx t)[k]'hks).toNat : Nat) : Int) == 45) = false := by simp; omega
             have HU2 : Hid (upTo t (k + 1) = true) := Lib.hid (by rw [HS.out]; simp; omega)
             clear HN HS HU
             go_wp2
             go_roundw
             case rel => exact ⟨k + 1, by go_num, by omega, by trivial, HU2⟩
             case measure => simp [intOf]; omega
       · have hn45 : (((((sx t)[k]'hks).toNat : Nat) : Int) == 45) = false := by simp; omega
         have hx : ((((sx t)[k]'hks).toNat : Nat) : Int) < 48 ∨ (57 < ((((sx t)[k]'hks).toNat : Nat) : Int) ∧ ((((sx t)[k]'hks).toNat : Nat) : Int) < 97) ∨ 122 < ((((sx t)[k]'hks).toNat : Nat) : Int) := by omega
         rcases hx with hx | ⟨hx1, hx2⟩ | hx
         all_goals
           have HM := Lib.hid (HN.out (by simp; omega))
           clear HN HS HU
           go_wp2
           go_ret
           exact ⟨by rw [HM.out]; rfl, rfl⟩
   · have hk2 : k = t.length := by omega
     have HM : Hid (mayT t = (decide (1 ≤ t.length) && decide (t.length ≤ 32))) := Lib.hid (by unfold mayT; rw [← hk2, HU.out, Bool.and_true])
     clear HU
     by_cases h1 : 1 ≤ t.length
     · by_cases h2 : t.length ≤ 32
       · have HM2 : Hid (mayT t = true) := Lib.hid (by rw [HM.out, decide_eq_true h1, decide_eq_true h2]; rfl)
         clear HM
         go_wp2
         go_ret
         exact ⟨Utf_ret_bool (by rw [HM2.out]; simp; omega), rfl⟩
       · have HM2 : Hid (mayT t = false) := Lib.hid (by rw [HM.out, decide_eq_false h2, Bool.and_false])
         have h2' : 32 < t.length := by omega
         clear HM h2
         go_wp2
         go_ret
         exact ⟨Utf_ret_bool (by rw [HM2.out]; simp; omega), rfl⟩
     · have HM2 : Hid (mayT t = false) := Lib.hid (by rw [HM.out, decide_eq_false h1, Bool.false_and])
       have h1' : t.length < 1 := by omega
       clear HM h1
       go_wp2
       go_ret
       exact ⟨by rw [HM2.out]; rfl, rfl⟩
def validV (v : List UInt8) : Bool := decide (Utf.upto (sx v) = (sx v).size)
def mayN (v : List UInt8) : Bool := decide (v.length ≤ 1000) && validV v
def mayA (x : At) : Bool := mayT x.t && mayN x.v
set_option maxHeartbeats 1000000 in
theorem refValid_any (v : List UInt8) (w : World) (h1 : v.length ≤ 40000) : Calls Tryz.prog 69 #[.string (sx v)] w fun e w' => e = .returned (.bool (validV v)) ∧ Below w.heap.size w w' := by
 have hz := sx_size v
 have HD := Lib.hid (Utf.refDec_any (sx v) w (by omega))
 by_cases h : Utf.upto (sx v) = (sx v).size
 · have HV : Hid (validV v = true) := Lib.hid (decide_eq_true h)
   rw [h] at HD
   clear h
   go_enter Tryz.func69, Tryz.ntmps69
   go_wp2_with (go_at_call 80; refine HD.out.mono ?_; rintro e w' ⟨v1, rfl, _, hb⟩)
   go_ret
   exact ⟨by rw [HV.out]; rfl, hb⟩
 · have HV : Hid (validV v = false) := Lib.hid (decide_eq_false h)
   have hne : (((Utf.upto (sx v) : Nat) : Int) == ((sx v).size : Int)) = false := by simp; omega
   have hne2 : (((Utf.upto (sx v) : Nat) : Int) == (v.length : Int)) = false := by simp; omega
   clear h
   generalize Utf.upto (sx v) = u at *
   go_enter Tryz.func69, Tryz.ntmps69
   go_wp2_with (go_at_call 80; refine HD.out.mono ?_; rintro e w' ⟨v1, rfl, _, hb⟩)
   go_ret
   exact ⟨by rw [HV.out]; rfl, hb⟩
set_option maxHeartbeats 1000000 in
theorem mayName_any (v : List UInt8) (w : World) (h1 : v.length ≤ 9223372036854775807) : Calls Tryz.prog 81 #[.string (sx v)] w fun e w' => e = .returned (.bool (mayN v)) ∧ w = w' := by
 have hz := sx_size v
 by_cases h : v.length ≤ 1000
 · have HD : Hid (∀ W, Calls Tryz.prog 90 #[.string (sx v)] W fun e w' => e = .returned (.bool (validV v)) ∧ W = w') := Lib.hid fun W => Utf.valid_any (sx v) W (by omega)
   have HV : Hid (mayN v = validV v) := Lib.hid (by unfold mayN; rw [decide_eq_true h, Bool.true_and])
   generalize validV v = b at *
   go_enter Tryz.func81, Tryz.ntmps81
   go_wp2_with (go_at_call 90; refine (HD.out _).mono ?_; rintro e w' ⟨rfl, rfl⟩)
   go_ret
   exact ⟨by rw [HV.out]; rfl, rfl⟩
 · have HV : Hid (mayN v = false) := Lib.hid (by unfold mayN; rw [decide_eq_false h, Bool.false_and])
   have h' : 1000 < v.length := by omega
   clear h
   go_enter Tryz.func81, Tryz.ntmps81
   go_wp2
   go_ret
   exact ⟨by rw [HV.out]; rfl, rfl⟩
set_option maxHeartbeats 1000000 in
theorem refMayName_any (v : List UInt8) (w : World) (h1 : v.length ≤ 9223372036854775807) : Calls Tryz.prog 49 #[.string (sx v)] w fun e w' => e = .returned (.bool (mayN v)) ∧ Below w.heap.size w w' := by
 have hz := sx_size v
 by_cases h : v.length ≤ 1000
 · have HD : Hid (∀ W, Calls Tryz.prog 69 #[.string (sx v)] W fun e w' => e = .returned (.bool (validV v)) ∧ Below W.heap.size W w') := Lib.hid fun W => refValid_any v W (by omega)
   have HV : Hid (mayN v = validV v) := Lib.hid (by unfold mayN; rw [decide_eq_true h, Bool.true_and])
   generalize validV v = b at *
   go_enter Tryz.func49, Tryz.ntmps49
   go_wp2_with (go_at_call 69; refine (HD.out _).mono ?_; rintro e w' ⟨rfl, hb⟩)
   go_ret
   exact ⟨by rw [HV.out]; rfl, hb⟩
 · have HV : Hid (mayN v = false) := Lib.hid (by unfold mayN; rw [decide_eq_false h, Bool.false_and])
   have h' : 1000 < v.length := by omega
   clear h
   go_enter Tryz.func49, Tryz.ntmps49
   go_wp2
   go_ret
   exact ⟨by rw [HV.out]; rfl, Below.refl _ _⟩
set_option maxHeartbeats 1000000 in
theorem mayAttr_any (x : At) (w : World) (h1 : x.t.length ≤ 9223372036854775807) (h2 : x.v.length ≤ 9223372036854775807) : Calls Tryz.prog 85 #[x.val] w fun e w' => e = .returned (.bool (mayA x)) ∧ Below w.heap.size w w' := by
 have HT : Hid (∀ W, Calls Tryz.prog 93 #[.string (sx x.t)] W fun e w' => e = .returned (.bool (mayT x.t)) ∧ W = w') := Lib.hid fun W => mayType_any x.t W h1
 have HN : Hid (∀ W, Calls Tryz.prog 81 #[.string (sx x.v)] W fun e w' => e = .returned (.bool (mayN x.v)) ∧ W = w') := Lib.hid fun W => mayName_any x.v W h2
 cases ht : mayT x.t with
 | false =>
   have HV : Hid (mayA x = false) := Lib.hid (by unfold mayA; rw [ht]; rfl)
   rw [ht] at HT
   clear ht
   go_enter Tryz.func85, Tryz.ntmps85
   go_wp2_with (go_at_call 93; (with_reducible refine (HT.out _).mono ?_); rintro e w' ⟨rfl, rfl⟩)
   go_ret
   exact ⟨by rw [HV.out]; rfl, (Below.refl _ _).alloc (Nat.le_refl _) _⟩
 | true =>
   have HV : Hid (mayA x = mayN x.v) := Lib.hid (by unfold mayA; rw [ht]; rfl)
   rw [ht] at HT
   generalize mayN x.v = b at *
   clear ht
   go_enter Tryz.func85, Tryz.ntmps85
   go_wp2_with (first
     | (go_at_call 93; (with_reducible refine (HT.out _).mono ?_); rintro e w' ⟨rfl, rfl⟩)
     | (go_at_call 81; (with_reducible refine (HN.out _).mono ?_); rintro e w' ⟨rfl, rfl⟩))
   go_ret
   exact ⟨by rw [HV.out]; rfl, (Below.refl _ _).alloc (Nat.le_refl _) _⟩
set_option maxHeartbeats 8000000 in
set_option maxRecDepth 100000 in
theorem refMayAttr_any (x : At) (w : World) (h1 : x.t.length ≤ 9223372036854775807) (h2 : x.v.length ≤ 9223372036854775807) : Calls Tryz.prog 50 #[x.val] w fun e w' => e = .returned (.bool (mayA x)) ∧ Below w.heap.size w w' := by
 have HN : Hid (∀ W, Calls Tryz.prog 49 #[.string (sx x.v)] W fun e w' => e = .returned (.bool (mayN x.v)) ∧ Below W.heap.size W w') := Lib.hid fun W => refMayName_any x.v W h2
 obtain ⟨t, v⟩ := x
 dsimp only at *
 have hz := sx_size t
 have hb0 : Below w.heap.size w (w.alloc (.cells #[.string (sx t), .string (sx v)] 99)) := (Below.refl _ _).alloc (Nat.le_refl _) _
 by_cases hl1 : 1 ≤ t.length
 · by_cases hl2 : t.length ≤ 32
   · have h0t : 0 < t.length := by omega
     have h0s : 0 < (sx t).size := by omega
     have hg := sx_get t 0 h0t
     have HF : Hid (okAt t 0 = lowC ((((sx t)[0]'h0s).toNat : Nat) : Int)) := Lib.hid (by
       unfold okAt okC
       rw [← hg]
       cases lowC ((((sx t)[0]'h0s).toNat : Nat) : Int) <;> simp)
     clear hg
     cases hlo : lowC ((((sx t)[0]'h0s).toNat : Nat) : Int) with
     | false =>
       have HM : Hid (mayA ⟨t, v⟩ = false) := Lib.hid (by unfold mayA; rw [upTo_no h0t (by rw [HF.out, hlo])]; rfl)
       have hlo2 := lowC_f hlo
       clear HF hlo
       rcases hlo2 with hlo2 | hlo2
       all_goals
         go_enter Tryz.func50, Tryz.ntmps50
         go_wp2
         go_ret
         exact ⟨by rw [HM.out]; rfl, hb0⟩
     | true =>
       obtain ⟨hlo1, hlo2⟩ := lowC_t hlo
       rw [hlo] at HF
       clear hlo
       cases hmn : mayN v with
       | false =>
         have HM : Hid (mayA ⟨t, v⟩ = false) := Lib.hid (by unfold mayA; dsimp only; rw [hmn, Bool.and_false])
         rw [hmn] at HN
         clear hmn HF
         go_enter Tryz.func50, Tryz.ntmps50
         go_wp2_with (go_at_call 49; (with_reducible refine (HN.out _).mono ?_); rintro e w' ⟨rfl, hb⟩)
         go_ret
         exact ⟨by rw [HM.out]; rfl, hb0.trans (hb.mono (by simp))⟩
       | true =>
         have HM : Hid (mayA ⟨t, v⟩ = upTo t t.length) := Lib.hid (by unfold mayA mayT; dsimp only; rw [hmn, decide_eq_true hl1, decide_eq_true hl2]; simp)
         rw [hmn] at HN
         clear hmn
         have hbx := Blk.new w 99 #[.string (sx t), .string (sx v)]
         go_enter Tryz.func50, Tryz.ntmps50
         go_wp2_with (go_at_call 49; (with_reducible refine (HN.out _).mono ?_); rintro e w1 ⟨rfl, hb⟩; have c0 := (hbx.on hb).cell 0; have hb1 := hb0.trans (hb.mono (by simp)))
         go_loopw [3] (fun i wr => ∃ k : Nat, i = .int .i64 k ∧ k ≤ t.length ∧ wr = w1 ∧ Hid (upTo t k = true)) (fun i _ => t.length - (intOf i).toNat)
         case atStart => exact ⟨0, rfl, Nat.zero_le _, rfl, Lib.hid rfl⟩
         case round =>
           obtain ⟨k, rfl, hk, hwr, HU⟩ := hrel
           obtain rfl : w1 = wr := hwr.symm
           by_cases hlt : k < t.length
           · have hgk := sx_get t k hlt
             have hbk := ch_bd t k
             have hks : k < (sx t).size := by omega
             have HO : Hid (okAt t k = okC ((((sx t)[k]'hks).toNat : Nat) : Int)) := Lib.hid (by
               by_cases hk0 : k = 0
               · subst hk0
                 unfold okC
                 rw [HF.out, hgk]
                 have h := HF.out
                 unfold okAt at h
                 simp at h
                 rw [h.2]
                 rfl
               · unfold okAt
                 rw [hgk, decide_eq_true (show 0 < k by omega), Bool.true_or, Bool.and_true])
             have HS := Lib.hid (upTo_succ t k)
             rw [HU.out, Bool.true_and, HO.out] at HS
             have HNO : Hid (okC ((((sx t)[k]'hks).toNat : Nat) : Int) = false → upTo t t.length = false) := Lib.hid fun h => by
               unfold upTo
               rw [List.all_eq_false]
               exact ⟨k, List.mem_range.2 hlt, by rw [HO.out, h]; decide⟩
             unfold okC lowC otherC at HS HNO
             rw [← hgk] at hbk
             clear hgk HO
             obtain ⟨q0, q1⟩ := hbk
             by_cases hl : 97 ≤ ((((sx t)[k]'hks).toNat : Nat) : Int) ∧ ((((sx t)[k]'hks).toNat : Nat) : Int) ≤ 122
             · obtain ⟨hla, hlb⟩ := hl
               have HU2 : Hid (upTo t (k + 1) = true) := Lib.hid (by rw [HS.out]; simp; omega)
               clear HS HNO HU
               go_wp2
               go_roundw
               case rel => exact ⟨k + 1, by go_num, by omega, by trivial, HU2⟩
               case measure => simp [intOf]; omega
             · by_cases hd : 48 ≤ ((((sx t)[k]'hks).toNat : Nat) : Int) ∧ ((((sx t)[k]'hks).toNat : Nat) : Int) ≤ 57
               · obtain ⟨hda, hdb⟩ := hd
                 have hdc : ((((sx t)[k]'hks).toNat : Nat) : Int) < 97 := by omega
                 have hn45 : (((((sx t)[k]'hks).toNat : Nat) : Int) == 45) = false := by simp; omega
                 have HU2 : Hid (upTo t (k + 1) = true) := Lib.hid (by rw [HS.out]; simp; omega)
                 clear HS HNO HU
                 go_wp2
                 go_roundw
                 case rel => exact ⟨k + 1, by go_num, by omega, by trivial, HU2⟩
                 case measure => simp [intOf]; omega
               · by_cases h45 : ((((sx t)[k]'hks).toNat : Nat) : Int) = 45
                 · have HU2 : Hid (upTo t (k + 1) = true) := Lib.hid (by rw [HS.out]; simp; omega)
                   clear HS HNO HU
                   go_wp2
                   go_roundw
                   case rel => exact ⟨k + 1, by go_num, by omega, by trivial, HU2⟩
                   case measure => simp [intOf]; omega
                 · have hn45 : (((((sx t)[k]'hks).toNat : Nat) : Int) == 45) = false := by simp; omega
                   have HM2 : Hid (mayA ⟨t, v⟩ = false) := Lib.hid (by rw [HM.out]; exact HNO.out (by simp; omega))
                   have hx : ((((sx t)[k]'hks).toNat : Nat) : Int) < 48 ∨ (57 < ((((sx t)[k]'hks).toNat : Nat) : Int) ∧ ((((sx t)[k]'hks).toNat : Nat) : Int) < 97) ∨ 122 < ((((sx t)[k]'hks).toNat : Nat) : Int) := by omega
                   clear HS HNO HU HM
                   rcases hx with hx | ⟨hx1, hx2⟩ | hx
                   · have d57 : ((((sx t)[k]'hks).toNat : Nat) : Int) < 97 := by omega
                     go_wp2
                     go_ret
                     exact ⟨by rw [HM2.out]; rfl, hb1⟩
                   · have d57 : decide (((((sx t)[k]'hks).toNat : Nat) : Int) ≤ 57) = false := decide_eq_false (by omega)
                     go_wp2
                     go_ret
                     exact ⟨by rw [HM2.out]; rfl, hb1⟩
                   · have d57 : decide (((((sx t)[k]'hks).toNat : Nat) : Int) ≤ 57) = false := decide_eq_false (by omega)
                     have d122 : decide (((((sx t)[k]'hks).toNat : Nat) : Int) ≤ 122) = false := decide_eq_false (by omega)
                     go_wp2
                     go_ret
                     exact ⟨by rw [HM2.out]; rfl, hb1⟩
           · have hk2 : k = t.length := by omega
             have HM2 : Hid (mayA ⟨t, v⟩ = true) := Lib.hid (by rw [HM.out, ← hk2, HU.out])
             clear HM HU HF
             go_wp2
             go_ret
             exact ⟨by rw [HM2.out]; rfl, hb1⟩
   · have hl2' : 32 < t.length := by omega
     have HM : Hid (mayA ⟨t, v⟩ = false) := Lib.hid (by unfold mayA mayT; dsimp only; rw [decide_eq_false hl2]; simp)
     clear hl2
     go_enter Tryz.func50, Tryz.ntmps50
     go_wp2
     go_ret
     exact ⟨by rw [HM.out]; rfl, hb0⟩
 · have hl1' : t.length < 1 := by omega
   have HM : Hid (mayA ⟨t, v⟩ = false) := Lib.hid (by unfold mayA mayT; dsimp only; rw [decide_eq_false hl1]; simp)
   clear hl1
   go_enter Tryz.func50, Tryz.ntmps50
   go_wp2
   go_ret
   exact ⟨by rw [HM.out]; rfl, hb0⟩
theorem bless_list (a b : List UInt8) : Op.bytesLess (sx a).toList (sx b).toList = bless a b := by rw [sx_list, sx_list]
set_option maxHeartbeats 1000000 in
theorem isNaN_any (a : List UInt8) (w : World) : Calls Tryz.prog 101 #[.string (sx a)] w fun e w' => e = .returned (.bool false) ∧ w = w' := by
 go_enter Tryz.func101, Tryz.ntmps101
 go_wp2
 go_ret
 exact ⟨rfl, rfl⟩
set_option maxHeartbeats 2000000 in
theorem cmpS_any (a b : List UInt8) (w : World) : Calls Tryz.prog 99 #[.string (sx a), .string (sx b)] w fun e w' => e = .returned (.int .i64 (cmpB a b)) ∧ w = w' := by
 have e1 := bless_list a b
 have e2 : ((sx a).toList == (sx b).toList) = (a == b) := by rw [sx_list, sx_list]
 rcases bless_tri a b with h | h | h
 · have HC : Hid (cmpB a b = -1) := Lib.hid (by unfold cmpB; rw [if_pos h])
   rw [show bless a b = true from h] at e1
   clear e2 h
   go_enter Tryz.func99, Tryz.ntmps99
   go_wp2_with (go_at_call 101; (with_reducible refine (isNaN_any _ _).mono ?_); rintro e w' ⟨rfl, rfl⟩)
   go_ret
   exact ⟨by rw [HC.out]; rfl, rfl⟩
 · subst h
   have HC : Hid (cmpB a a = 0) := Lib.hid (by unfold cmpB; rw [bless_irrefl]; rfl)
   rw [bless_irrefl] at e1
   go_enter Tryz.func99, Tryz.ntmps99
   go_wp2_with (go_at_call 101; (with_reducible refine (isNaN_any _ _).mono ?_); rintro e w' ⟨rfl, rfl⟩)
   go_ret
   exact ⟨by rw [HC.out]; rfl, rfl⟩
 · have h2 := bless_asymm h
   have hne : a ≠ b := fun e => by subst e; rw [bless_irrefl] at h; cases h
   have HC : Hid (cmpB a b = 1) := Lib.hid (by unfold cmpB; rw [h2, h]; rfl)
   rw [h2] at e1
   have e3 : ((sx a).toList == (sx b).toList) = false := by rw [e2]; simpa using hne
   clear e2 h h2 hne
   go_enter Tryz.func99, Tryz.ntmps99
   go_wp2_with (go_at_call 101; (with_reducible refine (isNaN_any _ _).mono ?_); rintro e w' ⟨rfl, rfl⟩)
   go_ret
   exact ⟨by rw [HC.out]; rfl, rfl⟩
end Go.Proofs.YtniaijgejljjbaaGreat
