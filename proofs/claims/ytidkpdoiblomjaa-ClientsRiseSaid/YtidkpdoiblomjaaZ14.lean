/- Which attributes may be, by the document; how two stand. -/
import Derived.Test.YtidkpdoiblomjaaZ13
import Derived.WalkLawsBesides
namespace Go.Proofs.Ytidkpdoiblomjaa
open Go.RowKit
set_option linter.unusedVariables false
set_option linter.unusedSimpArgs false
set_option maxHeartbeats 8000000 in
set_option maxRecDepth 100000 in
theorem refMayAttr_any (x : At) (w : World) (h1 : x.t.length ≤ 9223372036854775807) (h2 : x.v.length ≤ 9223372036854775807) : Calls Try.prog 63 #[x.val] w fun e w' => e = .returned (.bool (mayA x)) ∧ Below w.heap.size w w' := by
 have HN : Hid (∀ W, Calls Try.prog 46 #[.string (sx x.v)] W fun e w' => e = .returned (.bool (mayN x.v)) ∧ Below W.heap.size W w') := Lib.hid fun W => refMayName_any x.v W h2
 obtain ⟨t, v⟩ := x
 dsimp only at *
 have hz := sx_size t
 have hb0 : Below w.heap.size w (w.alloc (.cells #[.string (sx t), .string (sx v)] 117)) := (Below.refl _ _).alloc (Nat.le_refl _) _
 by_cases hl1 : 1 ≤ t.length
 · by_cases hl2 : t.length ≤ 32
   · have h0t : 0 < t.length := by omega
     have h0s : 0 < (sx t).size := by omega
     have hg := sx_get t 0 h0t
     have HF : Hid (okAt t 0 = lowC ((((sx t)[0]'h0s).toNat : Nat) : Int)) := Lib.hid (by
       unfold okAt okC
       rw [← hg]
       cases lowC ((((sx t)[0]'h0s).toNat : Nat) : Int) <;> simp)
     clear hg
     cases hlo : lowC ((((sx t)[0]'h0s).toNat : Nat) : Int) with
     | false =>
       have HM : Hid (mayA ⟨t, v⟩ = false) := Lib.hid (by unfold mayA; rw [upTo_no h0t (by rw [HF.out, hlo])]; rfl)
       have hlo2 := lowC_f hlo
       clear HF hlo
       rcases hlo2 with hlo2 | hlo2
       all_goals
         go_enter Try.func63, Try.ntmps63
         go_wp2
         go_ret
         exact ⟨by rw [HM.out]; rfl, hb0⟩
     | true =>
       obtain ⟨hlo1, hlo2⟩ := lowC_t hlo
       rw [hlo] at HF
       clear hlo
       cases hmn : mayN v with
       | false =>
         have HM : Hid (mayA ⟨t, v⟩ = false) := Lib.hid (by unfold mayA; dsimp only; rw [hmn, Bool.and_false])
         rw [hmn] at HN
         clear hmn HF
         go_enter Try.func63, Try.ntmps63
         go_wp2_with (go_at_call 46; (with_reducible refine (HN.out _).mono ?_); rintro e w' ⟨rfl, hb⟩)
         go_ret
         exact ⟨by rw [HM.out]; rfl, hb0.trans (hb.mono (by simp))⟩
       | true =>
         have HM : Hid (mayA ⟨t, v⟩ = upTo t t.length) := Lib.hid (by unfold mayA mayT; dsimp only; rw [hmn, decide_eq_true hl1, decide_eq_true hl2]; simp)
         rw [hmn] at HN
         clear hmn
         have hbx := Blk.new w 117 #[.string (sx t), .string (sx v)]
         go_enter Try.func63, Try.ntmps63
         go_wp2_with (go_at_call 46; (with_reducible refine (HN.out _).mono ?_); rintro e w1 ⟨rfl, hb⟩; have c0 := (hbx.on hb).cell 0; have hb1 := hb0.trans (hb.mono (by simp)))
         go_loopw [3] (fun i wr => ∃ k : Nat, i = .int .i64 k ∧ k ≤ t.length ∧ wr = w1 ∧ Hid (upTo t k = true)) (fun i _ => t.length - (intOf i).toNat)
         case atStart => exact ⟨0, rfl, Nat.zero_le _, rfl, Lib.hid rfl⟩
         case round =>
           obtain ⟨k, rfl, hk, hwr, HU⟩ := hrel
           obtain rfl : w1 = wr := hwr.symm
           by_cases hlt : k < t.length
           · have hgk := sx_get t k hlt
             have hbk := ch_bd t k
             have hks : k < (sx t).size := by omega
             have HO : Hid (okAt t k = okC ((((sx t)[k]'hks).toNat : Nat) : Int)) := Lib.hid (by
               by_cases hk0 : k = 0
               · subst hk0
                 unfold okC
                 rw [HF.out, hgk]
                 have h := HF.out
                 unfold okAt at h
                 simp at h
                 rw [h.2]
                 rfl
               · unfold okAt
                 rw [hgk, decide_eq_true (show 0 < k by omega), Bool.true_or, Bool.and_true])
             have HS := Lib.hid (upTo_succ t k)
             rw [HU.out, Bool.true_and, HO.out] at HS
             have HNO : Hid (okC ((((sx t)[k]'hks).toNat : Nat) : Int) = false → upTo t t.length = false) := Lib.hid fun h => by
               unfold upTo
               rw [List.all_eq_false]
               exact ⟨k, List.mem_range.2 hlt, by rw [HO.out, h]; decide⟩
             unfold okC lowC otherC at HS HNO
             rw [← hgk] at hbk
             clear hgk HO
             obtain ⟨q0, q1⟩ := hbk
             by_cases hl : 97 ≤ ((((sx t)[k]'hks).toNat : Nat) : Int) ∧ ((((sx t)[k]'hks).toNat : Nat) : Int) ≤ 122
             · obtain ⟨hla, hlb⟩ := hl
               have HU2 : Hid (upTo t (k + 1) = true) := Lib.hid (by rw [HS.out]; simp; omega)
               clear HS HNO HU
               go_wp2
               go_roundw
               case rel => exact ⟨k + 1, by go_num, by omega, by trivial, HU2⟩
               case measure => simp [intOf]; omega
             · by_cases hd : 48 ≤ ((((sx t)[k]'hks).toNat : Nat) : Int) ∧ ((((sx t)[k]'hks).toNat : Nat) : Int) ≤ 57
               · obtain ⟨hda, hdb⟩ := hd
                 have hdc : ((((sx t)[k]'hks).toNat : Nat) : Int) < 97 := by omega
                 have hn45 : (((((sx t)[k]'hks).toNat : Nat) : Int) == 45) = false := by simp; omega
                 have HU2 : Hid (upTo t (k + 1) = true) := Lib.hid (by rw [HS.out]; simp; omega)
                 clear HS HNO HU
                 go_wp2
                 go_roundw
                 case rel => exact ⟨k + 1, by go_num, by omega, by trivial, HU2⟩
                 case measure => simp [intOf]; omega
               · by_cases h45 : ((((sx t)[k]'hks).toNat : Nat) : Int) = 45
                 · have HU2 : Hid (upTo t (k + 1) = true) := Lib.hid (by rw [HS.out]; simp; omega)
                   clear HS HNO HU
                   go_wp2
                   go_roundw
                   case rel => exact ⟨k + 1, by go_num, by omega, by trivial, HU2⟩
                   case measure => simp [intOf]; omega
                 · have hn45 : (((((sx t)[k]'hks).toNat : Nat) : Int) == 45) = false := by simp; omega
                   have HM2 : Hid (mayA ⟨t, v⟩ = false) := Lib.hid (by rw [HM.out]; exact HNO.out (by simp; omega))
                   have hx : ((((sx t)[k]'hks).toNat : Nat) : Int) < 48 ∨ (57 < ((((sx t)[k]'hks).toNat : Nat) : Int) ∧ ((((sx t)[k]'hks).toNat : Nat) : Int) < 97) ∨ 122 < ((((sx t)[k]'hks).toNat : Nat) : Int) := by omega
                   clear HS HNO HU HM
                   rcases hx with hx | ⟨hx1, hx2⟩ | hx
                   · have d57 : ((((sx t)[k]'hks).toNat : Nat) : Int) < 97 := by omega
                     go_wp2
                     go_ret
                     exact ⟨by rw [HM2.out]; rfl, hb1⟩
                   · have d57 : decide (((((sx t)[k]'hks).toNat : Nat) : Int) ≤ 57) = false := decide_eq_false (by omega)
                     go_wp2
                     go_ret
                     exact ⟨by rw [HM2.out]; rfl, hb1⟩
                   · have d57 : decide (((((sx t)[k]'hks).toNat : Nat) : Int) ≤ 57) = false := decide_eq_false (by omega)
                     have d122 : decide (((((sx t)[k]'hks).toNat : Nat) : Int) ≤ 122) = false := decide_eq_false (by omega)
                     go_wp2
                     go_ret
                     exact ⟨by rw [HM2.out]; rfl, hb1⟩
           · have hk2 : k = t.length := by omega
             have HM2 : Hid (mayA ⟨t, v⟩ = true) := Lib.hid (by rw [HM.out, ← hk2, HU.out])
             clear HM HU HF
             go_wp2
             go_ret
             exact ⟨by rw [HM2.out]; rfl, hb1⟩
   · have hl2' : 32 < t.length := by omega
     have HM : Hid (mayA ⟨t, v⟩ = false) := Lib.hid (by unfold mayA mayT; dsimp only; rw [decide_eq_false hl2]; simp)
     clear hl2
     go_enter Try.func63, Try.ntmps63
     go_wp2
     go_ret
     exact ⟨by rw [HM.out]; rfl, hb0⟩
 · have hl1' : t.length < 1 := by omega
   have HM : Hid (mayA ⟨t, v⟩ = false) := Lib.hid (by unfold mayA mayT; dsimp only; rw [decide_eq_false hl1]; simp)
   clear hl1
   go_enter Try.func63, Try.ntmps63
   go_wp2
   go_ret
   exact ⟨by rw [HM.out]; rfl, hb0⟩
theorem bless_list (a b : List UInt8) : Op.bytesLess (sx a).toList (sx b).toList = bless a b := by rw [sx_list, sx_list]
set_option maxHeartbeats 1000000 in
theorem isNaN_any (a : List UInt8) (w : World) : Calls Try.prog 111 #[.string (sx a)] w fun e w' => e = .returned (.bool false) ∧ w = w' := by
 go_enter Try.func111, Try.ntmps111
 go_wp2
 go_ret
 exact ⟨rfl, rfl⟩
set_option maxHeartbeats 2000000 in
theorem cmpS_any (a b : List UInt8) (w : World) : Calls Try.prog 108 #[.string (sx a), .string (sx b)] w fun e w' => e = .returned (.int .i64 (cmpB a b)) ∧ w = w' := by
 have e1 := bless_list a b
 have e2 : ((sx a).toList == (sx b).toList) = (a == b) := by rw [sx_list, sx_list]
 rcases bless_tri a b with h | h | h
 · have HC : Hid (cmpB a b = -1) := Lib.hid (by unfold cmpB; rw [if_pos h])
   rw [show bless a b = true from h] at e1
   clear e2 h
   go_enter Try.func108, Try.ntmps108
   go_wp2_with (go_at_call 111; (with_reducible refine (isNaN_any _ _).mono ?_); rintro e w' ⟨rfl, rfl⟩)
   go_ret
   exact ⟨by rw [HC.out]; rfl, rfl⟩
 · subst h
   have HC : Hid (cmpB a a = 0) := Lib.hid (by unfold cmpB; rw [bless_irrefl]; rfl)
   rw [bless_irrefl] at e1
   go_enter Try.func108, Try.ntmps108
   go_wp2_with (go_at_call 111; (with_reducible refine (isNaN_any _ _).mono ?_); rintro e w' ⟨rfl, rfl⟩)
   go_ret
   exact ⟨by rw [HC.out]; rfl, rfl⟩
 · have h2 := bless_asymm h
   have hne : a ≠ b := fun e => by subst e; rw [bless_irrefl] at h; cases h
   have HC : Hid (cmpB a b = 1) := Lib.hid (by unfold cmpB; rw [h2, h]; rfl)
   rw [h2] at e1
   have e3 : ((sx a).toList == (sx b).toList) = false := by rw [e2]; simpa using hne
   clear e2 h h2 hne
   go_enter Try.func108, Try.ntmps108
   go_wp2_with (go_at_call 111; (with_reducible refine (isNaN_any _ _).mono ?_); rintro e w' ⟨rfl, rfl⟩)
   go_ret
   exact ⟨by rw [HC.out]; rfl, rfl⟩
end Go.Proofs.Ytidkpdoiblomjaa
