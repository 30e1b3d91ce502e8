/- Equal texts, equal bytes. -/
import Derived.Test.YtniaijgejljjbaaGreatY18
import Derived.Test.YtniaijgejljjbaaGreatY13
import Derived.Laws.BytesArg
namespace Go.Proofs.YtniaijgejljjbaaGreat.Tlv
open Go.RowKit
set_option maxRecDepth 100000
set_option linter.unusedVariables false
set_option linter.unusedSimpArgs false
theorem ext_getS {a b : List (List UInt8)} (h : a.length = b.length) (h2 : ∀ j, j < a.length → a.getD j default = b.getD j default) : a = b := by
 apply List.ext_getElem h
 intro j h3 h4
 have := h2 j h3
 simpa [List.getD_eq_getElem?_getD, List.getElem?_eq_getElem h3, List.getElem?_eq_getElem h4] using this
theorem ne_getS {a b : List (List UInt8)} {k : Nat} (h : a.getD k default ≠ b.getD k default) : a ≠ b := fun e => h (by rw [e])
set_option maxHeartbeats 2000000 in
theorem equal_str (a b : List (List UInt8)) (va vb : Value) (w : World) (hva : RdP w va a) (hvb : RdP w vb b) (ha : a.length ≤ 9223372036854775807) (hb : b.length ≤ 9223372036854775807) :
   Calls Tryz.prog 56 #[va, vb] w fun e w' => e = .returned (.bool (decide (a = b))) ∧ Below w.heap.size w w' := by
 obtain ⟨A, c, rfl, _, hr⟩ := hva
 obtain ⟨B, d, rfl, _, hr2⟩ := hvb
 by_cases hlen : a.length = b.length
 · have HR := Lib.hid (And.intro hr hr2)
   rw [← hlen]
   obtain ⟨n, hn⟩ : ∃ n, n = a.length := ⟨_, rfl⟩
   rw [← hn] at ha ⊢
   have HN := Lib.hid (And.intro hn (hn.trans hlen))
   clear hr hr2 hn hlen hb
   go_enter Tryz.func56, Tryz.ntmps56
   go_wp2
   go_loopw [13] (fun i wr => ∃ k : Nat, i = .int .i64 k ∧ k ≤ n ∧ Hid (Below w.heap.size w wr) ∧ Hid (∀ j, j < k → a.getD j default = b.getD j default)) (fun i _ => n - (intOf i).toNat)
   case atStart => exact ⟨0, rfl, Nat.zero_le _, Lib.hid (Below.refl _ _), Lib.hid fun j hj => absurd hj (Nat.not_lt_zero _)⟩
   case round =>
     obtain ⟨k, rfl, hk, HB, HA⟩ := hrel
     by_cases hlt : k < n
     · obtain ⟨b1, o1, rfl, _, c0⟩ := str_cell HR.out.1 HB.out (show k < a.length by have := HN.out; omega)
       obtain ⟨b2, o2, rfl, _, d0⟩ := str_cell HR.out.2 HB.out (show k < b.length by have := HN.out; omega)
       have g1 := YtniaijgejljjbaaGreat.sx_beq (a.getD k default) (b.getD k default)
       generalize hx : a.getD k default = x at c0 g1
       generalize hy : b.getD k default = y at d0 g1
       have HXY := Lib.hid (And.intro hx hy)
       clear hx hy
       generalize hxy : decide (x = y) = bb at g1
       cases bb with
       | true =>
         have HE := Lib.hid (of_decide_eq_true hxy)
         clear hxy
         go_wp2_with fail
         go_region
         go_wp2
         go_roundw
         case rel => exact ⟨k + 1, by go_num, by omega, Lib.hid (below_drew HB.out), Lib.hid fun j hj => by
           by_cases e : j = k
           · subst e; rw [HXY.out.1, HXY.out.2]; exact HE.out
           · exact HA.out j (by omega)⟩
         case measure => simp [intOf]; omega
       | false =>
         have HF : Hid (decide (a = b) = false) := Lib.hid (decide_eq_false (ne_getS (k := k) (by rw [HXY.out.1, HXY.out.2]; exact of_decide_eq_false hxy)))
         clear hxy
         go_wp2_with fail
         go_region
         go_wp2
         go_ret
         exact ⟨by rw [HF.out]; rfl, below_drew HB.out⟩
     · have hkn : k = n := by omega
       have HF : Hid (decide (a = b) = true) := Lib.hid (decide_eq_true (ext_getS (by rw [← HN.out.1, ← HN.out.2]) (by rw [← HN.out.1, ← hkn]; exact HA.out)))
       go_wp2
       go_ret
       exact ⟨by rw [HF.out]; rfl, HB.out⟩
 · have HF : Hid (decide (a = b) = false) := Lib.hid (decide_eq_false fun e => hlen (by rw [e]))
   obtain ⟨n, hn⟩ : ∃ n, n = a.length := ⟨_, rfl⟩
   obtain ⟨m, hm⟩ : ∃ m, m = b.length := ⟨_, rfl⟩
   rw [← hn] at ha hlen ⊢
   rw [← hm] at hb hlen ⊢
   clear hr hr2 hn hm
   go_enter Tryz.func56, Tryz.ntmps56
   go_wp2
   go_ret
   exact ⟨by rw [HF.out]; rfl, Below.refl _ _⟩
def cx (l : List Int) : List UInt8 := l.map fun n => UInt8.ofNat n.toNat
theorem cx_inj : ∀ {a b : List Int}, Byt a → Byt b → cx a = cx b → a = b
 | [], [], _, _, _ => rfl
 | [], _ :: _, _, _, h => by simp [cx] at h
 | _ :: _, [], _, _, h => by simp [cx] at h
 | x :: a, y :: b, ha, hb, h => by
   simp only [cx, List.map_cons, List.cons.injEq] at h
   have h1 := ha x (List.mem_cons_self ..)
   have h2 := hb y (List.mem_cons_self ..)
   have e := congrArg UInt8.toNat h.1
   simp only [UInt8.toNat_ofNat'] at e
   have e2 : x = y := by omega
   rw [e2, cx_inj (fun z hz => ha z (List.mem_cons_of_mem _ hz)) (fun z hz => hb z (List.mem_cons_of_mem _ hz)) h.2]
theorem cx_beq {a b : List Int} (ha : Byt a) (hb : Byt b) : ((sx (cx a)).toList == (sx (cx b)).toList) = decide (a = b) := by
 rw [YtniaijgejljjbaaGreat.sx_beq]
 by_cases h : a = b
 · simp [h]
 · have : cx a ≠ cx b := fun e => h (cx_inj ha hb e)
   simp [h, this]
theorem conv_bytes {A : Option Addr} {c n : Nat} {l : List Int} {w : World} (hr : Rd w w.heap.size A l) (hn : n = l.length) : (convert 42 9 (.slice A n c)).run Tryz.prog w = .ok (.string (sx (cx l))) w := by
 subst hn
 cases A with
 | none =>
   have hl : l = [] := by
     cases l with
     | nil => rfl
     | cons x t => obtain ⟨b, off, e, _⟩ := hr (by simp); cases e
   subst hl
   exact run_convert_bytes_nil (P := Tryz.prog) w 42 5 Tryz.underlying42 Tryz.underlying5 _ c 9 Tryz.underlying9
 | some ad =>
   by_cases hp : 0 < l.length
   · obtain ⟨b, off, e, _, hc⟩ := hr hp
     injection e with e
     subst e
     exact run_convert_bytes_arg (P := Tryz.prog) w 42 5 Tryz.underlying42 Tryz.underlying5 b off l.length c l rfl hc 9 Tryz.underlying9
   · have hl : l = [] := List.eq_nil_of_length_eq_zero (by omega)
     subst hl
     have h := run_convert_bytes_string (P := Tryz.prog) w 42 9 5 (some ad) 0 c Tryz.underlying42 Tryz.underlying5 Tryz.underlying9
     rw [show ([] : List Int).length = 0 from rfl, h, run_bytesToString w ad 0 c [] rfl]
     rfl
theorem equal_byt (a b : List Int) (va vb : Value) (w : World) (hva : RdC w va a) (hvb : RdC w vb b) (ha : Byt a) (hb : Byt b) :
   Calls Tryz.prog 57 #[va, vb] w fun e w' => e = .returned (.bool (decide (a = b))) ∧ Below w.heap.size w w' := by
 obtain ⟨A, c, rfl, _, hr⟩ := hva
 obtain ⟨B, d, rfl, _, hr2⟩ := hvb
 have h1 := conv_bytes (c := c) hr rfl
 have h2 := conv_bytes (c := d) hr2 rfl
 have g := cx_beq ha hb
 generalize decide (a = b) = r at g ⊢
 generalize a.length = n at h1 ⊢
 generalize b.length = m at h2 ⊢
 generalize sx (cx a) = s1 at h1 g
 generalize sx (cx b) = s2 at h2 g
 clear hr hr2 ha hb
 go_enter Tryz.func57, Tryz.ntmps57
 go_wp2
 go_ret
 exact ⟨by rw [← g]; rfl, Below.refl _ _⟩
end Go.Proofs.YtniaijgejljjbaaGreat.Tlv
