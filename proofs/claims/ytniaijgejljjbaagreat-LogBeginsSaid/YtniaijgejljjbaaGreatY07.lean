/- The document's bytes of a rune (blazonref01.Put), and its first rune of a text (blazonref01.Next). -/
import Derived.Test.YtniaijgejljjbaaGreatY06
import Derived.RegionTactic
import Derived.Deep.RegionWith
import Derived.Deep.RegionHeld3
import Derived.StillTailTactics
import Derived.Deep.DeepCutAuto
import Derived.LoopTactic
import Derived.LoopN
namespace Go.Proofs.YtniaijgejljjbaaGreat.Utf
open Go.RowKit
set_option linter.unusedVariables false
def putI (r : Int) : List Int :=
 if r ≤ 127 then [r] else if r ≤ 2047 then [192 + r / 64, 128 + r % 64]
 else if r ≤ 65535 then [224 + r / 4096, 128 + r / 64 % 64, 128 + r % 64]
 else [240 + r / 262144, 128 + r / 4096 % 64, 128 + r / 64 % 64, 128 + r % 64]
set_option maxHeartbeats 400000 in
theorem put_any (r : Int) (w : World) (hm : mayB r = true) :
   Calls Tryz.prog 96 #[.int .i32 r] w fun e w' => e = .returned (.slice (some ⟨w.heap.size, 0, none⟩) (putI r).length (putI r).length) ∧ w.alloc (.cells ((putI r).map (Value.int .u8)).toArray 5) = w' := by
 have h : 0 ≤ r ∧ r ≤ 1114111 := by unfold mayB at hm; simp at hm; omega
 obtain ⟨h0, h1⟩ := h
 clear hm
 by_cases a1 : r ≤ 127
 · have e : putI r = [r] := by unfold putI; rw [if_pos a1]
   rw [e]; clear e
   go_enter Tryz.func96, Tryz.ntmps96
   go_wp2
   go_ret
   exact ⟨rfl, rfl⟩
 by_cases a2 : r ≤ 2047
 · have e : putI r = [192 + r / 64, 128 + r % 64] := by unfold putI; rw [if_neg a1, if_pos a2]
   rw [e]; clear e
   go_enter Tryz.func96, Tryz.ntmps96
   go_wp2
   go_ret
   exact ⟨rfl, rfl⟩
 by_cases a3 : r ≤ 65535
 · have e : putI r = [224 + r / 4096, 128 + r / 64 % 64, 128 + r % 64] := by unfold putI; rw [if_neg a1, if_neg a2, if_pos a3]
   rw [e]; clear e
   go_enter Tryz.func96, Tryz.ntmps96
   go_wp2
   go_ret
   exact ⟨rfl, rfl⟩
 · have e : putI r = [240 + r / 262144, 128 + r / 4096 % 64, 128 + r / 64 % 64, 128 + r % 64] := by unfold putI; rw [if_neg a1, if_neg a2, if_neg a3]
   rw [e]; clear e
   go_enter Tryz.func96, Tryz.ntmps96
   go_wp2
   go_ret
   exact ⟨rfl, rfl⟩
def mkS (l : List Int) : ByteArray := l.foldl (fun r n => r.push (UInt8.ofNat n.toNat)) ByteArray.empty
theorem conv_of (W : World) (a : Addr) (cap : Nat) (l : List Int) (h : ∀ j v, (l.map (Value.int .u8))[j]? = some v → W.cell? (a.add j) = some v) :
   (convert 42 9 (.slice (some a) l.length cap)).run Tryz.prog W = .ok (.string (mkS l)) W := by
 rw [run_convert_bytes_string (P := Tryz.prog) W 42 9 5 (some a) _ _ Tryz.underlying42 Tryz.underlying5 Tryz.underlying9]
 refine run_bytesToString W a l.length cap l ?_
 have := run_loadCells_list (P := Tryz.prog) (w := W) a (l.map (Value.int .u8)) h
 simpa using this
theorem conv_new_drew (l : List Int) (W : World) :
   (convert 42 9 (.slice (some ⟨W.heap.size, 0, none⟩) l.length l.length)).run Tryz.prog (W.alloc (.cells (l.map (Value.int .u8)).toArray 5)).drew =
     .ok (.string (mkS l)) (W.alloc (.cells (l.map (Value.int .u8)).toArray 5)).drew := by
 refine conv_of _ _ _ l fun j v hj => ?_
 rw [show (⟨W.heap.size, 0, none⟩ : Addr).add j = ⟨W.heap.size, j, none⟩ from by unfold Addr.add; by_cases h : j = 0 <;> simp [h]]
 show (W.alloc _).cell? _ = _
 rw [World.cell?_alloc_at _ _ _ _ rfl]
 simpa using hj
theorem mkS_data (l : List Int) : (mkS l).data.toList = l.map (fun n => UInt8.ofNat n.toNat) := by
 have key : ∀ (l : List Int) (b : ByteArray), (l.foldl (fun r n => r.push (UInt8.ofNat n.toNat)) b).data.toList = b.data.toList ++ l.map (fun n => UInt8.ofNat n.toNat) := by
   intro l
   induction l with
   | nil => intro b; simp
   | cons x t ih => intro b; rw [List.foldl_cons, ih]; simp [ByteArray.push]
 have := key l ByteArray.empty
 simpa [mkS] using this
theorem mkS_size (l : List Int) : (mkS l).size = l.length := by
 have h : (mkS l).size = (mkS l).data.toList.length := by simp
 rw [h, mkS_data]; simp
theorem bt_mkS (l : List Int) (hl : ∀ x ∈ l, 0 ≤ x ∧ x ≤ 255) (i : Nat) (hi : i < l.length) : bt (mkS l) i = l[i] := by
 have hd : i < (mkS l).data.size := by have := mkS_size l; show i < (mkS l).size; omega
 have h1 : (mkS l).data.toList[i]? = some (UInt8.ofNat l[i].toNat) := by rw [mkS_data]; simp [hi]
 have h2 : (mkS l).data.getD i 0 = UInt8.ofNat l[i].toNat := by
   rw [Array.getD_eq_getD_getElem?, ← Array.getElem?_toList, h1]; rfl
 have := hl l[i] (List.getElem_mem hi)
 unfold bt
 rw [h2, UInt8.toNat_ofNat']
 omega
theorem ba_ext {a b : ByteArray} (hs : a.size = b.size) (h : ∀ i, i < a.size → bt a i = bt b i) : a = b := by
 apply ByteArray.ext
 apply Array.ext
 · exact hs
 · intro i hi hj
   have := h i hi
   unfold bt at this
   have e1 : a.data.getD i 0 = a.data[i] := by rw [Array.getD_eq_getD_getElem?, Array.getElem?_eq_getElem hi]; rfl
   have e2 : b.data.getD i 0 = b.data[i] := by rw [Array.getD_eq_getD_getElem?, Array.getElem?_eq_getElem hj]; rfl
   rw [e1, e2] at this
   exact UInt8.toNat_inj.1 (by omega)
theorem eqB_true {a b : ByteArray} (h : a = b) : (a.toList == b.toList) = true := by rw [h]; simp
theorem toList_inj {a b : ByteArray} (h : a.toList = b.toList) : a = b := by
 have : ∀ x : ByteArray, x.toList = x.data.toList := fun x => ByteArray.toList_eq x
 rw [this, this] at h
 exact ByteArray.ext (Array.toList_inj.1 h)
theorem eqB_false {a b : ByteArray} (h : a ≠ b) : (a.toList == b.toList) = false := by
 rw [beq_eq_false_iff_ne]; exact fun e => h (toList_inj e)
theorem bt_extract (s : ByteArray) (a e i : Nat) (he : e ≤ s.size) (hi : a + i < e) : bt (s.extract a e) i = bt s (a + i) := by
 have hd : (s.extract a e).data = s.data.extract a e := by simp
 have hs : s.data.size = s.size := rfl
 unfold bt
 rw [hd, Array.getD_eq_getD_getElem?, Array.getD_eq_getD_getElem?, Array.getElem?_extract]
 rw [if_pos (by omega)]
theorem size_extract (s : ByteArray) (n : Nat) (hn : n ≤ s.size) : (s.extract 0 n).size = n := by simp; omega
theorem putI_len {r : Int} (hm : mayB r = true) : ((putI r).length : Int) = sizeI r := by
 have h : ¬ mayB r = false := by rw [hm]; simp
 by_cases a1 : r ≤ 127
 · unfold sizeI putI; rw [if_neg h, if_pos a1, if_pos a1]; rfl
 by_cases a2 : r ≤ 2047
 · unfold sizeI putI; rw [if_neg h, if_neg a1, if_neg a1, if_pos a2, if_pos a2]; rfl
 by_cases a3 : r ≤ 65535
 · unfold sizeI putI; rw [if_neg h, if_neg a1, if_neg a1, if_neg a2, if_neg a2, if_pos a3, if_pos a3]; rfl
 · unfold sizeI putI; rw [if_neg h, if_neg a1, if_neg a1, if_neg a2, if_neg a2, if_neg a3, if_neg a3]; rfl
theorem putI_range {r : Int} (hm : mayB r = true) : ∀ x ∈ putI r, 0 ≤ x ∧ x ≤ 255 := by
 have h : 0 ≤ r ∧ r ≤ 1114111 := by unfold mayB at hm; simp at hm; omega
 unfold putI
 repeat' split
 all_goals simp only [List.mem_cons, List.not_mem_nil, or_false, forall_eq_or_imp, forall_eq]
 all_goals omega
def q2 (f : Nat → Int) : Int := 64 * (f 0 % 32) + f 1 % 64
def q3 (f : Nat → Int) : Int := 64 * (64 * (f 0 % 16) + f 1 % 64) + f 2 % 64
def q4 (f : Nat → Int) : Int := 64 * (64 * (64 * (f 0 % 8) + f 1 % 64) + f 2 % 64) + f 3 % 64
theorem q2_eq (f : Nat → Int) : q2 f = v2 f := by unfold q2 v2; omega
theorem q3_eq (f : Nat → Int) : q3 f = v3 f := by unfold q3 v3; omega
theorem q4_eq (f : Nat → Int) : q4 f = v4 f := by unfold q4 v4; omega
theorem mk_eq_iff (s : ByteArray) (n : Nat) (hn : n ≤ s.size) (l : List Int) (hl : ∀ x ∈ l, 0 ≤ x ∧ x ≤ 255) :
   mkS l = s.extract 0 n ↔ l.length = n ∧ ∀ i (h : i < l.length), l[i] = bt s i := by
 constructor
 · intro h
   have hz : l.length = n := by rw [← mkS_size, h, size_extract s n hn]
   refine ⟨hz, fun i hi => ?_⟩
   rw [← bt_mkS l hl i hi, h, bt_extract s 0 n i hn (by omega), Nat.zero_add]
 · rintro ⟨hz, h⟩
   refine ba_ext (by rw [mkS_size, size_extract s n hn, hz]) fun i hi => ?_
   rw [mkS_size] at hi
   rw [bt_mkS l hl i hi, h i hi, bt_extract s 0 n i hn (by omega), Nat.zero_add]
theorem may_of_size {r : Int} (h : sizeI r ≠ 0) : mayB r = true := by
 cases hm : mayB r
 · exact absurd (by unfold sizeI; rw [if_pos hm]) h
 · rfl
theorem hit1 (s : ByteArray) (hL : 1 ≤ s.size) : mkS (putI (bt s 0)) = s.extract 0 1 ↔ nxN (bt s) s.size = 1 := by
 have hm : mayB (bt s 0) = true := by have := bt_lo s 0; have := bt_hi s 0; unfold mayB; simp; omega
 rw [mk_eq_iff s 1 hL _ (putI_range hm)]
 constructor
 · rintro ⟨h, _⟩
   unfold nxN
   rw [if_neg (by omega)]
   by_cases a1 : bt s 0 ≤ 127
   · rw [if_pos a1]
   · unfold putI at h; rw [if_neg a1] at h
     repeat' split at h
     all_goals simp at h
 · intro h
   have a1 : bt s 0 ≤ 127 := by
     by_cases a1 : bt s 0 ≤ 127
     · exact a1
     · unfold nxN at h; rw [if_neg (by omega), if_neg a1] at h
       repeat' split at h
       all_goals omega
   unfold putI
   rw [if_pos a1]
   exact ⟨rfl, fun i h => by simp at h; subst h; rfl⟩
theorem hit2 (s : ByteArray) (hL : 2 ≤ s.size) (hm : mayB (q2 (bt s)) = true) : mkS (putI (q2 (bt s))) = s.extract 0 2 ↔ nxN (bt s) s.size = 2 := by
 rw [q2_eq] at hm ⊢
 rw [mk_eq_iff s 2 hL _ (putI_range hm)]
 have hz := putI_len hm
 have l0 := bt_lo s 0
 have g0 := bt_hi s 0
 have l1 := bt_lo s 1
 have g1 := bt_hi s 1
 have key : sizeI (v2 (bt s)) = 2 → (128 ≤ v2 (bt s) ∧ v2 (bt s) ≤ 2047) ∧ putI (v2 (bt s)) = [192 + v2 (bt s) / 64, 128 + v2 (bt s) % 64] := by
   intro h
   have hb : 128 ≤ v2 (bt s) ∧ v2 (bt s) ≤ 2047 := by
     unfold sizeI at h; rw [if_neg (by rw [hm]; simp)] at h
     repeat' split at h
     all_goals omega
   exact ⟨hb, by unfold putI; rw [if_neg (by omega), if_pos (by omega)]⟩
 constructor
 · rintro ⟨h, hi⟩
   have hs : sizeI (v2 (bt s)) = 2 := by rw [← hz, h]; rfl
   obtain ⟨hb, hp⟩ := key hs
   have e0 : (putI (v2 (bt s)))[0]'(by rw [h]; omega) = bt s 0 := hi 0 (by rw [h]; omega)
   have e1 : (putI (v2 (bt s)))[1]'(by rw [h]; omega) = bt s 1 := hi 1 (by rw [h]; omega)
   simp only [hp, List.getElem_cons_zero, List.getElem_cons_succ] at e0 e1
   have hv : v2 (bt s) = v2 (bt s) := rfl
   conv at hv => rhs; unfold v2
   unfold nxN
   rw [if_neg (by omega)]
   rw [if_neg (by omega), if_neg (by omega), if_pos (by omega)]
   rw [if_pos ⟨hL, ⟨by omega, by omega⟩, hs⟩]
 · intro h
   have hc : 192 ≤ bt s 0 ∧ bt s 0 ≤ 223 ∧ cn (bt s 1) ∧ sizeI (v2 (bt s)) = 2 := by
     unfold nxN at h
     rw [if_neg (by omega)] at h
     repeat' split at h
     all_goals first | omega | (rename_i hx; exact ⟨by omega, by omega, hx.2⟩)
   obtain ⟨c0, c0', c1, hs⟩ := hc
   obtain ⟨hb, hp⟩ := key hs
   have hv : v2 (bt s) = v2 (bt s) := rfl
   conv at hv => rhs; unfold v2
   rw [hp]
   refine ⟨rfl, fun i h => ?_⟩
   simp only [List.length_cons, List.length_nil] at h
   have hi : i = 0 ∨ i = 1 := by omega
   rcases hi with rfl | rfl
   all_goals simp only [List.getElem_cons_zero, List.getElem_cons_succ]
   all_goals omega
theorem hit3 (s : ByteArray) (hL : 3 ≤ s.size) (hm : mayB (q3 (bt s)) = true) : mkS (putI (q3 (bt s))) = s.extract 0 3 ↔ nxN (bt s) s.size = 3 := by
 rw [q3_eq] at hm ⊢
 rw [mk_eq_iff s 3 hL _ (putI_range hm)]
 have hz := putI_len hm
 have l0 := bt_lo s 0
 have g0 := bt_hi s 0
 have l1 := bt_lo s 1
 have g1 := bt_hi s 1
 have l2 := bt_lo s 2
 have g2 := bt_hi s 2
 have key : sizeI (v3 (bt s)) = 3 → (2048 ≤ v3 (bt s) ∧ v3 (bt s) ≤ 65535) ∧ putI (v3 (bt s)) = [224 + v3 (bt s) / 4096, 128 + v3 (bt s) / 64 % 64, 128 + v3 (bt s) % 64] := by
   intro h
   have hb : 2048 ≤ v3 (bt s) ∧ v3 (bt s) ≤ 65535 := by
     unfold sizeI at h; rw [if_neg (by rw [hm]; simp)] at h
     repeat' split at h
     all_goals omega
   exact ⟨hb, by unfold putI; rw [if_neg (by omega), if_neg (by omega), if_pos (by omega)]⟩
 constructor
 · rintro ⟨h, hi⟩
   have hs : sizeI (v3 (bt s)) = 3 := by rw [← hz, h]; rfl
   obtain ⟨hb, hp⟩ := key hs
   have e0 : (putI (v3 (bt s)))[0]'(by rw [h]; omega) = bt s 0 := hi 0 (by rw [h]; omega)
   have e1 : (putI (v3 (bt s)))[1]'(by rw [h]; omega) = bt s 1 := hi 1 (by rw [h]; omega)
   have e2 : (putI (v3 (bt s)))[2]'(by rw [h]; omega) = bt s 2 := hi 2 (by rw [h]; omega)
   simp only [hp, List.getElem_cons_zero, List.getElem_cons_succ] at e0 e1 e2
   have hv : v3 (bt s) = v3 (bt s) := rfl
   conv at hv => rhs; unfold v3
   unfold nxN
   rw [if_neg (by omega)]
   rw [if_neg (by omega), if_neg (by omega), if_neg (by omega), if_pos (by omega)]
   rw [if_pos ⟨hL, ⟨by omega, by omega⟩, ⟨by omega, by omega⟩, hs⟩]
 · intro h
   have hc : 224 ≤ bt s 0 ∧ bt s 0 ≤ 239 ∧ cn (bt s 1) ∧ cn (bt s 2) ∧ sizeI (v3 (bt s)) = 3 := by
     unfold nxN at h
     rw [if_neg (by omega)] at h
     repeat' split at h
     all_goals first | omega | (rename_i hx; exact ⟨by omega, by omega, hx.2⟩)
   obtain ⟨c0, c0', c1, c2, hs⟩ := hc
   obtain ⟨hb, hp⟩ := key hs
   have hv : v3 (bt s) = v3 (bt s) := rfl
   conv at hv => rhs; unfold v3
   rw [hp]
   refine ⟨rfl, fun i h => ?_⟩
   simp only [List.length_cons, List.length_nil] at h
   have hi : i = 0 ∨ i = 1 ∨ i = 2 := by omega
   rcases hi with rfl | rfl | rfl
   all_goals simp only [List.getElem_cons_zero, List.getElem_cons_succ]
   all_goals omega
theorem hit4 (s : ByteArray) (hL : 4 ≤ s.size) (hm : mayB (q4 (bt s)) = true) : mkS (putI (q4 (bt s))) = s.extract 0 4 ↔ nxN (bt s) s.size = 4 := by
 rw [q4_eq] at hm ⊢
 rw [mk_eq_iff s 4 hL _ (putI_range hm)]
 have hz := putI_len hm
 have l0 := bt_lo s 0
 have g0 := bt_hi s 0
 have l1 := bt_lo s 1
 have g1 := bt_hi s 1
 have l2 := bt_lo s 2
 have g2 := bt_hi s 2
 have l3 := bt_lo s 3
 have g3 := bt_hi s 3
 have key : sizeI (v4 (bt s)) = 4 → (65536 ≤ v4 (bt s)) ∧ putI (v4 (bt s)) = [240 + v4 (bt s) / 262144, 128 + v4 (bt s) / 4096 % 64, 128 + v4 (bt s) / 64 % 64, 128 + v4 (bt s) % 64] := by
   intro h
   have hb : 65536 ≤ v4 (bt s) := by
     unfold sizeI at h; rw [if_neg (by rw [hm]; simp)] at h
     repeat' split at h
     all_goals omega
   exact ⟨hb, by unfold putI; rw [if_neg (by omega), if_neg (by omega), if_neg (by omega)]⟩
 constructor
 · rintro ⟨h, hi⟩
   have hs : sizeI (v4 (bt s)) = 4 := by rw [← hz, h]; rfl
   obtain ⟨hb, hp⟩ := key hs
   have e0 : (putI (v4 (bt s)))[0]'(by rw [h]; omega) = bt s 0 := hi 0 (by rw [h]; omega)
   have e1 : (putI (v4 (bt s)))[1]'(by rw [h]; omega) = bt s 1 := hi 1 (by rw [h]; omega)
   have e2 : (putI (v4 (bt s)))[2]'(by rw [h]; omega) = bt s 2 := hi 2 (by rw [h]; omega)
   have e3 : (putI (v4 (bt s)))[3]'(by rw [h]; omega) = bt s 3 := hi 3 (by rw [h]; omega)
   simp only [hp, List.getElem_cons_zero, List.getElem_cons_succ] at e0 e1 e2 e3
   have hv : v4 (bt s) = v4 (bt s) := rfl
   conv at hv => rhs; unfold v4
   unfold nxN
   rw [if_neg (by omega)]
   rw [if_neg (by omega), if_neg (by omega), if_neg (by omega), if_neg (by omega), if_pos (by omega)]
   rw [if_pos ⟨hL, ⟨by omega, by omega⟩, ⟨by omega, by omega⟩, ⟨by omega, by omega⟩, hs⟩]
 · intro h
   have hc : 240 ≤ bt s 0 ∧ bt s 0 ≤ 247 ∧ cn (bt s 1) ∧ cn (bt s 2) ∧ cn (bt s 3) ∧ sizeI (v4 (bt s)) = 4 := by
     unfold nxN at h
     rw [if_neg (by omega)] at h
     repeat' split at h
     all_goals first | omega | (rename_i hx; exact ⟨by omega, by omega, hx.2⟩)
   obtain ⟨c0, c0', c1, c2, c3, hs⟩ := hc
   obtain ⟨hb, hp⟩ := key hs
   have hv : v4 (bt s) = v4 (bt s) := rfl
   conv at hv => rhs; unfold v4
   rw [hp]
   refine ⟨rfl, fun i h => ?_⟩
   simp only [List.length_cons, List.length_nil] at h
   have hi : i = 0 ∨ i = 1 ∨ i = 2 ∨ i = 3 := by omega
   rcases hi with rfl | rfl | rfl | rfl
   all_goals simp only [List.getElem_cons_zero, List.getElem_cons_succ]
   all_goals omega
end Go.Proofs.YtniaijgejljjbaaGreat.Utf
