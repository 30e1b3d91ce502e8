/- slices.Delete of one element; slices.Clone. -/
import Derived.Test.YtgjcomnljonffaaB5
import Derived.StillTailTactics
namespace Go.Proofs.Ytgjcomnljonffaa.Tlv
open Go.RowKit
set_option maxRecDepth 100000
set_option linter.unusedVariables false
set_option linter.unusedSimpArgs false
theorem zok_I : ZOk kI := fun i z hi hz => by
  have h := show (Try.prog.info? 69).map (fun i => i.zero) = some (some (.agg #[.slice none 0 0, .int .i64 0])) from by kernel_rfl
  rw [show kI.e = 69 from rfl] at hi
  rw [hi] at h
  simp [hz] at h
  subst h
  have e : (Value.agg #[.slice none 0 0, .int .i64 0]).cells.toList = [.slice none 0 0, .int .i64 0] := by kernel_rfl
  rw [e]
  intro u hu
  simp at hu
  rcases hu with rfl | rfl <;> rfl
theorem zok_P : ZOk kP := fun i z hi hz => by
  have h := show (Try.prog.info? 55).map (fun i => i.zero) = some (some (.pointer none)) from by kernel_rfl
  rw [show kP.e = 55 from rfl] at hi
  rw [hi] at h
  simp [hz] at h
  subst h
  have e : (Value.pointer none).cells.toList = [.pointer none] := by kernel_rfl
  rw [e]
  intro u hu
  simp at hu
  subst hu
  rfl
section
variable {α : Type} [Inhabited α] {K : Kind α}
/-- append where there is room: in place. -/
theorem run_app_in (ty : TypeId) {w : World} {base B g c : Nat} {l : List α} {A : Option Addr} {cc : Nat} (m : List α) (hown : RowK K w base (.slice (some ⟨g, 0, none⟩) l.length c) l) (hr : RdK K w B A m) (hA : A = none → cc = 0) (hfit : l.length + m.length ≤ c) :
    ∃ w', (Builtin.append_ #[K.st, K.st] ty #[.slice (some ⟨g, 0, none⟩) l.length c, .slice A m.length cc]).run Try.prog w = .ok (.slice (some ⟨g, 0, none⟩) (l.length + m.length) c) w' ∧ RowK K w' base (.slice (some ⟨g, 0, none⟩) (l.length + m.length) c) (l ++ m) ∧ w.grownBy w' (some g) := by
  obtain ⟨i0, z, hi, hz0, hz1, hz2, hz3⟩ := K.zero
  obtain ⟨_, h0 | ⟨g', cur, e, hb, hg, h1, h2, h3, h4⟩⟩ := hown.cases
  · cases h0.1
  · cases e
    cases A with
    | none =>
      obtain rfl : m = [] := rd_none hr
      obtain rfl := hA rfl
      refine ⟨w, ?_, by simpa using hown, World.grownBy.refl _ _⟩
      simp [Builtin.append_, run_underlying K.sl, sizeOf, typeInfo, hi, Builtin.lenOf, h1, Builtin.firstCells, storeCells]
    | some ad =>
      have hf : l.length * i0.size + (flatK K m).length ≤ cur.toArray.size := by
        rw [flat_length, hz1, ← Nat.add_mul]
        simp only [List.size_toArray, h3]
        exact Nat.mul_le_mul_right _ hfit
      have hcell : ∀ j u, (flatK K m)[j]? = some u → w.cell? (ad.add j) = some u := fun j u hu => by
        obtain ⟨i, q, hi', rfl, hq⟩ := flat_get K m j u hu
        obtain ⟨b, off, e, hlt, hc⟩ := hr (by omega)
        injection e with e
        subst e
        rw [Addr.add_mid, ← Nat.add_assoc]
        exact hc i hi' q u hq
      have hrun := run_append_room (P := Try.prog) w K.st ty K.e i0 K.sl hi g l.length c cur.toArray hg ad m.length cc (flatK K m) (by rw [flat_length, hz1]) hcell (flat_one K m) hfit hf
      refine ⟨_, hrun, ?_, grown_setRow w g _⟩
      have hl : (l ++ m).length = l.length + m.length := by simp
      rw [← hl]
      have hnew : cur.take (l.length * i0.size) = flatK K l := by rw [hz1]; exact h4
      have e : flatK K (l ++ m) = flatK K l ++ flatK K m := List.flatMap_append
      refine RowK.mk' (cur := cur.take (l.length * i0.size) ++ flatK K m ++ cur.drop (l.length * i0.size + (flatK K m).length)) hb (setRow_heap w g _ _ _ _ hg) (by omega) h2 ?_ ?_
      · simp only [List.size_toArray] at hf
        simp only [List.length_append, List.length_take, List.length_drop]
        omega
      · rw [hnew, e, ← e]
        have hlen : (l ++ m).length * K.size = (flatK K l ++ flatK K m).length := by rw [← e, flat_length]
        rw [hlen, e, List.take_left]
omit [Inhabited α] in
/-- What is written behind a row's elements leaves the row. -/
theorem RowK.splice {w w' : World} {base g k c off : Nat} {l : List α} {cur cs : List Value} (h : RowK K w base (.slice (some ⟨g, 0, none⟩) k c) l) (hg : Blk w g K.e cur.toArray) (hg' : Blk w' g K.e (Go.splice cur off cs).toArray) (ho : k * K.size ≤ off) (hfit : off + cs.length ≤ cur.length) :
    RowK K w' base (.slice (some ⟨g, 0, none⟩) k c) l := by
  obtain ⟨rfl, h0 | ⟨g', cur', e, hb, hg2, h1, h2, h3, h4⟩⟩ := h.cases
  · cases h0.1
  · cases e
    have : cur' = cur := by
      unfold Blk at hg hg2
      rw [hg] at hg2
      injection hg2 with hg2
      injection hg2 with e
      injection e with e
      exact e.symm
    subst this
    refine RowK.mk' hb hg' h1 h2 (by rw [length_splice _ _ _ hfit]; exact h3) ?_
    rw [← h4]
    unfold Go.splice
    rw [List.take_append_of_le_length (by simp; omega), List.take_take, Nat.min_eq_left ho]
def DelOut (K : Kind α) (base : Nat) (v : Value) (l : List α) (w : World) (e : Ending) (w' : World) : Prop := ∃ v', e = .returned v' ∧ RowK K w' base v' l ∧ w.grownBy w' v.ownBlock ∧ v'.ownBlock = v.ownBlock
end
set_option maxHeartbeats 4000000 in
theorem del_I (base n c : Nat) (A : Option Addr) (a b : List It) (x : It) (w : World) (hr : RowK kI w base (.slice A n c) (a ++ x :: b)) (hmax : n ≤ 1000) :
    Calls Try.prog 38 #[.slice A n c, .int .i64 a.length, .int .i64 (a.length + 1 : Nat)] w (DelOut kI base (.slice A n c) (a ++ b) w) := by
  obtain ⟨hn, h0 | ⟨g, cur, rfl, hbg, hg, h1, h2, h3, h4⟩⟩ := hr.cases
  · simp at hn; omega
  · obtain ⟨i, hi⟩ : ∃ i, i = a.length := ⟨_, rfl⟩
    obtain ⟨m, hm⟩ : ∃ m, m = b.length := ⟨_, rfl⟩
    have hnn : n = i + m + 1 := by rw [hn, hi, hm]; simp; omega
    rw [← hi]
    have ht : RowK kI w base (.slice (some ⟨g, 0, none⟩) i c) a := by
      have := hr.take (k := i) (by omega)
      rwa [hi, List.take_left, ← hi] at this
    have hd : RdK kI w w.heap.size (some ⟨g, (i + 1) * kI.size, none⟩) b := by
      have := hr.from_ (i + 1)
      rwa [hi, show a ++ x :: b = (a ++ [x]) ++ b by simp, show a.length + 1 = (a ++ [x]).length by simp, List.drop_left, show (a ++ [x]).length = a.length + 1 by simp, ← hi] at this
    have hc64 : c ≤ 9223372036854775807 := by unfold maxLen at h2; omega
    have hi1 : (i : Int) ≤ (n : Int) := by omega
    have hi2 : ((i + 1 : Nat) : Int) ≤ (n : Int) := by omega
    have hi3 : i + 1 ≤ n := by omega
    have hi4 : i ≤ c := by omega
    have hi5 : i + 1 ≤ c := by omega
    have hi6 : i ≤ n := by omega
    have hm1 : n - (i + 1) = m := by omega
    have hfit : a.length + b.length ≤ c := by omega
    have hi7 : (i : Int) + 1 ≤ (n : Int) := by omega
    have hi8 : (0 : Int) ≤ (i : Int) + 1 := by omega
    have hi9 : (i : Int) ≤ (i : Int) + 1 := by omega
    have hi10 : (i : Int) ≤ (c : Int) := by omega
    obtain ⟨p, hp⟩ : ∃ p, p = i + m := ⟨_, rfl⟩
    have hp1 : (p : Int) ≤ (n : Int) := by omega
    have hp2 : p ≤ n := by omega
    have hp3 : p ≤ c := by omega
    have hp4 : (p : Int) ≤ (c : Int) := by omega
    have hp5 : ¬ c = p := by omega
    have hp6 : (n : Int) ≤ (c : Int) := by omega
    have tail : ∀ w1, RowK kI w1 base (.slice (some ⟨g, 0, none⟩) p c) (a ++ b) → w.grownBy w1 (some g) → ∃ w2, (Builtin.clear_ #[56] 0 #[.slice (some ⟨g, p * 2, none⟩) (n - p) (c - p)]).run Try.prog w1 = .ok (.tuple #[]) w2 ∧ RowK kI w2 base (.slice (some ⟨g, 0, none⟩) p c) (a ++ b) ∧ w.grownBy w2 (some g) := fun w1 k2 k3 => by
      obtain ⟨_, q0 | ⟨g', cur', e, q1, q2, q3, q4, q5, q6⟩⟩ := k2.cases
      · cases q0.1
      · cases e
        have hfit2 : p * kI.size + (n - p) * kI.size ≤ cur'.length := by
          rw [q5, ← Nat.add_mul]
          exact Nat.mul_le_mul_right _ (by omega)
        obtain ⟨w2, zs, r1, r2, r3, r4⟩ := run_clearK zok_I w1 0 (some ⟨g, p * 2, none⟩) (n - p) (c - p) g (p * kI.size) cur' q2 (fun _ => by simp [kI]) hfit2
        exact ⟨w2, r1, k2.splice q2 r3 (Nat.le_refl _) (by rw [r2]; exact hfit2), k3.trans r4⟩
    by_cases hci : c = i + 1
    · have hb0 : b = [] := List.eq_nil_of_length_eq_zero (by omega)
      subst hb0
      have hm0 : m = 0 := by simpa using hm
      subst hm0
      obtain ⟨w1, k1, k2, k3⟩ := run_app_in (K := kI) (A := some ⟨g, 0, none⟩) (B := 0) 56 (g := g) (c := c) (cc := 0) [] (show RowK kI w.drew base _ a by rw [← hi]; exact ht) (fun h => by simp at h) (fun h => by cases h) hfit
      rw [← hi] at k1 k2
      simp only [List.length_nil] at k1 k2
      rw [← hp] at k1 k2
      have hpi : p = i := by omega
      have hn1 : n = i + 1 := by omega
      subst hpi hn1 hci
      have k3' : w.grownBy w1 (some g) := ⟨k3.1, k3.2, k3.3, k3.4, k3.5⟩
      obtain ⟨w2, t1, t2, t3⟩ := tail w1 k2 k3'
      rw [show p + 1 - p = 1 by omega] at t1
      have HR := Lib.hid k1
      have HZ := Lib.hid (And.intro t2 t3)
      clear hr ht hd hg h2 h3 h4 hn hi hm hnn hm1 k1 k2 k3 k3' hfit tail t2 t3 hp
      go_enter Try.func38, Try.ntmps38
      go_upto_region 5 with fail
      go_still_tail 6, (by kernel_rfl)
      change wpList _ _ _ _ _ w.drew
      go_wp2_with (at_builtin; refine wpList_ap rfl (.tmp 22) (.tmp 25) 56 56 rfl _ _ rfl rfl HR.out ?_)
      go_ret
      exact ⟨_, rfl, HZ.out.1, HZ.out.2, rfl⟩
    · obtain ⟨w1, k1, k2, k3⟩ := run_app_in (K := kI) 56 (g := g) (c := c) (cc := c - (i + 1)) b (show RowK kI w.drew base _ a by rw [← hi]; exact ht) (show RdK kI w.drew w.heap.size _ b from hd) (fun h => by cases h) hfit
      rw [← hi, ← hm] at k1 k2
      simp only [show kI.size = 2 from rfl] at k1
      rw [← hp] at k1 k2
      have k3' : w.grownBy w1 (some g) := ⟨k3.1, k3.2, k3.3, k3.4, k3.5⟩
      rw [← hm1] at k1
      obtain ⟨w2, t1, t2, t3⟩ := tail w1 k2 k3'
      have HR := Lib.hid k1
      have HZ := Lib.hid (And.intro t2 t3)
      clear hr ht hd hg h2 h3 h4 hn hi hm hnn hm1 k1 k2 k3 k3' hfit tail t2 t3 hp
      go_enter Try.func38, Try.ntmps38
      go_upto_region 5 with fail
      go_still_tail 6, (by kernel_rfl)
      change wpList _ _ _ _ _ w.drew
      go_wp2_with (at_builtin; refine wpList_ap rfl (.tmp 22) (.tmp 25) 56 56 rfl _ _ rfl rfl HR.out ?_)
      go_ret
      exact ⟨_, rfl, HZ.out.1, HZ.out.2, rfl⟩
set_option maxHeartbeats 4000000 in
theorem del_P (base n c : Nat) (A : Option Addr) (a b : List Nat) (x : Nat) (w : World) (hr : RowK kP w base (.slice A n c) (a ++ x :: b)) (hmax : n ≤ 1000) :
    Calls Try.prog 52 #[.slice A n c, .int .i64 a.length, .int .i64 (a.length + 1 : Nat)] w (DelOut kP base (.slice A n c) (a ++ b) w) := by
  obtain ⟨hn, h0 | ⟨g, cur, rfl, hbg, hg, h1, h2, h3, h4⟩⟩ := hr.cases
  · simp at hn; omega
  · obtain ⟨i, hi⟩ : ∃ i, i = a.length := ⟨_, rfl⟩
    obtain ⟨m, hm⟩ : ∃ m, m = b.length := ⟨_, rfl⟩
    have hnn : n = i + m + 1 := by rw [hn, hi, hm]; simp; omega
    rw [← hi]
    have ht : RowK kP w base (.slice (some ⟨g, 0, none⟩) i c) a := by
      have := hr.take (k := i) (by omega)
      rwa [hi, List.take_left, ← hi] at this
    have hd : RdK kP w w.heap.size (some ⟨g, (i + 1) * kP.size, none⟩) b := by
      have := hr.from_ (i + 1)
      rwa [hi, show a ++ x :: b = (a ++ [x]) ++ b by simp, show a.length + 1 = (a ++ [x]).length by simp, List.drop_left, show (a ++ [x]).length = a.length + 1 by simp, ← hi] at this
    have hc64 : c ≤ 9223372036854775807 := by unfold maxLen at h2; omega
    have hi1 : (i : Int) ≤ (n : Int) := by omega
    have hi2 : ((i + 1 : Nat) : Int) ≤ (n : Int) := by omega
    have hi3 : i + 1 ≤ n := by omega
    have hi4 : i ≤ c := by omega
    have hi5 : i + 1 ≤ c := by omega
    have hi6 : i ≤ n := by omega
    have hm1 : n - (i + 1) = m := by omega
    have hfit : a.length + b.length ≤ c := by omega
    have hi7 : (i : Int) + 1 ≤ (n : Int) := by omega
    have hi8 : (0 : Int) ≤ (i : Int) + 1 := by omega
    have hi9 : (i : Int) ≤ (i : Int) + 1 := by omega
    have hi10 : (i : Int) ≤ (c : Int) := by omega
    obtain ⟨p, hp⟩ : ∃ p, p = i + m := ⟨_, rfl⟩
    have hp1 : (p : Int) ≤ (n : Int) := by omega
    have hp2 : p ≤ n := by omega
    have hp3 : p ≤ c := by omega
    have hp4 : (p : Int) ≤ (c : Int) := by omega
    have hp5 : ¬ c = p := by omega
    have hp6 : (n : Int) ≤ (c : Int) := by omega
    have tail : ∀ w1, RowK kP w1 base (.slice (some ⟨g, 0, none⟩) p c) (a ++ b) → w.grownBy w1 (some g) → ∃ w2, (Builtin.clear_ #[57] 0 #[.slice (some ⟨g, p, none⟩) (n - p) (c - p)]).run Try.prog w1 = .ok (.tuple #[]) w2 ∧ RowK kP w2 base (.slice (some ⟨g, 0, none⟩) p c) (a ++ b) ∧ w.grownBy w2 (some g) := fun w1 k2 k3 => by
      obtain ⟨_, q0 | ⟨g', cur', e, q1, q2, q3, q4, q5, q6⟩⟩ := k2.cases
      · cases q0.1
      · cases e
        have hfit2 : p * kP.size + (n - p) * kP.size ≤ cur'.length := by
          rw [q5, ← Nat.add_mul]
          exact Nat.mul_le_mul_right _ (by omega)
        obtain ⟨w2, zs, r1, r2, r3, r4⟩ := run_clearK zok_P w1 0 (some ⟨g, p, none⟩) (n - p) (c - p) g (p * kP.size) cur' q2 (fun _ => by simp [kP]) hfit2
        exact ⟨w2, r1, k2.splice q2 r3 (Nat.le_refl _) (by rw [r2]; exact hfit2), k3.trans r4⟩
    by_cases hci : c = i + 1
    · have hb0 : b = [] := List.eq_nil_of_length_eq_zero (by omega)
      subst hb0
      have hm0 : m = 0 := by simpa using hm
      subst hm0
      obtain ⟨w1, k1, k2, k3⟩ := run_app_in (K := kP) (A := some ⟨g, 0, none⟩) (B := 0) 57 (g := g) (c := c) (cc := 0) [] (show RowK kP w.drew base _ a by rw [← hi]; exact ht) (fun h => by simp at h) (fun h => by cases h) hfit
      rw [← hi] at k1 k2
      simp only [List.length_nil] at k1 k2
      rw [← hp] at k1 k2
      have hpi : p = i := by omega
      have hn1 : n = i + 1 := by omega
      subst hpi hn1 hci
      have k3' : w.grownBy w1 (some g) := ⟨k3.1, k3.2, k3.3, k3.4, k3.5⟩
      obtain ⟨w2, t1, t2, t3⟩ := tail w1 k2 k3'
      rw [show p + 1 - p = 1 by omega] at t1
      have HR := Lib.hid k1
      have HZ := Lib.hid (And.intro t2 t3)
      clear hr ht hd hg h2 h3 h4 hn hi hm hnn hm1 k1 k2 k3 k3' hfit tail t2 t3 hp
      go_enter Try.func52, Try.ntmps52
      go_upto_region 5 with fail
      go_still_tail 6, (by kernel_rfl)
      change wpList _ _ _ _ _ w.drew
      go_wp2_with (at_builtin; refine wpList_ap rfl (.tmp 22) (.tmp 25) 57 57 rfl _ _ rfl rfl HR.out ?_)
      go_ret
      exact ⟨_, rfl, HZ.out.1, HZ.out.2, rfl⟩
    · obtain ⟨w1, k1, k2, k3⟩ := run_app_in (K := kP) 57 (g := g) (c := c) (cc := c - (i + 1)) b (show RowK kP w.drew base _ a by rw [← hi]; exact ht) (show RdK kP w.drew w.heap.size _ b from hd) (fun h => by cases h) hfit
      rw [← hi, ← hm] at k1 k2
      simp only [show kP.size = 1 from rfl, Nat.mul_one] at k1
      rw [← hp] at k1 k2
      have k3' : w.grownBy w1 (some g) := ⟨k3.1, k3.2, k3.3, k3.4, k3.5⟩
      rw [← hm1] at k1
      obtain ⟨w2, t1, t2, t3⟩ := tail w1 k2 k3'
      have HR := Lib.hid k1
      have HZ := Lib.hid (And.intro t2 t3)
      clear hr ht hd hg h2 h3 h4 hn hi hm hnn hm1 k1 k2 k3 k3' hfit tail t2 t3 hp
      go_enter Try.func52, Try.ntmps52
      go_upto_region 5 with fail
      go_still_tail 6, (by kernel_rfl)
      change wpList _ _ _ _ _ w.drew
      go_wp2_with (at_builtin; refine wpList_ap rfl (.tmp 22) (.tmp 25) 57 57 rfl _ _ rfl rfl HR.out ?_)
      go_ret
      exact ⟨_, rfl, HZ.out.1, HZ.out.2, rfl⟩
end Go.Proofs.Ytgjcomnljonffaa.Tlv
