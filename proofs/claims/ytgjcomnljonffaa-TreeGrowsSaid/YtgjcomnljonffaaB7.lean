/- slices.Insert of one element. -/
import Derived.Test.YtgjcomnljonffaaB6
namespace Go.Proofs.Ytgjcomnljonffaa.Tlv
open Go.RowKit
set_option maxRecDepth 100000
set_option linter.unusedVariables false
set_option linter.unusedSimpArgs false
theorem splice_ins {α : Type} (cur pa px pb : List α) (ha : cur.take pa.length = pa) (hl : pa.length + px.length + pb.length ≤ cur.length) :
    (splice (splice cur (pa.length + px.length) pb) pa.length px).take (pa.length + px.length + pb.length) = pa ++ (px ++ pb) := by
  have h1 : (splice cur (pa.length + px.length) pb).take pa.length = pa := by
    unfold splice
    rw [List.take_append_of_le_length (by simp; omega), List.take_take, Nat.min_eq_left (by omega), ha]
  have h2 : (splice cur (pa.length + px.length) pb).drop (pa.length + px.length) = pb ++ cur.drop (pa.length + px.length + pb.length) := by
    unfold splice
    exact List.drop_left' (by simp; omega)
  have h3 : splice (splice cur (pa.length + px.length) pb) pa.length px = (pa ++ (px ++ pb)) ++ cur.drop (pa.length + px.length + pb.length) := by
    show List.take pa.length _ ++ (px ++ List.drop (pa.length + px.length) _) = _
    rw [h1, h2]
    simp
  rw [h3]
  exact List.take_left' (by simp; omega)
theorem splice_ins2 {α : Type} (cur pa px pb : List α) (ha : cur.take pa.length = pa) (hl : pa.length + px.length + pb.length ≤ cur.length) :
    (splice (splice cur pa.length px) (pa.length + px.length) pb).take (pa.length + px.length + pb.length) = pa ++ (px ++ pb) := by
  have h1 : (splice cur pa.length px).take (pa.length + px.length) = pa ++ px := by
    unfold splice
    rw [← List.append_assoc]
    rw [ha]
    exact List.take_left' (by simp)
  have h3 : splice (splice cur pa.length px) (pa.length + px.length) pb = (pa ++ (px ++ pb)) ++ (splice cur pa.length px).drop (pa.length + px.length + pb.length) := by
    show List.take (pa.length + px.length) _ ++ (pb ++ List.drop (pa.length + px.length + pb.length) _) = _
    rw [h1]
    simp
  rw [h3]
  exact List.take_left' (by simp; omega)
def InsOut {α : Type} (K : Kind α) (base : Nat) (v : Value) (l : List α) (w : World) (e : Ending) (w' : World) : Prop :=
  ∃ v', e = .returned v' ∧ RowK K w' base v' l ∧ w.grownBy w' v.ownBlock ∧ (v'.ownBlock = v.ownBlock ∨ ∃ k, v'.ownBlock = some k ∧ w.heap.size ≤ k)
theorem ins_own {v v' : Value} {n : Nat} (h : v'.ownBlock = v.ownBlock ∨ v'.ownBlock = some n) : v'.ownBlock = v.ownBlock ∨ ∃ k, v'.ownBlock = some k ∧ n ≤ k := by
  rcases h with h | h
  · exact .inl h
  · exact .inr ⟨n, h, Nat.le_refl _⟩
set_option maxHeartbeats 4000000 in
theorem insEnd_I (base n c : Nat) (A : Option Addr) (a : List It) (x : It) (gx : Nat) (w : World) (hr : RowK kI w base (.slice A n c) a) (hx : Blk w gx kI.e (kI.cs x).toArray) (hmax : n ≤ 1000) (hb : base ≤ w.heap.size) :
    Calls Try.prog 36 #[.slice A n c, .int .i64 n, .slice (some ⟨gx, 0, none⟩) 1 1] w (InsOut kI base (.slice A n c) (a ++ [x]) w) := by
  obtain ⟨hn, h0⟩ := hr.cases
  have hnc : n ≤ c := by
    rcases h0 with ⟨_, h1, h2⟩ | ⟨g, cur, _, _, _, h1, _⟩ <;> omega
  obtain ⟨v', w', k1, k2, k3, k4⟩ := run_app5 (K := kI) 56 (c := 1) [x] hr (rd_block (l := [x]) hx (by simp [flatK])) (fun h => by cases h) (by simp; omega) hb
  have HR := Lib.hid k1
  have HZ := Lib.hid (And.intro k2 (And.intro k3 k4))
  simp only [List.length_singleton] at HR
  clear hr hx k1 k2 k3 k4 h0 hn
  rcases Decidable.em (c = n) with e | e
  · subst e
    go_enter Try.func36, Try.ntmps36
    go_wp2_with (at_builtin; refine wpList_ap rfl (.tmp 23) (.tmp 24) 56 56 rfl _ _ rfl rfl HR.out ?_)
    go_ret
    exact ⟨_, rfl, HZ.out.1, HZ.out.2.1, ins_own HZ.out.2.2⟩
  · go_enter Try.func36, Try.ntmps36
    go_wp2_with (at_builtin; refine wpList_ap rfl (.tmp 23) (.tmp 24) 56 56 rfl _ _ rfl rfl HR.out ?_)
    go_ret
    exact ⟨_, rfl, HZ.out.1, HZ.out.2.1, ins_own HZ.out.2.2⟩
set_option maxHeartbeats 4000000 in
theorem insRoom_I (base n c g : Nat) (a b : List It) (x : It) (gx : Nat) (w : World) (hr : RowK kI w base (.slice (some ⟨g, 0, none⟩) n c) (a ++ b)) (hx : Blk w gx kI.e (kI.cs x).toArray) (hne : gx ≠ g) (hmax : n ≤ 1000) (hbl : 0 < b.length) (hroom : n + 1 ≤ c) :
    Calls Try.prog 36 #[.slice (some ⟨g, 0, none⟩) n c, .int .i64 a.length, .slice (some ⟨gx, 0, none⟩) 1 1] w (InsOut kI base (.slice (some ⟨g, 0, none⟩) n c) (a ++ x :: b) w) := by
  obtain ⟨hn, h0 | ⟨g', cur, e, hbg, hg, h1, h2, h3, h4⟩⟩ := hr.cases
  · cases h0.1
  · cases e
    obtain ⟨i, hi⟩ : ∃ i, i = a.length := ⟨_, rfl⟩
    obtain ⟨m, hm⟩ : ∃ m, m = b.length := ⟨_, rfl⟩
    have hnn : n = i + m := by rw [hn, hi, hm]; simp
    rw [← hm] at hbl
    have hc64 : c ≤ 9223372036854775807 := by unfold maxLen at h2; omega
    have hla : (flatK kI a).length = i * kI.size := by rw [flat_length, hi]
    have hlx : (kI.cs x).length = kI.size := kI.len x
    have hlb : (flatK kI b).length = m * kI.size := by rw [flat_length, hm]
    have hcs : (n + 1) * kI.size ≤ cur.length := by rw [h3]; exact Nat.mul_le_mul_right _ hroom
    have hnn' : (n + 1) * kI.size = i * kI.size + kI.size + m * kI.size := by rw [hnn]; simp only [show kI.size = 2 from rfl]; omega
    have hta : cur.take (i * kI.size) = flatK kI a := by
      have : cur.take (i * kI.size) = (cur.take (n * kI.size)).take (i * kI.size) := by rw [List.take_take, Nat.min_eq_left (Nat.mul_le_mul_right _ (by omega))]
      rw [this, h4, show flatK kI (a ++ b) = flatK kI a ++ flatK kI b from List.flatMap_append, ← hla, List.take_left]
    have e1 : (n + 1 - i).min (n + 1 - (i + 1)) = m := by show min _ _ = _; omega
    have e2 : Nat.min 1 (n + 1 - i) = 1 := by show min _ _ = _; omega
    have hd : RdK kI w w.heap.size (some ⟨g, i * kI.size, none⟩) b := by
      have := hr.from_ i
      rwa [hi, List.drop_left, ← hi] at this
    have hcell : ∀ j u, (flatK kI b)[j]? = some u → w.cell? ((⟨g, i * kI.size, none⟩ : Addr).add j) = some u := fun j u hu => by
      obtain ⟨i', q, hi', rfl, hq⟩ := flat_get kI b j u hu
      obtain ⟨b', off, e, hlt, hc⟩ := hd (by omega)
      injection e with e
      injection e with e1 e2 _
      subst e1 e2
      rw [Addr.add_mid, ← Nat.add_assoc]
      exact hc i' hi' q u hq
    obtain ⟨w1, r1, r2, r3⟩ := run_copyK kI w.drew 3 (some ⟨g, (i + 1) * kI.size, none⟩) (some ⟨g, i * kI.size, none⟩) (n + 1 - (i + 1)) (c - (i + 1)) (n + 1 - i) (c - i) g ((i + 1) * kI.size) cur (flatK kI b) hg
      (by rw [hlb, e1]) (fun _ => ⟨rfl, _, rfl, hcell⟩) (by rw [hlb]; simp only [show kI.size = 2 from rfl] at hcs ⊢; omega) (flat_one kI b)
    have hx1 : Blk w1 gx kI.e (kI.cs x).toArray := Blk.grown (w := w.drew) hx r3 (fun e => by injection e with e; exact hne e)
    have hxc : ∀ j v, (kI.cs x)[j]? = some v → w1.cell? ((⟨gx, 0, none⟩ : Addr).add j) = some v := fun j v hv => by
      rw [Addr.add_mid, Nat.zero_add, hx1.cell]; simpa using hv
    have hs1 : (splice cur ((i + 1) * kI.size) (flatK kI b)).length = cur.length := length_splice _ _ _ (by rw [hlb]; simp only [show kI.size = 2 from rfl] at hcs ⊢; omega)
    obtain ⟨w2, t1, t2, t3⟩ := run_copyK kI w1 3 (some ⟨g, i * kI.size, none⟩) (some ⟨gx, 0, none⟩) (n + 1 - i) (c - i) 1 1 g (i * kI.size) _ (kI.cs x) r2
      (by rw [hlx, e2, Nat.one_mul]) (fun _ => ⟨rfl, _, rfl, hxc⟩) (by rw [hs1, hlx]; simp only [show kI.size = 2 from rfl] at hcs ⊢; omega) (kI.one x)
    have hout : RowK kI w2 base (.slice (some ⟨g, 0, none⟩) (n + 1) c) (a ++ x :: b) := by
      have hl : (a ++ x :: b).length = n + 1 := by simp; omega
      rw [← hl]
      refine RowK.mk' hbg t2 (by omega) h2 (by rw [length_splice _ _ _ (by rw [hs1, hlx]; simp only [show kI.size = 2 from rfl] at hcs ⊢; omega), hs1, h3]) ?_
      have := splice_ins cur (flatK kI a) (kI.cs x) (flatK kI b) (by rw [hla]; exact hta) (by rw [hla, hlx, hlb, ← hnn']; exact hcs)
      rw [hla, hlx, hlb, ← hnn', show i * kI.size + kI.size = (i + 1) * kI.size by rw [Nat.add_mul, Nat.one_mul]] at this
      rw [hl, this, show flatK kI (a ++ x :: b) = flatK kI a ++ (kI.cs x ++ flatK kI b) by simp [flatK]]
    have hgr : w.grownBy w2 (some g) := by
      have r3' : w.grownBy w1 (some g) := ⟨r3.1, r3.2, r3.3, r3.4, r3.5⟩
      exact r3'.trans t3
    have hov := Lib.run_overlaps_apart (P := Try.prog) w 56 4 kI.e kI.sl kI.size (fun w => by obtain ⟨i, z, q1, _, q3, _⟩ := kI.zero; simp [sizeOf, typeInfo, q1, q3]) ⟨gx, 0, none⟩ ⟨g, (i + 1) * kI.size, none⟩ 1 1 (n + 1 - (i + 1)) (c - (i + 1)) hne kI.e kI.e (kI.cs x).toArray.size cur.toArray.size
      (by have := hx; unfold Blk at this; simp [World.shape?, this]) (by have := hg; unfold Blk at this; simp [World.shape?, this]) (by simp only [List.size_toArray]; simp only [show kI.size = 2 from rfl] at hcs; omega) (hx.frozen 0) (hx.frozen _)
    simp only [show kI.size = 2 from rfl] at r1 t1 hov
    rw [e1, show n + 1 - (i + 1) = n - i by omega] at r1
    rw [show n + 1 - (i + 1) = n - i by omega] at hov
    rw [e2] at t1
    simp only [show kI.st = 56 from rfl] at r1 t1
    have HV := Lib.hid hov
    clear hov
    have HZ := Lib.hid (And.intro hout hgr)
    have f1 : (i : Int) ≤ (n : Int) := by omega
    have f2 : i ≤ n := by omega
    have f3 : ¬ (i : Int) = (n : Int) := by omega
    have f4 : ¬ ((c : Int) < (n : Int) + 1) := by omega
    have f5 : (i : Int) + 1 ≤ (n : Int) + 1 := by omega
    have f6 : ¬ c = i := by omega
    have f7 : ¬ c = i + 1 := by omega
    have f8 : (n : Int) + 1 ≤ (c : Int) := by omega
    have f9 : (i : Int) ≤ (n : Int) + 1 := by omega
    have f10 : (0 : Int) ≤ (n : Int) + 1 := by omega
    have f11 : (0 : Int) ≤ (i : Int) + 1 := by omega
    have f12 : IntKind.i64.wrap ((i : Int) + 1) = (i : Int) + 1 := by rw [IntKind.wrap_i64]; omega
    have f13 : ((i : Int) + 1).toNat = i + 1 := by omega
    rw [← hi]
    clear hr hd hcell hx hx1 hxc hg h2 h3 h4 hn hi hm hnn r2 r3 t2 t3 hout hgr hla hlx hlb hcs hnn' hta hs1 e1 e2
    go_enter Try.func36, Try.ntmps36
    go_upto_region 14 with fail
    go_wp2
    rw [run_callFunc_extern Try.func48 (by kernel_rfl) (by kernel_rfl) (by kernel_rfl) (e := Extern.SlicesOverlaps.overlaps #[56, 56] #[4]) (by kernel_rfl), HV.out]
    simp only [Result.andThen]
    rw [Oper.upon_value]
    go_upto_region 15 with fail
    go_still_tail 8, (by kernel_rfl)
    change wpList _ _ _ _ _ w.drew
    go_wp2
    go_ret
    exact ⟨_, rfl, HZ.out.1, HZ.out.2, .inl rfl⟩
set_option maxHeartbeats 4000000 in
theorem insGrow_I (base n g : Nat) (a b : List It) (x : It) (gx : Nat) (w : World) (hr : RowK kI w base (.slice (some ⟨g, 0, none⟩) n n) (a ++ b)) (hx : Blk w gx kI.e (kI.cs x).toArray) (hne : gx ≠ g) (hmax : n ≤ 1000) (hbl : 0 < b.length) (hb : base ≤ w.heap.size) :
    Calls Try.prog 36 #[.slice (some ⟨g, 0, none⟩) n n, .int .i64 a.length, .slice (some ⟨gx, 0, none⟩) 1 1] w (InsOut kI base (.slice (some ⟨g, 0, none⟩) n n) (a ++ x :: b) w) := by
  obtain ⟨hn, h0 | ⟨g', cur, e, hbg, hg, h1, h2, h3, h4⟩⟩ := hr.cases
  · cases h0.1
  · cases e
    obtain ⟨i, hi⟩ : ∃ i, i = a.length := ⟨_, rfl⟩
    obtain ⟨m, hm⟩ : ∃ m, m = b.length := ⟨_, rfl⟩
    have hnn : n = i + m := by rw [hn, hi, hm]; simp
    rw [← hm] at hbl
    have hla : (flatK kI a).length = i * kI.size := by rw [flat_length, hi]
    have hlx : (kI.cs x).length = kI.size := kI.len x
    have hlb : (flatK kI b).length = m * kI.size := by rw [flat_length, hm]
    have hnn' : (n + 1) * kI.size = i * kI.size + kI.size + m * kI.size := by rw [hnn]; simp only [show kI.size = 2 from rfl]; omega
    have hca : ∀ j v, (flatK kI a)[j]? = some v → w.cell? ((⟨g, 0, none⟩ : Addr).add j) = some v := fun j u hu => by
      obtain ⟨i', q, hi', rfl, hq⟩ := flat_get kI a j u hu
      have ht := hr.take (k := i) (by omega)
      rw [hi, List.take_left, ← hi] at ht
      obtain ⟨A', c', e, _, hrd⟩ := ht.rd0
      injection e with e1 _ _
      obtain ⟨b', off, e, hlt, hc⟩ := hrd (by omega)
      rw [← e1] at e
      injection e with e
      injection e with e1 e2 _
      subst e1 e2
      rw [Addr.add_mid, ← Nat.add_assoc]
      exact hc i' hi' q u hq
    have hcast : ((n + 1 - i : Nat) : Int) = (n : Int) + 1 - (i : Int) := by omega
    obtain ⟨c1, zs, w1, k1, k2, k3, k4, k5, k6⟩ := run_append_zerosK kI w 56 3 .i64 Try.underlying3 .i64 ⟨g, 0, none⟩ i n (n + 1 - i) (flatK kI a) hla hca (by omega) (by omega) (by omega)
    rw [hcast, show i + (n + 1 - i) = n + 1 by omega] at k1
    rw [show i + (n + 1 - i) = n + 1 by omega] at k2
    have hcs : (n + 1) * kI.size ≤ (flatK kI a ++ zs).length := by rw [k4]; exact Nat.mul_le_mul_right _ k2
    have e1 : (n - i).min (n + 1 - (i + 1)) = m := by show min _ _ = _; omega
    have e2 : Nat.min 1 (n + 1 - i) = 1 := by show min _ _ = _; omega
    have hx1 : Blk w1 gx kI.e (kI.cs x).toArray := hx.on k6
    have hxc : ∀ j v, (kI.cs x)[j]? = some v → w1.cell? ((⟨gx, 0, none⟩ : Addr).add j) = some v := fun j v hv => by
      rw [Addr.add_mid, Nat.zero_add, hx1.cell]; simpa using hv
    obtain ⟨w2, t1, t2, t3⟩ := run_copyK kI w1 3 (some ⟨w.heap.size, i * kI.size, none⟩) (some ⟨gx, 0, none⟩) (n + 1 - i) (c1 - i) 1 1 w.heap.size (i * kI.size) (flatK kI a ++ zs) (kI.cs x) k5
      (by rw [hlx, e2, Nat.one_mul]) (fun _ => ⟨rfl, _, rfl, hxc⟩) (by rw [hlx]; simp only [show kI.size = 2 from rfl] at hcs ⊢; omega) (kI.one x)
    have hs1 : (splice (flatK kI a ++ zs) (i * kI.size) (kI.cs x)).length = (flatK kI a ++ zs).length := length_splice _ _ _ (by rw [hlx]; simp only [show kI.size = 2 from rfl] at hcs ⊢; omega)
    have hd : RdK kI w w.heap.size (some ⟨g, i * kI.size, none⟩) b := by
      have := hr.from_ i
      rwa [hi, List.drop_left, ← hi] at this
    have hlt : g < w.heap.size := hg.lt
    have hgg : w2.heap[g]? = w.heap[g]? := (t3.block g (Nat.lt_of_lt_of_le hlt k6.size) (fun e => by injection e with e; omega)).trans (k6.block g hlt)
    have hcell : ∀ j u, (flatK kI b)[j]? = some u → w2.drew.cell? ((⟨g, i * kI.size, none⟩ : Addr).add j) = some u := fun j u hu => by
      obtain ⟨i', q, hi', rfl, hq⟩ := flat_get kI b j u hu
      obtain ⟨b', off, e, hlt, hc⟩ := hd (by omega)
      injection e with e
      injection e with e1 e2 _
      subst e1 e2
      rw [Addr.add_mid, ← Nat.add_assoc]
      exact (World.cell?_of_block (w := w) (w' := w2.drew) (a := ⟨g, _, none⟩) hgg).trans (hc i' hi' q u hq)
    obtain ⟨w3, r1, r2, r3⟩ := run_copyK kI w2.drew 3 (some ⟨w.heap.size, (i + 1) * kI.size, none⟩) (some ⟨g, i * kI.size, none⟩) (n + 1 - (i + 1)) (c1 - (i + 1)) (n - i) (n - i) w.heap.size ((i + 1) * kI.size) _ (flatK kI b) t2
      (by rw [hlb, e1]) (fun _ => ⟨rfl, _, rfl, hcell⟩) (by rw [hs1, hlb]; simp only [show kI.size = 2 from rfl] at hcs ⊢; omega) (flat_one kI b)
    have hout : RowK kI w3 base (.slice (some ⟨w.heap.size, 0, none⟩) (n + 1) c1) (a ++ x :: b) := by
      have hl : (a ++ x :: b).length = n + 1 := by simp; omega
      rw [← hl]
      refine RowK.mk' hb r2 (by omega) k3 (by rw [length_splice _ _ _ (by rw [hs1, hlb]; simp only [show kI.size = 2 from rfl] at hcs ⊢; omega), hs1, k4]) ?_
      have := splice_ins2 (flatK kI a ++ zs) (flatK kI a) (kI.cs x) (flatK kI b) (by rw [List.take_left]) (by rw [hla, hlx, hlb, ← hnn']; exact hcs)
      rw [hla, hlx, hlb, ← hnn', show i * kI.size + kI.size = (i + 1) * kI.size by rw [Nat.add_mul, Nat.one_mul]] at this
      rw [hl, this, show flatK kI (a ++ x :: b) = flatK kI a ++ (kI.cs x ++ flatK kI b) by simp [flatK]]
    have hgr : w.grownBy w3 (some g) := by
      refine ⟨?_, ?_, ?_, ?_, ?_⟩
      · exact r3.os.trans (t3.os.trans k6.os)
      · exact r3.tape.trans (t3.tape.trans k6.tape)
      · exact r3.output.trans (t3.output.trans k6.output)
      · exact Nat.le_trans k6.size (Nat.le_trans t3.size r3.size)
      · exact fun k hk hne => (r3.block k (Nat.lt_of_lt_of_le hk (Nat.le_trans k6.size t3.size)) (fun e => by injection e with e; omega)).trans ((t3.block k (Nat.lt_of_lt_of_le hk k6.size) (fun e => by injection e with e; omega)).trans (k6.block k hk))
    rw [e1, show n + 1 - (i + 1) = n - i by omega] at r1
    rw [e2] at t1
    simp only [show kI.size = 2 from rfl] at r1 t1
    simp only [show kI.st = 56 from rfl] at r1 t1 k1
    have HK := Lib.hid k1
    have HZ := Lib.hid (And.intro hout hgr)
    obtain ⟨g1, hg1⟩ : ∃ g1, g1 = w.heap.size := ⟨_, rfl⟩
    have hfr : w.heap.size ≤ g1 := by omega
    rw [← hg1] at r1 t1 HK HZ
    have HG := Lib.hid hfr
    have f0 : c1 ≤ 9223372036854775807 := by unfold maxLen at k3; omega
    have f1 : (i : Int) ≤ (n : Int) := by omega
    have f2 : i ≤ n := by omega
    have f3 : ¬ (i : Int) = (n : Int) := by omega
    have f4 : ((n : Int) < (n : Int) + 1) := by omega
    have f5 : (i : Int) + 1 ≤ (n : Int) + 1 := by omega
    have f6 : ¬ c1 = i := by omega
    have f7 : ¬ c1 = i + 1 := by omega
    have f8 : (n : Int) + 1 ≤ (c1 : Int) := by omega
    have f9 : (i : Int) ≤ (n : Int) + 1 := by omega
    have f10 : (0 : Int) ≤ (n : Int) + 1 := by omega
    have f11 : (0 : Int) ≤ (i : Int) + 1 := by omega
    have f12 : IntKind.i64.wrap ((i : Int) + 1) = (i : Int) + 1 := by rw [IntKind.wrap_i64]; omega
    have f13 : ((i : Int) + 1).toNat = i + 1 := by omega
    have f14 : ¬ n = i := by omega
    rw [← hi]
    clear hr hd hcell hx hx1 hxc hg h2 h3 h4 hn hi hm hnn r2 r3 t2 t3 hout hgr hla hlx hlb hcs hnn' hs1 e1 e2 k1 k2 k3 k4 k5 k6 hca hcast hlt hgg hg1 hfr
    go_enter Try.func36, Try.ntmps36
    go_upto_region 9 with fail
    go_upto_region 10 with (at_builtin; refine wpList_ap rfl (.tmp 34) (.tmp 39) 56 3 rfl _ _ rfl rfl HK.out ?_)
    go_upto_region 11 with fail
    go_still_tail 8, (by kernel_rfl)
    change wpList _ _ _ _ _ w2.drew
    go_wp2
    go_ret
    exact ⟨_, rfl, HZ.out.1, HZ.out.2, .inr ⟨_, rfl, HG.out⟩⟩
/-- slices.Insert of one element. -/
theorem ins_I (base n c : Nat) (A : Option Addr) (a b : List It) (x : It) (gx : Nat) (w : World) (hr : RowK kI w base (.slice A n c) (a ++ b)) (hx : Blk w gx kI.e (kI.cs x).toArray) (hne : (Value.slice A n c).ownBlock ≠ some gx) (hmax : n ≤ 1000) (hb : base ≤ w.heap.size) :
    Calls Try.prog 36 #[.slice A n c, .int .i64 a.length, .slice (some ⟨gx, 0, none⟩) 1 1] w (InsOut kI base (.slice A n c) (a ++ x :: b) w) := by
  rcases Nat.eq_zero_or_pos b.length with h0 | hp
  · obtain rfl : b = [] := List.eq_nil_of_length_eq_zero h0
    have hn : n = a.length := by have := hr.cases.1; simpa using this
    rw [List.append_nil] at hr
    have := insEnd_I base n c A a x gx w hr hx hmax hb
    rwa [hn] at this ⊢
  · obtain ⟨hn, h0 | ⟨g, cur, rfl, hbg, hg, h1, h2, h3, h4⟩⟩ := hr.cases
    · simp at hn; omega
    · have hne' : gx ≠ g := fun e => hne (by rw [e]; rfl)
      by_cases hroom : n + 1 ≤ c
      · exact insRoom_I base n c g a b x gx w hr hx hne' hmax hp hroom
      · have : c = n := by omega
        subst this
        exact insGrow_I base c g a b x gx w hr hx hne' hmax hp hb
set_option maxHeartbeats 4000000 in
theorem insEnd_P (base n c : Nat) (A : Option Addr) (a : List Nat) (x : Nat) (gx : Nat) (w : World) (hr : RowK kP w base (.slice A n c) a) (hx : Blk w gx kP.e (kP.cs x).toArray) (hmax : n ≤ 1000) (hb : base ≤ w.heap.size) :
    Calls Try.prog 51 #[.slice A n c, .int .i64 n, .slice (some ⟨gx, 0, none⟩) 1 1] w (InsOut kP base (.slice A n c) (a ++ [x]) w) := by
  obtain ⟨hn, h0⟩ := hr.cases
  have hnc : n ≤ c := by
    rcases h0 with ⟨_, h1, h2⟩ | ⟨g, cur, _, _, _, h1, _⟩ <;> omega
  obtain ⟨v', w', k1, k2, k3, k4⟩ := run_app5 (K := kP) 57 (c := 1) [x] hr (rd_block (l := [x]) hx (by simp [flatK])) (fun h => by cases h) (by simp; omega) hb
  have HR := Lib.hid k1
  have HZ := Lib.hid (And.intro k2 (And.intro k3 k4))
  simp only [List.length_singleton] at HR
  clear hr hx k1 k2 k3 k4 h0 hn
  rcases Decidable.em (c = n) with e | e
  · subst e
    go_enter Try.func51, Try.ntmps51
    go_wp2_with (at_builtin; refine wpList_ap rfl (.tmp 23) (.tmp 24) 57 57 rfl _ _ rfl rfl HR.out ?_)
    go_ret
    exact ⟨_, rfl, HZ.out.1, HZ.out.2.1, ins_own HZ.out.2.2⟩
  · go_enter Try.func51, Try.ntmps51
    go_wp2_with (at_builtin; refine wpList_ap rfl (.tmp 23) (.tmp 24) 57 57 rfl _ _ rfl rfl HR.out ?_)
    go_ret
    exact ⟨_, rfl, HZ.out.1, HZ.out.2.1, ins_own HZ.out.2.2⟩
set_option maxHeartbeats 4000000 in
theorem insRoom_P (base n c g : Nat) (a b : List Nat) (x : Nat) (gx : Nat) (w : World) (hr : RowK kP w base (.slice (some ⟨g, 0, none⟩) n c) (a ++ b)) (hx : Blk w gx kP.e (kP.cs x).toArray) (hne : gx ≠ g) (hmax : n ≤ 1000) (hbl : 0 < b.length) (hroom : n + 1 ≤ c) :
    Calls Try.prog 51 #[.slice (some ⟨g, 0, none⟩) n c, .int .i64 a.length, .slice (some ⟨gx, 0, none⟩) 1 1] w (InsOut kP base (.slice (some ⟨g, 0, none⟩) n c) (a ++ x :: b) w) := by
  obtain ⟨hn, h0 | ⟨g', cur, e, hbg, hg, h1, h2, h3, h4⟩⟩ := hr.cases
  · cases h0.1
  · cases e
    obtain ⟨i, hi⟩ : ∃ i, i = a.length := ⟨_, rfl⟩
    obtain ⟨m, hm⟩ : ∃ m, m = b.length := ⟨_, rfl⟩
    have hnn : n = i + m := by rw [hn, hi, hm]; simp
    rw [← hm] at hbl
    have hc64 : c ≤ 9223372036854775807 := by unfold maxLen at h2; omega
    have hla : (flatK kP a).length = i * kP.size := by rw [flat_length, hi]
    have hlx : (kP.cs x).length = kP.size := kP.len x
    have hlb : (flatK kP b).length = m * kP.size := by rw [flat_length, hm]
    have hcs : (n + 1) * kP.size ≤ cur.length := by rw [h3]; exact Nat.mul_le_mul_right _ hroom
    have hnn' : (n + 1) * kP.size = i * kP.size + kP.size + m * kP.size := by rw [hnn]; simp only [show kP.size = 1 from rfl]; omega
    have hta : cur.take (i * kP.size) = flatK kP a := by
      have : cur.take (i * kP.size) = (cur.take (n * kP.size)).take (i * kP.size) := by rw [List.take_take, Nat.min_eq_left (Nat.mul_le_mul_right _ (by omega))]
      rw [this, h4, show flatK kP (a ++ b) = flatK kP a ++ flatK kP b from List.flatMap_append, ← hla, List.take_left]
    have e1 : (n + 1 - i).min (n + 1 - (i + 1)) = m := by show min _ _ = _; omega
    have e2 : Nat.min 1 (n + 1 - i) = 1 := by show min _ _ = _; omega
    have hd : RdK kP w w.heap.size (some ⟨g, i * kP.size, none⟩) b := by
      have := hr.from_ i
      rwa [hi, List.drop_left, ← hi] at this
    have hcell : ∀ j u, (flatK kP b)[j]? = some u → w.cell? ((⟨g, i * kP.size, none⟩ : Addr).add j) = some u := fun j u hu => by
      obtain ⟨i', q, hi', rfl, hq⟩ := flat_get kP b j u hu
      obtain ⟨b', off, e, hlt, hc⟩ := hd (by omega)
      injection e with e
      injection e with e1 e2 _
      subst e1 e2
      rw [Addr.add_mid, ← Nat.add_assoc]
      exact hc i' hi' q u hq
    obtain ⟨w1, r1, r2, r3⟩ := run_copyK kP w.drew 3 (some ⟨g, (i + 1) * kP.size, none⟩) (some ⟨g, i * kP.size, none⟩) (n + 1 - (i + 1)) (c - (i + 1)) (n + 1 - i) (c - i) g ((i + 1) * kP.size) cur (flatK kP b) hg
      (by rw [hlb, e1]) (fun _ => ⟨rfl, _, rfl, hcell⟩) (by rw [hlb]; simp only [show kP.size = 1 from rfl] at hcs ⊢; omega) (flat_one kP b)
    have hx1 : Blk w1 gx kP.e (kP.cs x).toArray := Blk.grown (w := w.drew) hx r3 (fun e => by injection e with e; exact hne e)
    have hxc : ∀ j v, (kP.cs x)[j]? = some v → w1.cell? ((⟨gx, 0, none⟩ : Addr).add j) = some v := fun j v hv => by
      rw [Addr.add_mid, Nat.zero_add, hx1.cell]; simpa using hv
    have hs1 : (splice cur ((i + 1) * kP.size) (flatK kP b)).length = cur.length := length_splice _ _ _ (by rw [hlb]; simp only [show kP.size = 1 from rfl] at hcs ⊢; omega)
    obtain ⟨w2, t1, t2, t3⟩ := run_copyK kP w1 3 (some ⟨g, i * kP.size, none⟩) (some ⟨gx, 0, none⟩) (n + 1 - i) (c - i) 1 1 g (i * kP.size) _ (kP.cs x) r2
      (by rw [hlx, e2, Nat.one_mul]) (fun _ => ⟨rfl, _, rfl, hxc⟩) (by rw [hs1, hlx]; simp only [show kP.size = 1 from rfl] at hcs ⊢; omega) (kP.one x)
    have hout : RowK kP w2 base (.slice (some ⟨g, 0, none⟩) (n + 1) c) (a ++ x :: b) := by
      have hl : (a ++ x :: b).length = n + 1 := by simp; omega
      rw [← hl]
      refine RowK.mk' hbg t2 (by omega) h2 (by rw [length_splice _ _ _ (by rw [hs1, hlx]; simp only [show kP.size = 1 from rfl] at hcs ⊢; omega), hs1, h3]) ?_
      have := splice_ins cur (flatK kP a) (kP.cs x) (flatK kP b) (by rw [hla]; exact hta) (by rw [hla, hlx, hlb, ← hnn']; exact hcs)
      rw [hla, hlx, hlb, ← hnn', show i * kP.size + kP.size = (i + 1) * kP.size by rw [Nat.add_mul, Nat.one_mul]] at this
      rw [hl, this, show flatK kP (a ++ x :: b) = flatK kP a ++ (kP.cs x ++ flatK kP b) by simp [flatK]]
    have hgr : w.grownBy w2 (some g) := by
      have r3' : w.grownBy w1 (some g) := ⟨r3.1, r3.2, r3.3, r3.4, r3.5⟩
      exact r3'.trans t3
    have hov := Lib.run_overlaps_apart (P := Try.prog) w 57 4 kP.e kP.sl kP.size (fun w => by obtain ⟨i, z, q1, _, q3, _⟩ := kP.zero; simp [sizeOf, typeInfo, q1, q3]) ⟨gx, 0, none⟩ ⟨g, (i + 1) * kP.size, none⟩ 1 1 (n + 1 - (i + 1)) (c - (i + 1)) hne kP.e kP.e (kP.cs x).toArray.size cur.toArray.size
      (by have := hx; unfold Blk at this; simp [World.shape?, this]) (by have := hg; unfold Blk at this; simp [World.shape?, this]) (by simp only [List.size_toArray]; simp only [show kP.size = 1 from rfl] at hcs; omega) (hx.frozen 0) (hx.frozen _)
    simp only [show kP.size = 1 from rfl, Nat.mul_one] at r1 t1 hov
    rw [e1, show n + 1 - (i + 1) = n - i by omega] at r1
    rw [show n + 1 - (i + 1) = n - i by omega] at hov
    rw [e2] at t1
    simp only [show kP.st = 57 from rfl] at r1 t1
    have HV := Lib.hid hov
    clear hov
    have HZ := Lib.hid (And.intro hout hgr)
    have f1 : (i : Int) ≤ (n : Int) := by omega
    have f2 : i ≤ n := by omega
    have f3 : ¬ (i : Int) = (n : Int) := by omega
    have f4 : ¬ ((c : Int) < (n : Int) + 1) := by omega
    have f5 : (i : Int) + 1 ≤ (n : Int) + 1 := by omega
    have f6 : ¬ c = i := by omega
    have f7 : ¬ c = i + 1 := by omega
    have f8 : (n : Int) + 1 ≤ (c : Int) := by omega
    have f9 : (i : Int) ≤ (n : Int) + 1 := by omega
    have f10 : (0 : Int) ≤ (n : Int) + 1 := by omega
    have f11 : (0 : Int) ≤ (i : Int) + 1 := by omega
    have f12 : IntKind.i64.wrap ((i : Int) + 1) = (i : Int) + 1 := by rw [IntKind.wrap_i64]; omega
    have f13 : ((i : Int) + 1).toNat = i + 1 := by omega
    rw [← hi]
    clear hr hd hcell hx hx1 hxc hg h2 h3 h4 hn hi hm hnn r2 r3 t2 t3 hout hgr hla hlx hlb hcs hnn' hta hs1 e1 e2
    go_enter Try.func51, Try.ntmps51
    go_upto_region 14 with fail
    go_wp2
    rw [run_callFunc_extern Try.func57 (by kernel_rfl) (by kernel_rfl) (by kernel_rfl) (e := Extern.SlicesOverlaps.overlaps #[57, 57] #[4]) (by kernel_rfl), HV.out]
    simp only [Result.andThen]
    rw [Oper.upon_value]
    go_upto_region 15 with fail
    go_still_tail 8, (by kernel_rfl)
    change wpList _ _ _ _ _ w.drew
    go_wp2
    go_ret
    exact ⟨_, rfl, HZ.out.1, HZ.out.2, .inl rfl⟩
set_option maxHeartbeats 4000000 in
theorem insGrow_P (base n g : Nat) (a b : List Nat) (x : Nat) (gx : Nat) (w : World) (hr : RowK kP w base (.slice (some ⟨g, 0, none⟩) n n) (a ++ b)) (hx : Blk w gx kP.e (kP.cs x).toArray) (hne : gx ≠ g) (hmax : n ≤ 1000) (hbl : 0 < b.length) (hb : base ≤ w.heap.size) :
    Calls Try.prog 51 #[.slice (some ⟨g, 0, none⟩) n n, .int .i64 a.length, .slice (some ⟨gx, 0, none⟩) 1 1] w (InsOut kP base (.slice (some ⟨g, 0, none⟩) n n) (a ++ x :: b) w) := by
  obtain ⟨hn, h0 | ⟨g', cur, e, hbg, hg, h1, h2, h3, h4⟩⟩ := hr.cases
  · cases h0.1
  · cases e
    obtain ⟨i, hi⟩ : ∃ i, i = a.length := ⟨_, rfl⟩
    obtain ⟨m, hm⟩ : ∃ m, m = b.length := ⟨_, rfl⟩
    have hnn : n = i + m := by rw [hn, hi, hm]; simp
    rw [← hm] at hbl
    have hla : (flatK kP a).length = i * kP.size := by rw [flat_length, hi]
    have hlx : (kP.cs x).length = kP.size := kP.len x
    have hlb : (flatK kP b).length = m * kP.size := by rw [flat_length, hm]
    have hnn' : (n + 1) * kP.size = i * kP.size + kP.size + m * kP.size := by rw [hnn]; simp only [show kP.size = 1 from rfl]; omega
    have hca : ∀ j v, (flatK kP a)[j]? = some v → w.cell? ((⟨g, 0, none⟩ : Addr).add j) = some v := fun j u hu => by
      obtain ⟨i', q, hi', rfl, hq⟩ := flat_get kP a j u hu
      have ht := hr.take (k := i) (by omega)
      rw [hi, List.take_left, ← hi] at ht
      obtain ⟨A', c', e, _, hrd⟩ := ht.rd0
      injection e with e1 _ _
      obtain ⟨b', off, e, hlt, hc⟩ := hrd (by omega)
      rw [← e1] at e
      injection e with e
      injection e with e1 e2 _
      subst e1 e2
      rw [Addr.add_mid, ← Nat.add_assoc]
      exact hc i' hi' q u hq
    have hcast : ((n + 1 - i : Nat) : Int) = (n : Int) + 1 - (i : Int) := by omega
    obtain ⟨c1, zs, w1, k1, k2, k3, k4, k5, k6⟩ := run_append_zerosK kP w 57 3 .i64 Try.underlying3 .i64 ⟨g, 0, none⟩ i n (n + 1 - i) (flatK kP a) hla hca (by omega) (by omega) (by omega)
    rw [hcast, show i + (n + 1 - i) = n + 1 by omega] at k1
    rw [show i + (n + 1 - i) = n + 1 by omega] at k2
    have hcs : (n + 1) * kP.size ≤ (flatK kP a ++ zs).length := by rw [k4]; exact Nat.mul_le_mul_right _ k2
    have e1 : (n - i).min (n + 1 - (i + 1)) = m := by show min _ _ = _; omega
    have e2 : Nat.min 1 (n + 1 - i) = 1 := by show min _ _ = _; omega
    have hx1 : Blk w1 gx kP.e (kP.cs x).toArray := hx.on k6
    have hxc : ∀ j v, (kP.cs x)[j]? = some v → w1.cell? ((⟨gx, 0, none⟩ : Addr).add j) = some v := fun j v hv => by
      rw [Addr.add_mid, Nat.zero_add, hx1.cell]; simpa using hv
    obtain ⟨w2, t1, t2, t3⟩ := run_copyK kP w1 3 (some ⟨w.heap.size, i * kP.size, none⟩) (some ⟨gx, 0, none⟩) (n + 1 - i) (c1 - i) 1 1 w.heap.size (i * kP.size) (flatK kP a ++ zs) (kP.cs x) k5
      (by rw [hlx, e2, Nat.one_mul]) (fun _ => ⟨rfl, _, rfl, hxc⟩) (by rw [hlx]; simp only [show kP.size = 1 from rfl] at hcs ⊢; omega) (kP.one x)
    have hs1 : (splice (flatK kP a ++ zs) (i * kP.size) (kP.cs x)).length = (flatK kP a ++ zs).length := length_splice _ _ _ (by rw [hlx]; simp only [show kP.size = 1 from rfl] at hcs ⊢; omega)
    have hd : RdK kP w w.heap.size (some ⟨g, i * kP.size, none⟩) b := by
      have := hr.from_ i
      rwa [hi, List.drop_left, ← hi] at this
    have hlt : g < w.heap.size := hg.lt
    have hgg : w2.heap[g]? = w.heap[g]? := (t3.block g (Nat.lt_of_lt_of_le hlt k6.size) (fun e => by injection e with e; omega)).trans (k6.block g hlt)
    have hcell : ∀ j u, (flatK kP b)[j]? = some u → w2.drew.cell? ((⟨g, i * kP.size, none⟩ : Addr).add j) = some u := fun j u hu => by
      obtain ⟨i', q, hi', rfl, hq⟩ := flat_get kP b j u hu
      obtain ⟨b', off, e, hlt, hc⟩ := hd (by omega)
      injection e with e
      injection e with e1 e2 _
      subst e1 e2
      rw [Addr.add_mid, ← Nat.add_assoc]
      exact (World.cell?_of_block (w := w) (w' := w2.drew) (a := ⟨g, _, none⟩) hgg).trans (hc i' hi' q u hq)
    obtain ⟨w3, r1, r2, r3⟩ := run_copyK kP w2.drew 3 (some ⟨w.heap.size, (i + 1) * kP.size, none⟩) (some ⟨g, i * kP.size, none⟩) (n + 1 - (i + 1)) (c1 - (i + 1)) (n - i) (n - i) w.heap.size ((i + 1) * kP.size) _ (flatK kP b) t2
      (by rw [hlb, e1]) (fun _ => ⟨rfl, _, rfl, hcell⟩) (by rw [hs1, hlb]; simp only [show kP.size = 1 from rfl] at hcs ⊢; omega) (flat_one kP b)
    have hout : RowK kP w3 base (.slice (some ⟨w.heap.size, 0, none⟩) (n + 1) c1) (a ++ x :: b) := by
      have hl : (a ++ x :: b).length = n + 1 := by simp; omega
      rw [← hl]
      refine RowK.mk' hb r2 (by omega) k3 (by rw [length_splice _ _ _ (by rw [hs1, hlb]; simp only [show kP.size = 1 from rfl] at hcs ⊢; omega), hs1, k4]) ?_
      have := splice_ins2 (flatK kP a ++ zs) (flatK kP a) (kP.cs x) (flatK kP b) (by rw [List.take_left]) (by rw [hla, hlx, hlb, ← hnn']; exact hcs)
      rw [hla, hlx, hlb, ← hnn', show i * kP.size + kP.size = (i + 1) * kP.size by rw [Nat.add_mul, Nat.one_mul]] at this
      rw [hl, this, show flatK kP (a ++ x :: b) = flatK kP a ++ (kP.cs x ++ flatK kP b) by simp [flatK]]
    have hgr : w.grownBy w3 (some g) := by
      refine ⟨?_, ?_, ?_, ?_, ?_⟩
      · exact r3.os.trans (t3.os.trans k6.os)
      · exact r3.tape.trans (t3.tape.trans k6.tape)
      · exact r3.output.trans (t3.output.trans k6.output)
      · exact Nat.le_trans k6.size (Nat.le_trans t3.size r3.size)
      · exact fun k hk hne => (r3.block k (Nat.lt_of_lt_of_le hk (Nat.le_trans k6.size t3.size)) (fun e => by injection e with e; omega)).trans ((t3.block k (Nat.lt_of_lt_of_le hk k6.size) (fun e => by injection e with e; omega)).trans (k6.block k hk))
    rw [e1, show n + 1 - (i + 1) = n - i by omega] at r1
    rw [e2] at t1
    simp only [show kP.size = 1 from rfl, Nat.mul_one] at r1 t1
    simp only [show kP.st = 57 from rfl] at r1 t1 k1
    have HK := Lib.hid k1
    have HZ := Lib.hid (And.intro hout hgr)
    obtain ⟨g1, hg1⟩ : ∃ g1, g1 = w.heap.size := ⟨_, rfl⟩
    have hfr : w.heap.size ≤ g1 := by omega
    rw [← hg1] at r1 t1 HK HZ
    have HG := Lib.hid hfr
    have f0 : c1 ≤ 9223372036854775807 := by unfold maxLen at k3; omega
    have f1 : (i : Int) ≤ (n : Int) := by omega
    have f2 : i ≤ n := by omega
    have f3 : ¬ (i : Int) = (n : Int) := by omega
    have f4 : ((n : Int) < (n : Int) + 1) := by omega
    have f5 : (i : Int) + 1 ≤ (n : Int) + 1 := by omega
    have f6 : ¬ c1 = i := by omega
    have f7 : ¬ c1 = i + 1 := by omega
    have f8 : (n : Int) + 1 ≤ (c1 : Int) := by omega
    have f9 : (i : Int) ≤ (n : Int) + 1 := by omega
    have f10 : (0 : Int) ≤ (n : Int) + 1 := by omega
    have f11 : (0 : Int) ≤ (i : Int) + 1 := by omega
    have f12 : IntKind.i64.wrap ((i : Int) + 1) = (i : Int) + 1 := by rw [IntKind.wrap_i64]; omega
    have f13 : ((i : Int) + 1).toNat = i + 1 := by omega
    have f14 : ¬ n = i := by omega
    rw [← hi]
    clear hr hd hcell hx hx1 hxc hg h2 h3 h4 hn hi hm hnn r2 r3 t2 t3 hout hgr hla hlx hlb hcs hnn' hs1 e1 e2 k1 k2 k3 k4 k5 k6 hca hcast hlt hgg hg1 hfr
    go_enter Try.func51, Try.ntmps51
    go_upto_region 9 with fail
    go_upto_region 10 with (at_builtin; refine wpList_ap rfl (.tmp 34) (.tmp 39) 57 3 rfl _ _ rfl rfl HK.out ?_)
    go_upto_region 11 with fail
    go_still_tail 8, (by kernel_rfl)
    change wpList _ _ _ _ _ w2.drew
    go_wp2
    go_ret
    exact ⟨_, rfl, HZ.out.1, HZ.out.2, .inr ⟨_, rfl, HG.out⟩⟩
/-- slices.Insert of one element. -/
theorem ins_P (base n c : Nat) (A : Option Addr) (a b : List Nat) (x : Nat) (gx : Nat) (w : World) (hr : RowK kP w base (.slice A n c) (a ++ b)) (hx : Blk w gx kP.e (kP.cs x).toArray) (hne : (Value.slice A n c).ownBlock ≠ some gx) (hmax : n ≤ 1000) (hb : base ≤ w.heap.size) :
    Calls Try.prog 51 #[.slice A n c, .int .i64 a.length, .slice (some ⟨gx, 0, none⟩) 1 1] w (InsOut kP base (.slice A n c) (a ++ x :: b) w) := by
  rcases Nat.eq_zero_or_pos b.length with h0 | hp
  · obtain rfl : b = [] := List.eq_nil_of_length_eq_zero h0
    have hn : n = a.length := by have := hr.cases.1; simpa using this
    rw [List.append_nil] at hr
    have := insEnd_P base n c A a x gx w hr hx hmax hb
    rwa [hn] at this ⊢
  · obtain ⟨hn, h0 | ⟨g, cur, rfl, hbg, hg, h1, h2, h3, h4⟩⟩ := hr.cases
    · simp at hn; omega
    · have hne' : gx ≠ g := fun e => hne (by rw [e]; rfl)
      by_cases hroom : n + 1 ≤ c
      · exact insRoom_P base n c g a b x gx w hr hx hne' hmax hp hroom
      · have : c = n := by omega
        subst this
        exact insGrow_P base c g a b x gx w hr hx hne' hmax hp hb
end Go.Proofs.Ytgjcomnljonffaa.Tlv
