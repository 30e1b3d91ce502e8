/- A log, by the program and by the document, as it lies; what keeps it. -/
import Derived.Test.YtniaijgejljjbaaGreatY34
namespace Go.Proofs.YtniaijgejljjbaaGreat.Tlv
open Go.RowKit
set_option maxRecDepth 100000
set_option linter.unusedVariables false
set_option linter.unusedSimpArgs false
structure Mq where
 c : Int
 n : Int
 o : Opn
def Rq.m (x : Rq) : Mq := ⟨x.c, x.n, x.o⟩
def Mq.sz (m : Mq) : Nat := szQ m.c m.n m.o
def sumM (l : List Mq) : Nat := (l.map Mq.sz).sum
def means (l : List Rq) : List Mq := l.map Rq.m
structure Mq.Ok (m : Mq) : Prop where
 c : 0 ≤ m.c ∧ m.c < 18446744073709551616
 n : 0 ≤ m.n ∧ m.n < 18446744073709551616
 lim : Lim m.o
 cur : m.o.cur.length ≤ 1000000000
structure Mq.Good (m : Mq) : Prop where
 ok : m.Ok
 may : mayO m.o = true
theorem Mq.Good.few {m : Mq} (h : m.Good) : m.sz ≤ 300000 := rqB_few h.may
theorem sumM_nil : sumM [] = 0 := rfl
theorem sumM_snoc (l : List Mq) (m : Mq) : sumM (l ++ [m]) = sumM l + m.sz := by simp [sumM]
theorem sumM_app (l k : List Mq) : sumM (l ++ k) = sumM l + sumM k := by simp [sumM]
theorem sumM_few {l : List Mq} (h : ∀ m ∈ l, m.Good) : sumM l ≤ 300000 * l.length := by
 induction l with
 | nil => simp [sumM]
 | cons x t ih =>
   have h1 := ih (fun m hm => h m (List.mem_cons_of_mem _ hm))
   have h2 := (h x (List.mem_cons_self ..)).few
   have h3 : sumM (x :: t) = x.sz + sumM t := by simp [sumM]
   rw [h3, List.length_cons, Nat.mul_add, Nat.mul_one]
   omega
theorem sumM_take (l : List Mq) (i : Nat) : sumM (l.take i) + sumM (l.drop i) = sumM l := by rw [← sumM_app, List.take_append_drop]
structure Spc where
 N : Nat
 S : Nat → Nat → Prop
def Spc.ok (s : Spc) (b j : Nat) : Prop := s.N ≤ b ∨ s.S b j
def SpOk (sp : Spc) (A : Option Addr) (n c : Nat) : Prop := ∀ b off, A = some ⟨b, off, none⟩ → ∀ j, off + n * 10 ≤ j → j < off + c * 10 → sp.ok b j
structure FrT (sp : Spc) (n0 : Nat) (T : Nat → TypeId → Prop) (w w' : World) : Prop where
 bel : Below n0 w w'
 typ : ∀ b t cs, ¬ T b t → Blk w b t cs → Blk w' b t cs
 arr : ∀ b cur, Blk w b 61 cur → ∃ cur', Blk w' b 61 cur' ∧ cur.size = cur'.size ∧ ∀ j, ¬ sp.ok b j → cur'[j]? = cur[j]?
def TP (g : Nat) (b : Nat) (t : TypeId) : Prop := (b = g ∧ t = 65) ∨ t = 61
def TQ (r : Nat) (b : Nat) (t : TypeId) : Prop := b = r ∧ t = 36
def TN (b : Nat) (t : TypeId) : Prop := False
theorem FrT.of {sp : Spc} {n0 : Nat} {T : Nat → TypeId → Prop} {w w' : World} (hb : Below w.heap.size w w') (h : n0 ≤ w.heap.size) : FrT sp n0 T w w' := ⟨hb.mono h, fun b t cs _ hk => hk.on hb, fun b cur hk => ⟨cur, hk.on hb, rfl, fun _ _ => rfl⟩⟩
theorem FrT.trans {sp : Spc} {n0 : Nat} {T : Nat → TypeId → Prop} {a b c : World} (h : FrT sp n0 T a b) (h2 : FrT sp n0 T b c) : FrT sp n0 T a c := ⟨h.bel.trans h2.bel, fun k t cs ht hk => h2.typ k t cs ht (h.typ k t cs ht hk), fun k cur hk => by
 obtain ⟨c1, k1, e1, h1⟩ := h.arr k cur hk
 obtain ⟨c2, k2, e2, h3⟩ := h2.arr k c1 k1
 exact ⟨c2, k2, e1.trans e2, fun j hj => (h3 j hj).trans (h1 j hj)⟩⟩
theorem FrT.wide {sp : Spc} {n0 : Nat} {T T' : Nat → TypeId → Prop} {a b : World} (h : FrT sp n0 T a b) (hT : ∀ b t, T b t → T' b t) : FrT sp n0 T' a b := ⟨h.bel, fun k t cs ht hk => h.typ k t cs (fun e => ht (hT k t e)) hk, h.arr⟩
theorem OpOwn.frT {sp : Spc} {n0 base : Nat} {T : Nat → TypeId → Prop} {w w' : World} {o : Opn} {va vp vc : Value} (h : OpOwn w base o va vp vc) (hf : FrT sp n0 T w w') (h1 : ∀ b, ¬ T b 99) (h2 : ∀ b, ¬ T b 9) (h3 : ∀ b, ¬ T b 5) : OpOwn w' base o va vp vc :=
 ⟨RowK.fit h.a fun k e => by
   obtain ⟨_, _, cs, hk⟩ := own_at h.a e
   exact (hf.typ k 99 cs (h1 k) hk).trans hk.symm,
  RowK.fitT h.p fun k e => by
   obtain ⟨_, _, cs, hk⟩ := own_atT h.p e
   exact (hf.typ k 9 cs (h2 k) hk).trans hk.symm,
  RowK.fitT h.c fun k e => by
   obtain ⟨_, _, cs, hk⟩ := own_atT h.c e
   exact (hf.typ k 5 cs (h3 k) hk).trans hk.symm⟩
structure LogP (sp : Spc) (n0 : Nat) (w : World) (g B : Nat) (P : List Rq) : Prop where
 st : ∃ A n c, Blk w g 65 #[.bool true, .int .u64 B, .slice A n c, .int .i64 (sumM (means P) : Nat)] ∧ OffK kIt w n0 A n c P ∧ SpOk sp A n c
 own : ∀ x ∈ P, OpOwn w n0 x.o x.va x.vp x.vc
 low : n0 ≤ g
 good : ∀ m ∈ means P, m.Good
 spn : sp.N ≤ w.heap.size
theorem LogP.frT {sp sp' : Spc} {n0 g B : Nat} {T : Nat → TypeId → Prop} {w w' : World} {P : List Rq} (h : LogP sp n0 w g B P) (hf : FrT sp' n0 T w w') (h1 : ∀ b, ¬ T b 99) (h2 : ∀ b, ¬ T b 9) (h3 : ∀ b, ¬ T b 5) (h4 : ∀ b, ¬ T b 65) (h5 : ∀ b, ¬ T b 61) : LogP sp n0 w' g B P := by
 obtain ⟨⟨A, n, c, hk, ho, hs⟩, h6, h7, h8, h9⟩ := h
 exact ⟨⟨A, n, c, hf.typ _ _ _ (h4 _) hk, ho.keep hf.bel.size fun b cs hb => hf.typ _ _ _ (h5 _) hb, hs⟩, fun x hx => (h6 x hx).frT hf h1 h2 h3, h7, h8, Nat.le_trans h9 hf.bel.size⟩
theorem LogP.on {sp : Spc} {n0 g B : Nat} {w w' : World} {P : List Rq} (h : LogP sp n0 w g B P) (hb : Below w.heap.size w w') (hn : n0 ≤ w.heap.size) : LogP sp n0 w' g B P :=
 h.frT (sp' := sp) (T := TN) (FrT.of hb hn) (fun _ => id) (fun _ => id) (fun _ => id) (fun _ => id) (fun _ => id)
theorem LogP.onQ {sp sp' : Spc} {n0 g r B : Nat} {w w' : World} {P : List Rq} (h : LogP sp n0 w g B P) (hf : FrT sp' n0 (TQ r) w w') : LogP sp n0 w' g B P :=
 h.frT hf (by intro b; simp [TQ]) (by intro b; simp [TQ]) (by intro b; simp [TQ]) (by intro b; simp [TQ]) (by intro b; simp [TQ])
theorem LogP.other {sp sp' : Spc} {n0 g g' B : Nat} {w w' : World} {P : List Rq} (h : LogP sp n0 w g B P) (hf : FrT sp' n0 (TP g') w w') (hg : g ≠ g') (ha : ∀ A n c z, Blk w g 65 #[.bool true, .int .u64 B, .slice A n c, z] → ∀ b off, A = some ⟨b, off, none⟩ → ∀ j, off ≤ j → j < off + n * 10 → ¬ sp'.ok b j) : LogP sp n0 w' g B P := by
 obtain ⟨⟨A, n, c, hk, ho, hs⟩, h6, h7, h8, h9⟩ := h
 have hA := ha A n c _ hk
 refine ⟨⟨A, n, c, hf.typ _ _ _ (by simp [TP, hg]) hk, ⟨ho.len, ho.le, ho.cap, ho.nil0, fun a e => ?_, fun hp => ?_⟩, hs⟩, fun x hx => (h6 x hx).frT hf (by intro b; simp [TP]) (by intro b; simp [TP]) (by intro b; simp [TP]), h7, h8, Nat.le_trans h9 hf.bel.size⟩
 · obtain ⟨b, off, cur, e1, h1, h2, h3⟩ := ho.blk a e
   obtain ⟨cur', k1, e2, _⟩ := hf.arr b cur h2
   exact ⟨b, off, cur', e1, h1, k1, by rw [← e2]; exact h3⟩
 · obtain ⟨b, off, e, hlt, hc⟩ := ho.rd hp
   obtain ⟨b2, off2, cur, e1, h1, h2, h3⟩ := ho.blk _ e
   cases e1
   obtain ⟨cur', k1, e2, e3⟩ := hf.arr b cur h2
   refine ⟨b, off, e, Nat.lt_of_lt_of_le hlt hf.bel.size, fun j hj i u hu => ?_⟩
   have hi : i < 10 := by
     have := (List.getElem?_eq_some_iff.1 hu).1
     rwa [kIt.len] at this
   have h10 : kIt.size = 10 := rfl
   have hln := ho.len
   rw [k1.cell, e3 _ (hA b off e _ (by omega) (by rw [h10]; omega)), ← h2.cell]
   exact hc j hj i u hu
def RdS (n0 : Nat) (w : World) (A : Option Addr) (l : List Rq) : Prop := 0 < l.length → ∃ b off, A = some ⟨b, off, none⟩ ∧ b < w.heap.size ∧ (b < n0 ∨ ∃ cs, Blk w b 46 cs) ∧ ∀ j, j < l.length → ∀ (i : Nat) (u : Value), (rqL (l.getD j default))[i]? = some u → w.cell? ⟨b, off + j * 9 + i, none⟩ = some u
theorem RdS.rd {n0 : Nat} {w : World} {A : Option Addr} {l : List Rq} (h : RdS n0 w A l) : RdK kRq w w.heap.size A l := fun hp => by
 obtain ⟨b, off, e, h1, _, h2⟩ := h hp
 exact ⟨b, off, e, h1, h2⟩
theorem RdS.frT {sp : Spc} {n0 : Nat} {T : Nat → TypeId → Prop} {w w' : World} {A : Option Addr} {l : List Rq} (h : RdS n0 w A l) (hf : FrT sp n0 T w w') (h1 : ∀ b, ¬ T b 46) : RdS n0 w' A l := fun hp => by
 obtain ⟨b, off, e, h2, h3, h4⟩ := h hp
 refine ⟨b, off, e, Nat.lt_of_lt_of_le h2 hf.bel.size, ?_, ?_⟩
 · rcases h3 with h3 | ⟨cs, h3⟩
   · exact .inl h3
   · exact .inr ⟨cs, hf.typ _ _ _ (h1 _) h3⟩
 · intro j hj i u hu
   have h5 := h4 j hj i u hu
   rcases h3 with h3 | ⟨cs, h3⟩
   · rw [hf.bel.cell (p := ⟨b, off + j * 9 + i, none⟩) h3]; exact h5
   · rw [(hf.typ _ _ _ (h1 _) h3).cell, ← h3.cell]; exact h5
theorem RdS.take {n0 : Nat} {w : World} {A : Option Addr} {l : List Rq} (h : RdS n0 w A l) (i : Nat) : RdS n0 w A (l.take i) := fun hp => by
 rw [List.length_take] at hp
 obtain ⟨b, off, e, h1, h2, h3⟩ := h (by omega)
 refine ⟨b, off, e, h1, h2, fun j hj q u hu => h3 j (by rw [List.length_take] at hj; omega) q u ?_⟩
 rw [List.length_take] at hj
 rw [List.getD_eq_getElem?_getD, List.getElem?_take_of_lt (by omega), ← List.getD_eq_getElem?_getD] at hu
 exact hu
theorem RdS.drop {n0 : Nat} {w : World} {b off : Nat} {l : List Rq} (h : RdS n0 w (some ⟨b, off, none⟩) l) (i : Nat) : RdS n0 w (some ⟨b, off + i * 9, none⟩) (l.drop i) := fun hp => by
 rw [List.length_drop] at hp
 obtain ⟨b', off', e, h1, h2, h3⟩ := h (by omega)
 cases e
 refine ⟨b, off + i * 9, rfl, h1, h2, fun j hj q u hu => ?_⟩
 rw [List.length_drop] at hj
 rw [List.getD_eq_getElem?_getD, List.getElem?_drop, ← List.getD_eq_getElem?_getD] at hu
 have := h3 (i + j) (by omega) q u hu
 rwa [Nat.add_mul, ← Nat.add_assoc] at this
theorem RdS.none (n0 : Nat) (w : World) (A : Option Addr) : RdS n0 w A [] := fun h => by simp at h
structure LogQ (n0 : Nat) (w0 w : World) (r B : Nat) (R : List Rq) : Prop where
 st : ∃ A n c, Blk w r 36 #[.int .u64 B, .slice A n c] ∧ n = R.length ∧ ((A = none → c = 0) ∧ n ≤ c ∧ c ≤ maxLen) ∧ (∀ a, A = some a → a.spot = none) ∧ RdS n0 w A R
 at_ : ∀ x ∈ R, OpAt w0 x.o x.va x.vp x.vc
 low : n0 ≤ r
 good : ∀ m ∈ means R, m.Good
theorem LogQ.frT {sp : Spc} {n0 r B : Nat} {T : Nat → TypeId → Prop} {w0 w w' : World} {R : List Rq} (h : LogQ n0 w0 w r B R) (hf : FrT sp n0 T w w') (h1 : ∀ b, ¬ T b 46) (h2 : ¬ T r 36) : LogQ n0 w0 w' r B R := by
 obtain ⟨⟨A, n, c, hk, h3, h4, h5, h6⟩, h7, h8, h9⟩ := h
 exact ⟨⟨A, n, c, hf.typ _ _ _ h2 hk, h3, h4, h5, h6.frT hf h1⟩, h7, h8, h9⟩
abbrev spA : Spc := ⟨0, fun _ _ => True⟩
theorem LogQ.on {n0 r B : Nat} {w0 w w' : World} {R : List Rq} (h : LogQ n0 w0 w r B R) (hb : Below w.heap.size w w') (hn : n0 ≤ w.heap.size) : LogQ n0 w0 w' r B R :=
 h.frT (sp := spA) (T := TN) (FrT.of hb hn) (fun _ => id) id
theorem LogQ.onP {sp : Spc} {n0 r g B : Nat} {w0 w w' : World} {R : List Rq} (h : LogQ n0 w0 w r B R) (hf : FrT sp n0 (TP g) w w') : LogQ n0 w0 w' r B R :=
 h.frT hf (by intro b; simp [TP]) (by simp [TP])
theorem LogQ.other {sp : Spc} {n0 r r' B : Nat} {w0 w w' : World} {R : List Rq} (h : LogQ n0 w0 w r B R) (hf : FrT sp n0 (TQ r') w w') (hr : r ≠ r') : LogQ n0 w0 w' r B R :=
 h.frT hf (by intro b; simp [TQ]) (by simp [TQ, hr])
theorem means_len (l : List Rq) : (means l).length = l.length := by simp [means]
theorem means_app (l k : List Rq) : means (l ++ k) = means l ++ means k := by simp [means]
theorem means_take (l : List Rq) (i : Nat) : means (l.take i) = (means l).take i := by simp [means, List.map_take]
theorem means_drop (l : List Rq) (i : Nat) : means (l.drop i) = (means l).drop i := by simp [means, List.map_drop]
theorem means_at {P R : List Rq} (h : means P = means R) {i : Nat} (hi : i < P.length) : (P.getD i default).m = (R.getD i default).m := by
 have hl : P.length = R.length := by rw [← means_len, h, means_len]
 have h1 : (means P)[i]? = (means R)[i]? := by rw [h]
 unfold means at h1
 rw [List.getElem?_map, List.getElem?_map, List.getElem?_eq_getElem hi, List.getElem?_eq_getElem (hl ▸ hi)] at h1
 rw [List.getD_eq_getElem?_getD, List.getD_eq_getElem?_getD, List.getElem?_eq_getElem hi, List.getElem?_eq_getElem (hl ▸ hi)]
 simpa using h1
end Go.Proofs.YtniaijgejljjbaaGreat.Tlv
