/- A log, by the program and by the document, as it lies; what keeps it. -/
import Derived.Test.YtniaijgejljjbaaY38
import Derived.RegionTactic
import Derived.ChangeAlike
namespace Go.Proofs.Ytniaijgejljjbaa.Tlv
open Go.RowKit
set_option maxRecDepth 100000
set_option linter.unusedVariables false
set_option linter.unusedSimpArgs false
structure Mq where
 c : Int
 n : Int
 o : Opn
def Rq.m (x : Rq) : Mq := ⟨x.c, x.n, x.o⟩
def Mq.sz (m : Mq) : Nat := szQ m.c m.n m.o
def sumM (l : List Mq) : Nat := (l.map Mq.sz).sum
def means (l : List Rq) : List Mq := l.map Rq.m
structure Mq.Ok (m : Mq) : Prop where
 c : 0 ≤ m.c ∧ m.c < 18446744073709551616
 n : 0 ≤ m.n ∧ m.n < 18446744073709551616
 lim : Lim m.o
 cur : m.o.cur.length ≤ 1000000000
structure Mq.Good (m : Mq) : Prop where
 ok : m.Ok
 may : mayO m.o = true
theorem Mq.Good.few {m : Mq} (h : m.Good) : m.sz ≤ 300000 := rqB_few h.may
theorem sumM_nil : sumM [] = 0 := rfl
theorem sumM_snoc (l : List Mq) (m : Mq) : sumM (l ++ [m]) = sumM l + m.sz := by simp [sumM]
theorem sumM_app (l k : List Mq) : sumM (l ++ k) = sumM l + sumM k := by simp [sumM]
theorem sumM_few {l : List Mq} (h : ∀ m ∈ l, m.Good) : sumM l ≤ 300000 * l.length := by
 induction l with
 | nil => simp [sumM]
 | cons x t ih =>
   have h1 := ih (fun m hm => h m (List.mem_cons_of_mem _ hm))
   have h2 := (h x (List.mem_cons_self ..)).few
   have h3 : sumM (x :: t) = x.sz + sumM t := by simp [sumM]
   rw [h3, List.length_cons, Nat.mul_add, Nat.mul_one]
   omega
theorem sumM_take (l : List Mq) (i : Nat) : sumM (l.take i) + sumM (l.drop i) = sumM l := by rw [← sumM_app, List.take_append_drop]
structure FrT (n0 : Nat) (T : TypeId → Prop) (w w' : World) : Prop where
 bel : Below n0 w w'
 typ : ∀ b t cs, ¬ T t → Blk w b t cs → Blk w' b t cs
def TP (t : TypeId) : Prop := t = 54 ∨ t = 66
def TQ (t : TypeId) : Prop := t = 71
def TN (t : TypeId) : Prop := False
theorem FrT.of {n0 : Nat} {T : TypeId → Prop} {w w' : World} (hb : Below w.heap.size w w') (h : n0 ≤ w.heap.size) : FrT n0 T w w' := ⟨hb.mono h, fun b t cs _ hk => hk.on hb⟩
theorem FrT.trans {n0 : Nat} {T : TypeId → Prop} {a b c : World} (h : FrT n0 T a b) (h2 : FrT n0 T b c) : FrT n0 T a c := ⟨h.bel.trans h2.bel, fun k t cs ht hk => h2.typ k t cs ht (h.typ k t cs ht hk)⟩
theorem FrT.wide {n0 : Nat} {T T' : TypeId → Prop} {a b : World} (h : FrT n0 T a b) (hT : ∀ t, T t → T' t) : FrT n0 T' a b := ⟨h.bel, fun k t cs ht hk => h.typ k t cs (fun e => ht (hT t e)) hk⟩
theorem OpOwn.frT {n0 base : Nat} {T : TypeId → Prop} {w w' : World} {o : Opn} {va vp vc : Value} (h : OpOwn w base o va vp vc) (hf : FrT n0 T w w') (h1 : ¬ T 100) (h2 : ¬ T 9) (h3 : ¬ T 5) : OpOwn w' base o va vp vc :=
 ⟨RowK.fit h.a fun k e => by
   obtain ⟨_, _, cs, hk⟩ := own_at h.a e
   exact (hf.typ k 100 cs h1 hk).trans hk.symm,
  RowK.fitT h.p fun k e => by
   obtain ⟨_, _, cs, hk⟩ := own_atT h.p e
   exact (hf.typ k 9 cs h2 hk).trans hk.symm,
  RowK.fitT h.c fun k e => by
   obtain ⟨_, _, cs, hk⟩ := own_atT h.c e
   exact (hf.typ k 5 cs h3 hk).trans hk.symm⟩
structure LogP (n0 : Nat) (w : World) (g B : Nat) (P : List Rq) : Prop where
 st : ∃ A n c, Blk w g 54 #[.bool true, .int .u64 B, .slice A n c, .int .i64 (sumM (means P) : Nat)] ∧ OffK kIt w n0 A n c P
 own : ∀ x ∈ P, OpOwn w n0 x.o x.va x.vp x.vc
 low : n0 ≤ g
 good : ∀ m ∈ means P, m.Good
theorem LogP.frT {n0 g B : Nat} {T : TypeId → Prop} {w w' : World} {P : List Rq} (h : LogP n0 w g B P) (hf : FrT n0 T w w') (h1 : ¬ T 100) (h2 : ¬ T 9) (h3 : ¬ T 5) (h4 : ¬ T 54) (h5 : ¬ T 66) : LogP n0 w' g B P := by
 obtain ⟨⟨A, n, c, hk, ho⟩, h6, h7, h8⟩ := h
 exact ⟨⟨A, n, c, hf.typ _ _ _ h4 hk, ho.keep hf.bel.size fun b cs hb => hf.typ _ _ _ h5 hb⟩, fun x hx => (h6 x hx).frT hf h1 h2 h3, h7, h8⟩
theorem LogP.on {n0 g B : Nat} {w w' : World} {P : List Rq} (h : LogP n0 w g B P) (hb : Below w.heap.size w w') (hn : n0 ≤ w.heap.size) : LogP n0 w' g B P :=
 h.frT (T := TN) (FrT.of hb hn) id id id id id
theorem LogP.onQ {n0 g B : Nat} {w w' : World} {P : List Rq} (h : LogP n0 w g B P) (hf : FrT n0 TQ w w') : LogP n0 w' g B P :=
 h.frT hf (by unfold TQ; decide) (by unfold TQ; decide) (by unfold TQ; decide) (by unfold TQ; decide) (by unfold TQ; decide)
def RdS (n0 : Nat) (w : World) (A : Option Addr) (l : List Rq) : Prop := 0 < l.length → ∃ b off, A = some ⟨b, off, none⟩ ∧ b < w.heap.size ∧ (b < n0 ∨ ∃ cs, Blk w b 42 cs) ∧ ∀ j, j < l.length → ∀ (i : Nat) (u : Value), (rqL (l.getD j default))[i]? = some u → w.cell? ⟨b, off + j * 9 + i, none⟩ = some u
theorem RdS.rd {n0 : Nat} {w : World} {A : Option Addr} {l : List Rq} (h : RdS n0 w A l) : RdK kRq w w.heap.size A l := fun hp => by
 obtain ⟨b, off, e, h1, _, h2⟩ := h hp
 exact ⟨b, off, e, h1, h2⟩
theorem RdS.frT {n0 : Nat} {T : TypeId → Prop} {w w' : World} {A : Option Addr} {l : List Rq} (h : RdS n0 w A l) (hf : FrT n0 T w w') (h1 : ¬ T 42) : RdS n0 w' A l := fun hp => by
 obtain ⟨b, off, e, h2, h3, h4⟩ := h hp
 refine ⟨b, off, e, Nat.lt_of_lt_of_le h2 hf.bel.size, ?_, ?_⟩
 · rcases h3 with h3 | ⟨cs, h3⟩
   · exact .inl h3
   · exact .inr ⟨cs, hf.typ _ _ _ h1 h3⟩
 · intro j hj i u hu
   have h5 := h4 j hj i u hu
   rcases h3 with h3 | ⟨cs, h3⟩
   · rw [hf.bel.cell (p := ⟨b, off + j * 9 + i, none⟩) h3]; exact h5
   · rw [(hf.typ _ _ _ h1 h3).cell, ← h3.cell]; exact h5
theorem RdS.take {n0 : Nat} {w : World} {A : Option Addr} {l : List Rq} (h : RdS n0 w A l) (i : Nat) : RdS n0 w A (l.take i) := fun hp => by
 rw [List.length_take] at hp
 obtain ⟨b, off, e, h1, h2, h3⟩ := h (by omega)
 refine ⟨b, off, e, h1, h2, fun j hj q u hu => h3 j (by rw [List.length_take] at hj; omega) q u ?_⟩
 rw [List.length_take] at hj
 rw [List.getD_eq_getElem?_getD, List.getElem?_take_of_lt (by omega), ← List.getD_eq_getElem?_getD] at hu
 exact hu
theorem RdS.drop {n0 : Nat} {w : World} {b off : Nat} {l : List Rq} (h : RdS n0 w (some ⟨b, off, none⟩) l) (i : Nat) : RdS n0 w (some ⟨b, off + i * 9, none⟩) (l.drop i) := fun hp => by
 rw [List.length_drop] at hp
 obtain ⟨b', off', e, h1, h2, h3⟩ := h (by omega)
 cases e
 refine ⟨b, off + i * 9, rfl, h1, h2, fun j hj q u hu => ?_⟩
 rw [List.length_drop] at hj
 rw [List.getD_eq_getElem?_getD, List.getElem?_drop, ← List.getD_eq_getElem?_getD] at hu
 have := h3 (i + j) (by omega) q u hu
 rwa [Nat.add_mul, ← Nat.add_assoc] at this
theorem RdS.none (n0 : Nat) (w : World) (A : Option Addr) : RdS n0 w A [] := fun h => by simp at h
structure LogQ (n0 : Nat) (w0 w : World) (r B : Nat) (R : List Rq) : Prop where
 st : ∃ A n c, Blk w r 71 #[.int .u64 B, .slice A n c] ∧ n = R.length ∧ ((A = none → c = 0) ∧ n ≤ c ∧ c ≤ maxLen) ∧ (∀ a, A = some a → a.spot = none) ∧ RdS n0 w A R
 at_ : ∀ x ∈ R, OpAt w0 x.o x.va x.vp x.vc
 low : n0 ≤ r
 good : ∀ m ∈ means R, m.Good
theorem LogQ.frT {n0 r B : Nat} {T : TypeId → Prop} {w0 w w' : World} {R : List Rq} (h : LogQ n0 w0 w r B R) (hf : FrT n0 T w w') (h1 : ¬ T 42) (h2 : ¬ T 71) : LogQ n0 w0 w' r B R := by
 obtain ⟨⟨A, n, c, hk, h3, h4, h5, h6⟩, h7, h8, h9⟩ := h
 exact ⟨⟨A, n, c, hf.typ _ _ _ h2 hk, h3, h4, h5, h6.frT hf h1⟩, h7, h8, h9⟩
theorem LogQ.on {n0 r B : Nat} {w0 w w' : World} {R : List Rq} (h : LogQ n0 w0 w r B R) (hb : Below w.heap.size w w') (hn : n0 ≤ w.heap.size) : LogQ n0 w0 w' r B R :=
 h.frT (T := TN) (FrT.of hb hn) id id
theorem LogQ.onP {n0 r B : Nat} {w0 w w' : World} {R : List Rq} (h : LogQ n0 w0 w r B R) (hf : FrT n0 TP w w') : LogQ n0 w0 w' r B R :=
 h.frT hf (by unfold TP; decide) (by unfold TP; decide)
theorem means_len (l : List Rq) : (means l).length = l.length := by simp [means]
theorem means_app (l k : List Rq) : means (l ++ k) = means l ++ means k := by simp [means]
theorem means_take (l : List Rq) (i : Nat) : means (l.take i) = (means l).take i := by simp [means, List.map_take]
theorem means_drop (l : List Rq) (i : Nat) : means (l.drop i) = (means l).drop i := by simp [means, List.map_drop]
theorem means_at {P R : List Rq} (h : means P = means R) {i : Nat} (hi : i < P.length) : (P.getD i default).m = (R.getD i default).m := by
 have hl : P.length = R.length := by rw [← means_len, h, means_len]
 have h1 : (means P)[i]? = (means R)[i]? := by rw [h]
 unfold means at h1
 rw [List.getElem?_map, List.getElem?_map, List.getElem?_eq_getElem hi, List.getElem?_eq_getElem (hl ▸ hi)] at h1
 rw [List.getD_eq_getElem?_getD, List.getD_eq_getElem?_getD, List.getElem?_eq_getElem hi, List.getElem?_eq_getElem (hl ▸ hi)]
 simpa using h1
end Go.Proofs.Ytniaijgejljjbaa.Tlv
namespace Go.Proofs.Ytniaijgejljjbaa.Tlv
open Go.RowKit
set_option maxRecDepth 100000
set_option linter.unusedVariables false
set_option linter.unusedSimpArgs false
theorem blk_ne {w : World} {g g' : Nat} {t t' : TypeId} {cs cs' : Array Value} (h : Blk w g t cs) (h' : Blk w g' t' cs') (hne : t ≠ t') : g ≠ g' := fun e => by
 subst e
 unfold Blk at h h'
 rw [h] at h'
 injection h' with h'
 injection h' with _ h'
 exact hne h'
theorem blk_eq {w : World} {g : Nat} {t t' : TypeId} {cs cs' : Array Value} (h : Blk w g t cs) (h' : Blk w g t' cs') : cs = cs' := by
 unfold Blk at h h'
 rw [h] at h'
 injection h' with h'
 injection h' with h' _
section
variable {n0 : Nat} {T : TypeId → Prop} {w0 w w' : World}
theorem FrT.refl (hn : n0 ≤ w.heap.size) : FrT n0 T w w := FrT.of (Below.refl _ _) hn
theorem FrT.alloc (h : FrT n0 T w0 w) (hn : n0 ≤ w0.heap.size) (o : Obj) : FrT n0 T w0 (w.alloc o) := ⟨h.bel.alloc (Nat.le_trans hn h.bel.size) o, fun b t cs ht hk => (h.typ b t cs ht hk).alloc o⟩
theorem FrT.drewN (h : FrT n0 T w0 w) (n : Nat) : FrT n0 T w0 (w.drewN n) := ⟨below_drewN h.bel n, fun b t cs ht hk => h.typ b t cs ht hk⟩
theorem FrT.drew (h : FrT n0 T w0 w) : FrT n0 T w0 w.drew := ⟨below_drew h.bel, fun b t cs ht hk => h.typ b t cs ht hk⟩
theorem FrT.then_ (h : FrT n0 T w0 w) (hn : n0 ≤ w0.heap.size) (hb : Below w.heap.size w w') : FrT n0 T w0 w' := h.trans (FrT.of hb (Nat.le_trans hn h.bel.size))
theorem FrT.set {g i : Nat} {t : TypeId} {cs : Array Value} (h : FrT n0 T w0 w) (hk : Blk w g t cs) (ht : T t) (hg : n0 ≤ g) (u : Value) : FrT n0 T w0 (w.setCell ⟨g, i, none⟩ u) :=
 ⟨h.bel.setCell (p := ⟨g, i, none⟩) hg u, fun b t' cs' ht' hk' => (h.typ b t' cs' ht' hk').far (p := ⟨g, i, none⟩) (blk_ne (h.typ b t' cs' ht' hk') hk (fun e => ht' (by rw [e]; exact ht))) u⟩
theorem FrT.app {α : Type} [Inhabited α] {K : Kind α} {A : Option Addr} {n c : Nat} {l : List α} (h : FrT n0 T w0 w) (hO : OffK K w n0 A n c l) (hA : AppKept K w w' A n c) (hT : T K.e) (hn : n0 ≤ w0.heap.size) : FrT n0 T w0 w' := by
 have hbl : ∀ a, A = some a → ∃ cur, Blk w a.block K.e cur := fun a e => by
   obtain ⟨b, off, cur, rfl, _, h2, _⟩ := hO.blk a e
   exact ⟨cur, h2⟩
 refine ⟨h.bel.trans ((Below.refl n0 w).grown hA.grown (Nat.le_trans hn h.bel.size) (fun k hk => ?_)), fun b t cs ht hk => hA.typ hbl (h.typ b t cs ht hk) (fun e => ht (by rw [e]; exact hT))⟩
 cases A with
 | none => simp [Value.ownBlock] at hk
 | some a =>
   obtain ⟨b, off, cur, rfl, h1, _, _⟩ := hO.blk a rfl
   have : b = k := by simpa [Value.ownBlock] using hk
   omega
end
theorem OffK.alloc {α : Type} [Inhabited α] {K : Kind α} {w : World} {base : Nat} {A : Option Addr} {n c : Nat} {l : List α} (h : OffK K w base A n c l) (o : Obj) : OffK K (w.alloc o) base A n c l := h.on ((Below.refl _ _).alloc (Nat.le_refl _) _)
theorem OffK.drew {α : Type} [Inhabited α] {K : Kind α} {w : World} {base : Nat} {A : Option Addr} {n c : Nat} {l : List α} (h : OffK K w base A n c l) : OffK K w.drew base A n c l := h.on (below_drew (Below.refl _ _))
theorem OffK.setFar {α : Type} [Inhabited α] {K : Kind α} {w : World} {base : Nat} {A : Option Addr} {n c : Nat} {l : List α} (h : OffK K w base A n c l) {g i : Nat} {t : TypeId} {cs : Array Value} (hk : Blk w g t cs) (ht : t ≠ K.e) (u : Value) : OffK K (w.setCell ⟨g, i, none⟩ u) base A n c l :=
 h.keep (by simp [World.setCell]) fun b cs' hb => hb.far (p := ⟨g, i, none⟩) (blk_ne hb hk (fun e => ht e.symm)) u
theorem step_appO {α : Type} [Inhabited α] (K : Kind α) {w : World} {ops : Array Oper} {o : Oper} {a : Act} {Q : Exit → Act → World → Prop} {K' : Act → World → Prop} {E : Prop} (hgd : o.guard = none) (s x : Operand)
   (ho : o.op = .call { callee := .builtin .append, args := #[s, x], argTypes := #[K.st, K.st] })
   {base : Nat} {A : Option Addr} {n c : Nat} {l : List α} (hs : a.eval s = .slice A n c) (hO : OffK K w base A n c l) (x0 : α) {b cc : Nat} (hx : a.eval x = .slice (some ⟨b, 0, none⟩) 1 cc)
   (hc : Blk w b K.e (K.cs x0).toArray) (hn : n + 1 ≤ 1000000000) (hb : base ≤ w.heap.size)
   (h : ∀ A' n' c' w', Hid (n' = n + 1) → OffK K w' base A' n' c' (l ++ [x0]) → AppKept K w w' A n c → K' (a.put o.dst (.slice A' n' c')) w') :
   if Region.wanted o (yielded ops a.tmps) = true then Oper.wp Try.prog o a w K' Q else E := by
 have hw : Region.wanted o (yielded ops a.tmps) = true := by simp [Region.wanted, hgd]
 rw [if_pos hw]
 obtain ⟨A', c', w', h1, h2, h3⟩ := run_appO (cc := cc) o.type x0 hO (ad := ⟨b, 0, none⟩) (fun j u hu => by
   rw [Addr.add_lit]
   show w.cell? ⟨b, 0 + j, none⟩ = some u
   rw [Nat.zero_add, hc.cell]
   simpa using hu) hn hb
 unfold Oper.wp
 simp only [execOp, ho, resolve, invoke, builtin, Sem.run_bind, Sem.run_pure, Result.andThen_ok, List.map_toArray, List.map_cons, List.map_nil, hs, hx, h1]
 exact h A' (n + 1) c' w' (Lib.hid rfl) h2 h3
theorem none_is (g : Nat) (m : Bool) (x y z : Value) (w : World) (h : Blk w g 54 #[.bool m, x, y, z]) : Calls Try.prog 35 #[.pointer (some ⟨g, 0, none⟩)] w fun e w' => e = .returned (.bool (!m)) ∧ w = w' := by
 have c0 : w.cell? ⟨g, 0, none⟩ = some (.bool m) := h.cell 0
 clear h
 cases m <;>
 · go_enter Try.func35, Try.ntmps35
   go_wp2
   go_ret
   exact ⟨rfl, rfl⟩
theorem base_is (g : Nat) (b : Int) (y z : Value) (w : World) (h : Blk w g 54 #[.bool true, .int .u64 b, y, z]) : Calls Try.prog 19 #[.pointer (some ⟨g, 0, none⟩)] w fun e w' => e = .returned (.int .u64 b) ∧ w = w' := by
 have c1 : w.cell? ⟨g, 1, none⟩ = some (.int .u64 b) := h.cell 1
 have HN := Lib.hid (none_is g true _ _ _ w h)
 clear h
 go_enter Try.func19, Try.ntmps19
 go_wp2_with (go_at_call 35; (with_reducible refine HN.out.mono ?_); rintro e w1 ⟨rfl, rfl⟩)
 go_ret
 exact ⟨rfl, rfl⟩
theorem size_is (g : Nat) (s : Int) (x y : Value) (w : World) (h : Blk w g 54 #[.bool true, x, y, .int .i64 s]) : Calls Try.prog 21 #[.pointer (some ⟨g, 0, none⟩)] w fun e w' => e = .returned (.int .i64 s) ∧ w = w' := by
 have c3 : w.cell? ⟨g, 3, none⟩ = some (.int .i64 s) := h.cell 3
 have HN := Lib.hid (none_is g true _ _ _ w h)
 clear h
 go_enter Try.func21, Try.ntmps21
 go_wp2_with (go_at_call 35; (with_reducible refine HN.out.mono ?_); rintro e w1 ⟨rfl, rfl⟩)
 go_ret
 exact ⟨rfl, rfl⟩
theorem len_is (g : Nat) (x z : Value) (A : Option Addr) (k c : Nat) (w : World) (h : Blk w g 54 #[.bool true, x, .slice A k c, z]) : Calls Try.prog 14 #[.pointer (some ⟨g, 0, none⟩)] w fun e w' => e = .returned (.int .i64 k) ∧ w = w' := by
 have c2 : w.cell? ⟨g, 2, none⟩ = some (.slice A k c) := h.cell 2
 have HN := Lib.hid (none_is g true _ _ _ w h)
 clear h
 go_enter Try.func14, Try.ntmps14
 go_wp2_with (go_at_call 35; (with_reducible refine HN.out.mono ?_); rintro e w1 ⟨rfl, rfl⟩)
 go_ret
 exact ⟨rfl, rfl⟩
theorem end_is (g b k c E : Nat) (A : Option Addr) (z : Value) (w : World) (h : Blk w g 54 #[.bool true, .int .u64 b, .slice A k c, z]) (hb : b ≤ 9000000000000000000) (hk : k ≤ 1000000) (hE : E = b + k) : Calls Try.prog 20 #[.pointer (some ⟨g, 0, none⟩)] w fun e w' => e = .returned (.int .u64 E) ∧ w = w' := by
 have HB := Lib.hid (base_is g b _ _ w h)
 have HL := Lib.hid (len_is g _ _ A k c w h)
 have h4 : IntKind.u64.wrap ((b : Int) + (k : Int)) = (b : Int) + (k : Int) := by rw [IntKind.wrap_u64]; omega
 have h5 : IntKind.u64.wrap ((k : Int)) = (k : Int) := by rw [IntKind.wrap_u64]; omega
 have HE := Lib.hid hE
 clear h hE
 go_enter Try.func20, Try.ntmps20
 go_wp2_with (first
   | (go_at_call 19; (with_reducible refine HB.out.mono ?_); rintro e w1 ⟨rfl, rfl⟩)
   | (go_at_call 14; (with_reducible refine HL.out.mono ?_); rintro e w1 ⟨rfl, rfl⟩))
 go_ret
 exact ⟨by rw [HE.out]; simp, rfl⟩
theorem new_any (w : World) : Calls Try.prog 12 #[] w fun e w' => e = .returned (.pointer (some ⟨w.heap.size, 0, none⟩)) ∧ w' = w.alloc (.cells #[.bool true, .int .u64 0, .slice none 0 0, .int .i64 0] 54) := by
 go_enter Try.func12, Try.ntmps12
 go_wp2
 go_ret
 exact ⟨rfl, rfl⟩
theorem index_in (g b k c i m : Nat) (A : Option Addr) (z : Value) (w : World) (h : Blk w g 54 #[.bool true, .int .u64 b, .slice A k c, z]) (hb : b ≤ 9000000000000000000) (hk : k ≤ 1000000) (hm : m = b + i) (hi : i ≤ k) : Calls Try.prog 36 #[.pointer (some ⟨g, 0, none⟩), .int .u64 m] w fun e w' => e = .returned (.tuple #[.int .i64 i, .int .i64 0]) ∧ w = w' := by
 have c1 : w.cell? ⟨g, 1, none⟩ = some (.int .u64 b) := h.cell 1
 have HN := Lib.hid (none_is g true _ _ _ w h)
 obtain ⟨E, hE⟩ : ∃ E, E = b + k := ⟨_, rfl⟩
 have HE := Lib.hid (end_is g b k c E A z w h hb hk hE)
 have d1 : decide (m < b) = false := by simp; omega
 have d2 : decide (E < m) = false := by simp; omega
 have e1 : IntKind.u64.wrap ((m : Int) - (b : Int)) = (i : Int) := by rw [IntKind.wrap_u64]; omega
 have e3 : i ≤ 1000000 := by omega
 clear h hE hm hi
 go_enter Try.func36, Try.ntmps36
 go_wp2_with (first
   | (go_at_call 35; (with_reducible refine HN.out.mono ?_); rintro e w1 ⟨rfl, rfl⟩)
   | (go_at_call 20; (with_reducible refine HE.out.mono ?_); rintro e w1 ⟨rfl, rfl⟩))
 go_ret2
 exact ⟨rfl, rfl⟩
theorem index_out (g b k c m : Nat) (A : Option Addr) (z : Value) (w : World) (h : Blk w g 54 #[.bool true, .int .u64 b, .slice A k c, z]) (hb : b ≤ 9000000000000000000) (hk : k ≤ 1000000) (hm : m < b ∨ b + k < m) : Calls Try.prog 36 #[.pointer (some ⟨g, 0, none⟩), .int .u64 m] w fun e w' => e = .returned (.tuple #[.int .i64 0, .int .i64 8]) ∧ w = w' := by
 have c1 : w.cell? ⟨g, 1, none⟩ = some (.int .u64 b) := h.cell 1
 have HN := Lib.hid (none_is g true _ _ _ w h)
 obtain ⟨E, hE⟩ : ∃ E, E = b + k := ⟨_, rfl⟩
 have HE := Lib.hid (end_is g b k c E A z w h hb hk hE)
 by_cases hlt : m < b
 · have d1 : decide (m < b) = true := by simp; omega
   clear h hE hm
   go_enter Try.func36, Try.ntmps36
   go_wp2_with (first
     | (go_at_call 35; (with_reducible refine HN.out.mono ?_); rintro e w1 ⟨rfl, rfl⟩)
     | (go_at_call 20; (with_reducible refine HE.out.mono ?_); rintro e w1 ⟨rfl, rfl⟩))
   go_ret2
   exact ⟨rfl, rfl⟩
 · have d1 : decide (m < b) = false := by simp; omega
   have d2 : decide (E < m) = true := by simp; omega
   clear h hE hm hlt
   go_enter Try.func36, Try.ntmps36
   go_wp2_with (first
     | (go_at_call 35; (with_reducible refine HN.out.mono ?_); rintro e w1 ⟨rfl, rfl⟩)
     | (go_at_call 20; (with_reducible refine HE.out.mono ?_); rintro e w1 ⟨rfl, rfl⟩))
   go_ret2
   exact ⟨rfl, rfl⟩
end Go.Proofs.Ytniaijgejljjbaa.Tlv
