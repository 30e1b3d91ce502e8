/- A log's items: rows at a place of an array, read and appended to. -/
import Derived.Test.YtniaijgejljjbaaGreatY33
import Derived.Test.YtniaijgejljjbaaGreatY32
import Derived.Deep.AppendSrc
namespace Go.Proofs.YtniaijgejljjbaaGreat.Tlv
open Go.RowKit
set_option maxRecDepth 100000
set_option linter.unusedVariables false
set_option linter.unusedSimpArgs false
structure Rq where
 c : Int
 n : Int
 o : Opn
 Aa : Option Addr
 la : Nat
 ca : Nat
 Ap : Option Addr
 lp : Nat
 cp : Nat
 Ac : Option Addr
 lc : Nat
 cc : Nat
deriving Inhabited
abbrev Rq.va (x : Rq) : Value := .slice x.Aa x.la x.ca
abbrev Rq.vp (x : Rq) : Value := .slice x.Ap x.lp x.cp
abbrev Rq.vc (x : Rq) : Value := .slice x.Ac x.lc x.cc
def szQ (c n : Int) (o : Opn) : Nat := (rqB c n o).length
def rqL (x : Rq) : List Value := [.int .u64 x.c, .int .u64 x.n, .int .i64 x.o.k, .string (sx x.o.name), .string (sx x.o.dst), x.va, x.vp, x.vc, .int .i64 x.o.n]
def itL (x : Rq) : List Value := [.int .u64 x.c, .int .u64 x.n, .int .i64 x.o.k, .string (sx x.o.name), .string (sx x.o.dst), x.va, x.vp, x.vc, .int .i64 x.o.n, .int .i64 (szQ x.c x.n x.o : Nat)]
theorem info42 : ∃ (i : TypeInfo) (z : Value), Tryz.prog.info? 46 = some i ∧ i.zero = some z ∧ i.size = 9 ∧ i.bytes = 136 ∧ z.cells.size = 9 := by
 have h : (Tryz.prog.info? 46).map (fun i => (i.zero, i.size, i.bytes)) = some (some (.agg #[.int .u64 0, .int .u64 0, .int .i64 0, .string ⟨#[]⟩, .string ⟨#[]⟩, .slice none 0 0, .slice none 0 0, .slice none 0 0, .int .i64 0]), 9, 136) := by kernel_rfl
 obtain ⟨i, hi, h0, h1, h2⟩ := info_parts h
 exact ⟨i, _, hi, h0, h1, h2, rfl⟩
theorem info66 : ∃ (i : TypeInfo) (z : Value), Tryz.prog.info? 61 = some i ∧ i.zero = some z ∧ i.size = 10 ∧ i.bytes = 144 ∧ z.cells.size = 10 := by
 have h : (Tryz.prog.info? 61).map (fun i => (i.zero, i.size, i.bytes)) = some (some (.agg #[.int .u64 0, .int .u64 0, .int .i64 0, .string ⟨#[]⟩, .string ⟨#[]⟩, .slice none 0 0, .slice none 0 0, .slice none 0 0, .int .i64 0, .int .i64 0]), 10, 144) := by kernel_rfl
 obtain ⟨i, hi, h0, h1, h2⟩ := info_parts h
 exact ⟨i, _, hi, h0, h1, h2, rfl⟩
def kRq : Kind Rq where
 e := 46
 st := 23
 size := 9
 bytes := 136
 cs := rqL
 len := fun _ => rfl
 one := fun x u hu => by simp [rqL] at hu; rcases hu with rfl | rfl | rfl | rfl | rfl | rfl | rfl | rfl | rfl <;> rfl
 pos := by decide
 sl := Tryz.underlying23
 zero := info42
 small := by decide
def kIt : Kind Rq where
 e := 61
 st := 59
 size := 10
 bytes := 144
 cs := itL
 len := fun _ => rfl
 one := fun x u hu => by simp [itL] at hu; rcases hu with rfl | rfl | rfl | rfl | rfl | rfl | rfl | rfl | rfl | rfl <;> rfl
 pos := by decide
 sl := Tryz.underlying59
 zero := info66
 small := by decide
section
variable {α : Type} [Inhabited α] {K : Kind α} {w w' : World} {base : Nat} {A : Option Addr} {n c : Nat} {l : List α}
structure OffK (K : Kind α) (w : World) (base : Nat) (A : Option Addr) (n c : Nat) (l : List α) : Prop where
 len : n = l.length
 le : n ≤ c
 cap : c ≤ maxLen
 nil0 : A = none → c = 0
 blk : ∀ a, A = some a → ∃ b off cur, a = ⟨b, off, none⟩ ∧ base ≤ b ∧ Blk w b K.e cur ∧ off + c * K.size ≤ cur.size
 rd : RdK K w w.heap.size A l
theorem OffK.empty (K : Kind α) (w : World) (base : Nat) : OffK K w base none 0 0 [] :=
 ⟨rfl, Nat.le_refl _, Nat.zero_le _, fun _ => rfl, (fun a h => by cases h), fun h => by simp at h⟩
theorem OffK.on (h : OffK K w base A n c l) (hb : Below w.heap.size w w') : OffK K w' base A n c l :=
 ⟨h.len, h.le, h.cap, h.nil0, fun a e => by
   obtain ⟨b, off, cur, e1, h1, h2, h3⟩ := h.blk a e
   exact ⟨b, off, cur, e1, h1, h2.on hb, h3⟩, h.rd.on hb⟩
theorem OffK.keep (h : OffK K w base A n c l) (hs : w.heap.size ≤ w'.heap.size) (hk : ∀ b cs, Blk w b K.e cs → Blk w' b K.e cs) : OffK K w' base A n c l :=
 ⟨h.len, h.le, h.cap, h.nil0, fun a e => by
   obtain ⟨b, off, cur, e1, h1, h2, h3⟩ := h.blk a e
   exact ⟨b, off, cur, e1, h1, hk _ _ h2, h3⟩, fun hp => by
   obtain ⟨b, off, e, hlt, hc⟩ := h.rd hp
   obtain ⟨b2, off2, cur, e1, h1, h2, h3⟩ := h.blk _ e
   cases e1
   exact ⟨b, off, e, by omega, fun j hj i u hu => by rw [(hk _ _ h2).cell, ← h2.cell]; exact hc j hj i u hu⟩⟩
theorem OffK.cut (h : OffK K w base A n c l) {i : Nat} (hi : i ≤ n) : OffK K w base A i i (l.take i) := by
 have h1 := h.len
 have h2 := h.le
 refine ⟨by rw [List.length_take]; omega, Nat.le_refl _, Nat.le_trans (Nat.le_trans hi h2) h.cap, (fun e => by have := h.nil0 e; omega), fun a e => ?_, fun hp => ?_⟩
 · obtain ⟨b, off, cur, e1, h3, h4, h5⟩ := h.blk a e
   have : i * K.size ≤ c * K.size := Nat.mul_le_mul_right _ (by omega)
   exact ⟨b, off, cur, e1, h3, h4, by omega⟩
 · rw [List.length_take] at hp
   obtain ⟨b, off, e, hlt, hc⟩ := h.rd (by omega)
   refine ⟨b, off, e, hlt, fun j hj q u hu => hc j (by rw [List.length_take] at hj; omega) q u ?_⟩
   rw [List.length_take] at hj
   rw [List.getD_eq_getElem?_getD, List.getElem?_take_of_lt (by omega), ← List.getD_eq_getElem?_getD] at hu
   exact hu
theorem rdk_drop {B : Nat} {a : Addr} {b off : Nat} (e : a = ⟨b, off, none⟩) (h : RdK K w B (some a) l) (i : Nat) : RdK K w B (some ⟨b, off + i * K.size, none⟩) (l.drop i) := fun hp => by
 rw [List.length_drop] at hp
 obtain ⟨b', off', e', hlt, hc⟩ := h (by omega)
 subst e
 cases e'
 refine ⟨b, off + i * K.size, rfl, hlt, fun j hj q u hu => ?_⟩
 rw [List.length_drop] at hj
 rw [List.getD_eq_getElem?_getD, List.getElem?_drop, ← List.getD_eq_getElem?_getD] at hu
 have := hc (i + j) (by omega) q u hu
 rwa [Nat.add_mul, ← Nat.add_assoc] at this
theorem OffK.drop {b off : Nat} (h : OffK K w base (some ⟨b, off, none⟩) n c l) {i : Nat} (hi : i ≤ n) : OffK K w base (some ⟨b, off + i * K.size, none⟩) (n - i) (c - i) (l.drop i) := by
 have h1 := h.len
 have h2 := h.le
 have h3 := h.cap
 obtain ⟨b', off', cur, e1, h4, h5, h6⟩ := h.blk _ rfl
 cases e1
 refine ⟨by rw [List.length_drop]; omega, by omega, by omega, (fun e => by cases e), fun a e => ⟨b, off + i * K.size, cur, (Option.some.inj e).symm, h4, h5, ?_⟩, rdk_drop rfl h.rd i⟩
 have : (c - i) * K.size + i * K.size = c * K.size := by rw [← Nat.add_mul]; congr 1; omega
 omega
theorem OffK.dropAll (h : OffK K w base A n c l) {i : Nat} (hi : i = n) (hc : i = c) : OffK K w base A (n - i) (c - i) (l.drop i) := by
 have h1 := h.len
 refine ⟨by rw [List.length_drop]; omega, by omega, by have := h.cap; omega, (fun e => by omega), fun a e => ?_, fun hp => by rw [List.length_drop] at hp; omega⟩
 obtain ⟨b, off, cur, e1, h3, h4, h5⟩ := h.blk a e
 have h6 : (c - i) * K.size = 0 := by rw [show c - i = 0 by omega, Nat.zero_mul]
 exact ⟨b, off, cur, e1, h3, h4, by omega⟩
structure AppKept (K : Kind α) (w w' : World) (A : Option Addr) (n c : Nat) : Prop where
 grown : w.grownBy w' (Value.slice A n c).ownBlock
 blk : ∀ b off, A = some ⟨b, off, none⟩ → ∀ cur, Blk w b K.e cur → ∃ cur', Blk w' b K.e cur' ∧ cur.size = cur'.size ∧ ∀ j, (j < off + n * K.size ∨ off + c * K.size ≤ j) → cur'[j]? = cur[j]?
omit [Inhabited α] in
theorem AppKept.typ (h : AppKept K w w' A n c) {t b : Nat} {cs : Array Value} (hA : ∀ a, A = some a → ∃ cur, Blk w a.block K.e cur) (hk : Blk w b t cs) (ht : t ≠ K.e) : Blk w' b t cs :=
 hk.grown h.grown fun e => by
   cases A with
   | none => simp [Value.ownBlock] at e
   | some a =>
     obtain ⟨cur, hcur⟩ := hA a rfl
     have e2 : b = a.block := by simpa [Value.ownBlock] using e
     subst e2
     unfold Blk at hk hcur
     rw [hk] at hcur
     injection hcur with hcur
     injection hcur with _ hcur
     exact ht hcur
set_option maxRecDepth 100000 in
theorem run_appO (ty : TypeId) (x : α) (hO : OffK K w base A n c l) {ad : Addr} {cc : Nat} (hx : ∀ (j : Nat) (u : Value), (K.cs x)[j]? = some u → w.cell? (ad.add j) = some u) (hn : n + 1 ≤ 1000000000) (hb : base ≤ w.heap.size) :
   ∃ A' c' w', (Builtin.append_ #[K.st, K.st] ty #[.slice A n c, .slice (some ad) 1 cc]).run Tryz.prog w = .ok (.slice A' (n + 1) c') w' ∧ OffK K w' base A' (n + 1) c' (l ++ [x]) ∧ AppKept K w w' A n c ∧ ((A' = A ∧ c' = c) ∨ ∃ b, A' = some ⟨b, 0, none⟩ ∧ w.heap.size ≤ b) := by
 obtain ⟨i0, z, hi, hz0, hz1, hz2, hz3⟩ := K.zero
 have hlen := hO.len
 have hl1 := K.len x
 have hsrc : Go.Src Tryz.prog i0.size K.st (.slice (some ad) 1 cc) 1 (K.cs x) w := Go.Src.ofSlice w K.sl ad 1 cc (K.cs x) (by rw [hz1, hl1, Nat.one_mul]) hx (K.one x)
 have hfl := flat_length K l
 by_cases hroom : n + 1 ≤ c
 · cases hA : A with
   | none => have := hO.nil0 hA; omega
   | some a =>
     obtain ⟨b, off, cur, e1, h3, h4, h5⟩ := hO.blk a hA
     subst e1
     have hfit : n * K.size + K.size ≤ c * K.size := by have := Nat.mul_le_mul_right K.size hroom; rw [Nat.add_mul, Nat.one_mul] at this; exact this
     have hr := run_append_room_src (P := Tryz.prog) w K.st K.st ty K.e i0 K.sl hi b off n c (.slice (some ad) 1 cc) 1 (K.cs x) hsrc hroom
       (fun j hj => by rw [h4.cell, hz1]; rw [hl1] at hj; simp; omega) (fun j hj => h4.frozen _)
     rw [hz1] at hr
     have hnew : Blk (w.setCells b (off + n * K.size) (K.cs x)) b K.e (setMany cur (off + n * K.size) (K.cs x)) := Blk.many _ _ _ _ h4
     have hin : ∀ j, j < K.size → (w.setCells b (off + n * K.size) (K.cs x)).cell? ⟨b, off + n * K.size + j, none⟩ = (K.cs x)[j]? := fun j hj => by
       rw [World.cell?_setCells_in b (K.cs x) (off + n * K.size) w (fun q hq => by rw [h4.cell]; rw [hl1] at hq; simp; omega) j (by omega)]
       exact (List.getElem?_eq_getElem _).symm
     have hout : ∀ j, (j < off + n * K.size ∨ off + n * K.size + K.size ≤ j) → (w.setCells b (off + n * K.size) (K.cs x)).cell? ⟨b, j, none⟩ = w.cell? ⟨b, j, none⟩ := fun j hj =>
       World.cell?_setCells_out b (K.cs x) (off + n * K.size) w ⟨b, j, none⟩ (fun _ _ => by rw [hl1]; exact hj)
     have hsz : (w.setCells b (off + n * K.size) (K.cs x)).heap.size = w.heap.size := by
       have := below_setCells (Nat.zero_le b) (K.cs x) (off + n * K.size) w (Below.refl 0 w)
       have h2 : ∀ (vs : List Value) (o : Nat) (w : World), (w.setCells b o vs).heap.size = w.heap.size := by
         intro vs
         induction vs with
         | nil => intro o w; rfl
         | cons v r ih => intro o w; rw [World.setCells, ih]; simp [World.setCell]
       exact h2 _ _ _
     have hcs : (setMany cur (off + n * K.size) (K.cs x)).size = cur.size := by
       have h2 : ∀ (vs : List Value) (o : Nat) (cs : Array Value), (setMany cs o vs).size = cs.size := by
         intro vs
         induction vs with
         | nil => intro o cs; rfl
         | cons v r ih => intro o cs; rw [setMany, ih]; simp
       exact h2 _ _ _
     refine ⟨some ⟨b, off, none⟩, c, _, hr, ⟨by rw [List.length_append, List.length_singleton, hlen], hroom, hO.cap, (fun e => by cases e), fun a e => ⟨b, off, _, (Option.some.inj e).symm, h3, hnew, by rw [hcs]; exact h5⟩, fun _ => ⟨b, off, rfl, by rw [hsz]; exact h4.lt, fun j hj q u hu => ?_⟩⟩, ⟨?_, ?_⟩, .inl ⟨rfl, rfl⟩⟩
     · have hq : q < K.size := by
         have := (List.getElem?_eq_some_iff.1 hu).1
         rwa [K.len] at this
       rw [List.length_append, List.length_singleton] at hj
       by_cases hjn : j < l.length
       · rw [List.getD_eq_getElem?_getD, List.getElem?_append_left hjn, ← List.getD_eq_getElem?_getD] at hu
         obtain ⟨b', off', e', _, hc'⟩ := hO.rd (by omega)
         rw [hA] at e'
         cases e'
         have h7 : (j + 1) * K.size ≤ n * K.size := Nat.mul_le_mul_right _ (by omega)
         rw [Nat.add_mul, Nat.one_mul] at h7
         rw [hout _ (by omega)]
         exact hc' j hjn q u hu
       · have hjl : j = l.length := by omega
         subst hjl
         rw [List.getD_eq_getElem?_getD, List.getElem?_append_right (Nat.le_refl _), Nat.sub_self] at hu
         rw [show off + l.length * K.size + q = off + n * K.size + q by rw [hlen], hin q hq]
         exact hu
     · have hbb : Below b w (w.setCells b (off + n * K.size) (K.cs x)) := below_setCells (Nat.le_refl _) (K.cs x) (off + n * K.size) w (Below.refl b w)
       refine ⟨hbb.os, hbb.tape, hbb.output, hbb.size, fun k hk hne => setCells_other b k (fun e => hne (by subst e; rfl)) _ _ _⟩
     · intro b2 off2 e2 cur2 hcur2
       cases e2
       unfold Blk at h4 hcur2
       rw [h4] at hcur2
       injection hcur2 with hcur2
       injection hcur2 with hcur2 _
       subst hcur2
       refine ⟨_, hnew, hcs.symm, fun j hj => ?_⟩
       have h8 := hout j (by omega)
       rw [hnew.cell, (show Blk w b K.e cur from h4).cell] at h8
       exact h8
 · have hcn : c = n := by have := hO.le; omega
   have hold : (Builtin.firstCells i0.size n (.slice A n c)).run Tryz.prog w.drew = .ok (flatK K l).toArray w.drew := by
     cases hA : A with
     | none =>
       have h0 := hO.nil0 hA
       have : l = [] := List.eq_nil_of_length_eq_zero (by omega)
       subst this
       exact run_firstCells_none w.drew _ _ _ _
     | some a =>
       refine run_firstCells_some w.drew i0.size n a n c (flatK K l) (by rw [hfl, hz1, hlen]) (fun j u hu => ?_)
       obtain ⟨i, q, hi', rfl, hq⟩ := flat_get K l j u hu
       obtain ⟨b, off, e, hlt, hc⟩ := hO.rd (by omega)
       rw [hA] at e
       cases e
       rw [Addr.add_lit]
       show w.cell? ⟨b, off + (i * K.size + q), none⟩ = some u
       rw [← Nat.add_assoc]
       exact hc i hi' q u hq
   have hby : (n + 1) * i0.bytes ≤ 140737488355328 := by
     have := Nat.mul_le_mul hn K.small
     rw [hz2]
     omega
   have hmx : n + 1 ≤ maxLen := by unfold maxLen; omega
   have hr := run_append_grow_src (P := Tryz.prog) w K.st K.st ty K.e i0 z K.sl hi hz0 A n c (flatK K l) hold (.slice (some ad) 1 cc) 1 (K.cs x) hsrc (by omega) (by omega) (growslice_fits (by omega) hby)
   have hge := grownCap_ge w (n + 1) c K.e
   have hcm := grownCap_le_maxLen w (n + 1) c K.e hmx
   have hB : Blk (w.drew.alloc (.cells ((flatK K l ++ K.cs x).toArray ++ Builtin.zeroCells z.cells (grownCap w (n + 1) c K.e - (n + 1))) K.e)) w.heap.size K.e ((flatK K l ++ K.cs x).toArray ++ Builtin.zeroCells z.cells (grownCap w (n + 1) c K.e - (n + 1))) := heap_alloc_new w.drew _
   have hsz : ((flatK K l ++ K.cs x).toArray ++ Builtin.zeroCells z.cells (grownCap w (n + 1) c K.e - (n + 1))).size = grownCap w (n + 1) c K.e * K.size := by
     rw [Array.size_append, List.size_toArray, List.length_append, hfl, hl1, size_zeroCells, hz3, ← hlen]
     have : (grownCap w (n + 1) c K.e - (n + 1)) * K.size + (n + 1) * K.size = grownCap w (n + 1) c K.e * K.size := by rw [← Nat.add_mul]; congr 1; omega
     rw [Nat.add_mul, Nat.one_mul] at this
     omega
   have hbe : Below w.heap.size w (w.drew.alloc (.cells ((flatK K l ++ K.cs x).toArray ++ Builtin.zeroCells z.cells (grownCap w (n + 1) c K.e - (n + 1))) K.e)) := (below_drew (Below.refl w.heap.size w)).alloc (Nat.le_refl _) _
   have hfx : flatK K l ++ K.cs x = flatK K (l ++ [x]) := by simp [flatK]
   refine ⟨_, _, _, hr, ⟨by rw [List.length_append, List.length_singleton, hlen], hge, hcm, (fun e => by cases e), fun a e => ⟨w.heap.size, 0, _, (Option.some.inj e).symm, hb, hB, by rw [hsz]; omega⟩, fun _ => ⟨w.heap.size, 0, rfl, hB.lt, fun j hj q u hu => ?_⟩⟩, ⟨⟨hbe.os, hbe.tape, hbe.output, hbe.size, fun k hk _ => hbe.block k hk⟩, fun b off e cur hcur => ⟨cur, hcur.on hbe, rfl, fun _ _ => rfl⟩⟩, .inr ⟨w.heap.size, rfl, Nat.le_refl _⟩⟩
   have hq : q < K.size := by
     have := (List.getElem?_eq_some_iff.1 hu).1
     rwa [K.len] at this
   have hjs : j * K.size + q < (flatK K (l ++ [x])).length := by
     rw [flat_length]
     have h7 : (j + 1) * K.size ≤ (l ++ [x]).length * K.size := Nat.mul_le_mul_right _ hj
     rw [Nat.add_mul, Nat.one_mul] at h7
     omega
   rw [hB.cell, hfx, Array.getElem?_append_left (by rw [List.size_toArray]; omega), List.getElem?_toArray, show 0 + j * K.size + q = j * K.size + q by omega, flat_at K (l ++ [x]) j q hj hq]
   exact hu
end
end Go.Proofs.YtniaijgejljjbaaGreat.Tlv
