/- The reference's table: rows of clients; where one is. -/
import Derived.Test.YtidkpdoiblomjaaZ36
import Derived.Test.YtidkpdoiblomjaaZ33
import Derived.Test.YtidkpdoiblomjaaZ37
namespace Go.Proofs.Ytidkpdoiblomjaa.Tlv
open Go.RowKit Go.Maps
set_option maxRecDepth 100000
set_option linter.unusedVariables false
set_option linter.unusedSimpArgs false
structure Td where
 c : Int
 n : Int
 k : Int
 y : Bool
 A : Option Addr
 l : Nat
 a : Nat
 B : Option Addr
 l2 : Nat
 a2 : Nat
deriving Inhabited
abbrev tdCs (x : Td) : Array Value := #[.int .u64 x.c, .int .u64 x.n, .int .i64 x.k, .bool x.y, .slice x.A x.l x.a, .slice x.B x.l2 x.a2]
theorem info62 : ∃ (i : TypeInfo) (z : Value), Try.prog.info? 62 = some i ∧ i.zero = some z ∧ i.size = 6 ∧ i.bytes = 80 ∧ z.cells.size = 6 := by
 have h : (Try.prog.info? 62).map (fun i => (i.zero, i.size, i.bytes)) = some (some (.agg #[.int .u64 0, .int .u64 0, .int .i64 0, .bool false, .slice none 0 0, .slice none 0 0]), 6, 80) := by kernel_rfl
 obtain ⟨i, hi, h0, h1, h2⟩ := info_parts h
 exact ⟨i, _, hi, h0, h1, h2, rfl⟩
theorem info41 : ∃ (i : TypeInfo) (z : Value), Try.prog.info? 41 = some i ∧ i.zero = some z ∧ i.size = 6 ∧ i.bytes = 80 ∧ z.cells.size = 6 := by
 have h : (Try.prog.info? 41).map (fun i => (i.zero, i.size, i.bytes)) = some (some (.agg #[.int .u64 0, .int .u64 0, .int .i64 0, .bool false, .slice none 0 0, .slice none 0 0]), 6, 80) := by kernel_rfl
 obtain ⟨i, hi, h0, h1, h2⟩ := info_parts h
 exact ⟨i, _, hi, h0, h1, h2, rfl⟩
theorem td_one : ∀ (x : Td), ∀ u ∈ (tdCs x).toList, u.oneCell' = true := fun x u hu => by
 simp at hu
 rcases hu with rfl | rfl | rfl | rfl | rfl | rfl <;> rfl
def kT : Kind Td where
 e := 62
 st := 51
 size := 6
 bytes := 80
 cs := fun x => (tdCs x).toList
 len := fun _ => rfl
 one := td_one
 pos := by decide
 sl := Try.underlying51
 zero := info62
 small := by decide
def kX : Kind Td where
 e := 41
 st := 22
 size := 6
 bytes := 80
 cs := fun x => (tdCs x).toList
 len := fun _ => rfl
 one := td_one
 pos := by decide
 sl := Try.underlying22
 zero := info41
 small := by decide
theorem td_cellsG (K : Kind Td) (hs : K.size = 6) (hcs : ∀ x, K.cs x = (tdCs x).toList) {w w' : World} {n k : Nat} {A : Option Addr} {L : List Td} (h : RdK K w n A L) (hb : Below n w w') (hk : k < L.length) : ∃ b off, A = some ⟨b, off, none⟩ ∧ b < n ∧
   w'.cell? ⟨b, off + k * 6, none⟩ = some (.int .u64 (L.getD k default).c) ∧ w'.cell? ⟨b, off + k * 6 + 1, none⟩ = some (.int .u64 (L.getD k default).n) ∧ w'.cell? ⟨b, off + k * 6 + 2, none⟩ = some (.int .i64 (L.getD k default).k) ∧
   w'.cell? ⟨b, off + k * 6 + 3, none⟩ = some (.bool (L.getD k default).y) ∧ w'.cell? ⟨b, off + k * 6 + 4, none⟩ = some (.slice (L.getD k default).A (L.getD k default).l (L.getD k default).a) ∧ w'.cell? ⟨b, off + k * 6 + 5, none⟩ = some (.slice (L.getD k default).B (L.getD k default).l2 (L.getD k default).a2) := by
 obtain ⟨b, off, e, hlt, hc⟩ := h (by omega)
 have key : ∀ (i : Nat) (u : Value), (tdCs (L.getD k default)).toList[i]? = some u → w'.cell? ⟨b, off + k * 6 + i, none⟩ = some u := fun i u hu => by
   have := hc k hk i u (by rw [hcs]; exact hu)
   rw [hs] at this
   exact (hb.cell (p := ⟨b, off + k * 6 + i, none⟩) hlt).trans this
 exact ⟨b, off, e, hlt, key 0 _ rfl, key 1 _ rfl, key 2 _ rfl, key 3 _ rfl, key 4 _ rfl, key 5 _ rfl⟩
theorem rd_oneTd (K : Kind Td) (hs : K.size = 6) (hcs : ∀ x, K.cs x = (tdCs x).toList) (w : World) (x : Td) (t : TypeId) : RdK K (w.alloc (.cells (tdCs x) t)) (w.alloc (.cells (tdCs x) t)).heap.size (some ⟨w.heap.size, 0, none⟩) [x] := fun _ => by
 refine ⟨w.heap.size, 0, rfl, by rw [World.size_alloc]; omega, fun j hj i u hu => ?_⟩
 have e : j = 0 := by simpa using hj
 subst e
 have k := Blk.new w t (tdCs x)
 rw [hcs] at hu
 rw [Nat.zero_mul, Nat.zero_add, k.cell, ← Array.getElem?_toList]
 exact hu
def AtOk (L : List Td) (c i : Int) : Prop := (i = -1 ∧ ∀ y ∈ L, y.c ≠ c) ∨ ∃ k : Nat, i = (k : Int) ∧ k < L.length ∧ (L.getD k default).c = c
theorem refAt_any (rb n a : Nat) (A : Option Addr) (L : List Td) (c : Int) (w : World) (hB : Blk w rb 53 #[.slice A n a]) (hr : RdK kT w w.heap.size A L) (hn : n = L.length) (hl : L.length ≤ 100) :
   Calls Try.prog 20 #[.pointer (some ⟨rb, 0, none⟩), .int .u64 c] w fun e w' => (∃ i, e = .returned (.int .i64 i) ∧ AtOk L c i) ∧ w = w' := by
 have c0 := hB.cell 0
 simp only [List.getElem?_toArray, List.getElem?_cons_zero, List.getElem?_cons_succ] at c0
 have HR := Lib.hid (And.intro hr hn)
 clear hB hr
 have hn9 : n ≤ 100 := by omega
 go_enter Try.func20, Try.ntmps20
 go_upto_region 2 with fail
 go_loopw [5] (fun s wr => ∃ k : Nat, s = .int .i64 k ∧ k ≤ n ∧ Hid (∀ y ∈ L.take k, y.c ≠ c) ∧ w = wr) (fun s _ => n - (intOf s).toNat)
 case atStart => exact ⟨0, rfl, Nat.zero_le _, Lib.hid (by simp), rfl⟩
 case round =>
   obtain ⟨k, rfl, hk, HF, rfl⟩ := hrel
   by_cases hlt : k < n
   · have hkL : k < L.length := by have := HR.out.2; omega
     obtain ⟨b, off, rfl, hb, d0, d1, d2, d3, d4, d5⟩ := td_cellsG kT rfl (fun _ => rfl) HR.out.1 (Below.refl _ _) hkL
     have HTS : Hid (L.take (k + 1) = L.take k ++ [L.getD k default]) := Lib.hid (by
       rw [List.take_add_one, List.getD_eq_getElem?_getD, List.getElem?_eq_getElem hkL]
       rfl)
     have HAK : Hid ((L.getD k default).c = c → AtOk L c (k : Int)) := Lib.hid fun e => .inr ⟨k, rfl, hkL, e⟩
     clear d1 d2 d3 d4 d5 hkL
     generalize hyc : (L.getD k default).c = yc at d0 HAK
     have HYC := Lib.hid hyc
     clear hyc
     by_cases he : yc = c
     · subst he
       go_wp2
       go_ret
       exact ⟨⟨_, rfl, HAK.out (by first | rfl | trivial)⟩, by first | rfl | trivial⟩
     · go_wp2
       go_roundw
       case rel => exact ⟨k + 1, by go_num, by omega, Lib.hid (fun y hy => by
         rw [HTS.out] at hy
         rcases List.mem_append.1 hy with h | h
         · exact HF.out y h
         · rw [List.mem_singleton.1 h, HYC.out]; exact he), by first | rfl | trivial⟩
       case measure => simp [intOf]; omega
   · have hkn : n = k := by omega
     subst hkn
     go_wp2
     go_ret
     exact ⟨⟨_, rfl, .inl ⟨rfl, fun y hy => HF.out y (by rw [HR.out.2, List.take_length]; exact hy)⟩⟩, rfl⟩
def ins1 (x : Td) (s : List Td × Bool) (y : Td) : List Td × Bool :=
 let s1 := if s.2 = false ∧ x.c ≤ y.c then (s.1 ++ [x], true) else s
 if y.c = x.c then s1 else (s1.1 ++ [y], s1.2)
def insT (x : Td) (l : List Td) : List Td × Bool := l.foldl (ins1 x) ([], false)
def insL (x : Td) (l : List Td) : List Td := if (insT x l).2 then (insT x l).1 else (insT x l).1 ++ [x]
theorem insT_snoc (x y : Td) (l : List Td) : insT x (l ++ [y]) = ins1 x (insT x l) y := by unfold insT; rw [List.foldl_append]; rfl
theorem snocInd {α : Type} {p : List α → Prop} (h0 : p []) (h1 : ∀ l y, p l → p (l ++ [y])) (l : List α) : p l := by
 rw [← List.reverse_reverse l]
 induction l.reverse with
 | nil => exact h0
 | cons y t ih => rw [List.reverse_cons]; exact h1 _ _ ih
theorem insT_perm (x : Td) (l : List Td) : (insT x l).1.Perm ((if (insT x l).2 then [x] else []) ++ l.filter (fun y => !decide (y.c = x.c))) := by
 induction l using snocInd with
 | h0 => exact List.Perm.refl _
 | h1 l y ih =>
   rw [insT_snoc, List.filter_append]
   unfold ins1
   generalize insT x l = s at ih ⊢
   obtain ⟨acc, d⟩ := s
   dsimp only at ih ⊢
   by_cases h1 : d = false ∧ x.c ≤ y.c
   · obtain ⟨rfl, h1⟩ := h1
     simp only [Bool.false_eq_true, if_false, List.nil_append] at ih
     have h2 : (acc ++ [x]).Perm (x :: l.filter (fun y => !decide (y.c = x.c))) := (List.perm_append_comm).trans (by simpa using ih.cons x)
     by_cases h3 : y.c = x.c
     · simpa [h3, h1] using h2
     · simpa [h3, h1] using h2.append_right [y]
   · by_cases h3 : y.c = x.c
     · rw [if_pos h3, if_neg h1]
       simpa [h3] using ih
     · rw [if_neg h3, if_neg h1]
       have := ih.append_right [y]
       rw [List.append_assoc] at this
       simpa [h3] using this
theorem insL_perm (x : Td) (l : List Td) : (insL x l).Perm (x :: l.filter (fun y => !decide (y.c = x.c))) := by
 have h := insT_perm x l
 unfold insL
 cases hd : (insT x l).2 with
 | true => rw [hd] at h; simpa using h
 | false =>
   rw [hd] at h
   simp only [Bool.false_eq_true, if_false, List.nil_append] at h ⊢
   exact (List.perm_append_comm).trans (by simpa using h.cons x)
theorem insT_len (x : Td) (l : List Td) : (insT x l).1.length ≤ 1 + l.length := by
 have h := (insT_perm x l).length_eq
 have h2 := List.length_filter_le (fun y => !decide (y.c = x.c)) l
 rw [List.length_append] at h
 have h3 : (if (insT x l).2 then [x] else ([] : List Td)).length ≤ 1 := by split <;> simp
 omega
theorem filt_len (a : Int) : ∀ (L : List Td), (L.map Td.c).Nodup → (∃ y ∈ L, y.c = a) → (L.filter (fun y => !decide (y.c = a))).length + 1 = L.length
 | [], _, h => by obtain ⟨y, hy, _⟩ := h; cases hy
 | z :: L, hn, h => by
   rw [List.map_cons, List.nodup_cons] at hn
   by_cases e : z.c = a
   · have : L.filter (fun y => !decide (y.c = a)) = L := List.filter_eq_self.2 fun y hy => by
       have : y.c ≠ a := fun e2 => hn.1 (List.mem_map.2 ⟨y, hy, e2.trans e.symm⟩)
       simp [this]
     rw [List.filter_cons_of_neg (by simp [e]), this, List.length_cons]
   · have ih := filt_len a L hn.2 (by
       obtain ⟨y, hy, e2⟩ := h
       rcases List.mem_cons.1 hy with rfl | hy
       · exact absurd e2 e
       · exact ⟨y, hy, e2⟩)
     rw [List.filter_cons_of_pos (by simp [e]), List.length_cons, List.length_cons]
     omega
structure RefRep (L : List Td) (T : Tb) (N : Nat) : Prop where
 len : L.length = N
 nd : (L.map Td.c).Nodup
 row : ∀ y ∈ L, ∃ r, T y.c = some (y.n, r)
 all : ∀ c x, T c = some x → ∃ y ∈ L, y.c = c
theorem RefRep.nil : RefRep [] (fun _ => none) 0 := ⟨rfl, by simp, by simp, fun c x h => by cases h⟩
theorem RefRep.ins {L : List Td} {T : Tb} {N : Nat} (h : RefRep L T N) (x : Td) (r : Res) : RefRep (insL x L) (upd T x.c (x.n, r)) (updN T x.c N) := by
 have hp := insL_perm x L
 have hf : (L.filter (fun y => !decide (y.c = x.c))).map Td.c = (L.map Td.c).filter (fun c => !decide (c = x.c)) := by
   rw [List.filter_map]; rfl
 have hlen : (insL x L).length = updN T x.c N := by
   rw [hp.length_eq, List.length_cons]
   unfold updN
   cases hT : T x.c with
   | none =>
     have : L.filter (fun y => !decide (y.c = x.c)) = L := List.filter_eq_self.2 fun y hy => by
       obtain ⟨r', hr⟩ := h.row y hy
       have : y.c ≠ x.c := fun e => by rw [e, hT] at hr; cases hr
       simp [this]
     rw [this, h.len]
     rfl
   | some z =>
     have h3 := filt_len x.c L h.nd (h.all x.c z hT)
     have h4 := h.len
     simp only [Option.isSome_some, if_true]
     omega
 refine ⟨hlen, ?_, fun y hy => ?_, fun c z hz => ?_⟩
 · rw [(hp.map Td.c).nodup_iff, List.map_cons, hf, List.nodup_cons]
   exact ⟨fun hm => by simp at hm, h.nd.filter _⟩
 · rcases List.mem_cons.1 (hp.mem_iff.1 hy) with rfl | hy
   · exact ⟨r, by unfold upd; rw [if_pos rfl]⟩
   · obtain ⟨hy, hne⟩ := List.mem_filter.1 hy
     have hne : y.c ≠ x.c := by simpa using hne
     obtain ⟨r', hr⟩ := h.row y hy
     exact ⟨r', by unfold upd; rw [if_neg hne]; exact hr⟩
 · unfold upd at hz
   by_cases e : c = x.c
   · exact ⟨x, hp.mem_iff.2 (List.mem_cons_self ..), e.symm⟩
   · rw [if_neg e] at hz
     obtain ⟨y, hy, e2⟩ := h.all c z hz
     exact ⟨y, hp.mem_iff.2 (List.mem_cons_of_mem _ (List.mem_filter.2 ⟨hy, by simp; rw [e2]; exact e⟩)), e2⟩
end Go.Proofs.Ytidkpdoiblomjaa.Tlv
