/- A log's looks; what is written stays apart. -/
import Derived.Test.YtniaijgejljjbaaGreatY35
import Derived.RegionTactic
import Derived.ChangeAlike
namespace Go.Proofs.YtniaijgejljjbaaGreat.Tlv
open Go.RowKit
set_option maxRecDepth 100000
set_option linter.unusedVariables false
set_option linter.unusedSimpArgs false
theorem blk_ne {w : World} {g g' : Nat} {t t' : TypeId} {cs cs' : Array Value} (h : Blk w g t cs) (h' : Blk w g' t' cs') (hne : t ≠ t') : g ≠ g' := fun e => by
 subst e
 unfold Blk at h h'
 rw [h] at h'
 injection h' with h'
 injection h' with _ h'
 exact hne h'
theorem blk_eq {w : World} {g : Nat} {t t' : TypeId} {cs cs' : Array Value} (h : Blk w g t cs) (h' : Blk w g t' cs') : cs = cs' := by
 unfold Blk at h h'
 rw [h] at h'
 injection h' with h'
 injection h' with h' _
section
variable {sp : Spc} {n0 : Nat} {T : Nat → TypeId → Prop} {w0 w w' : World}
theorem FrT.refl (hn : n0 ≤ w.heap.size) : FrT sp n0 T w w := FrT.of (Below.refl _ _) hn
theorem arr_on {sp : Spc} {w0 w w' : World} (h : ∀ b cur, Blk w0 b 61 cur → ∃ cur', Blk w b 61 cur' ∧ cur.size = cur'.size ∧ ∀ j, ¬ sp.ok b j → cur'[j]? = cur[j]?) (hb : ∀ b cur, Blk w b 61 cur → Blk w' b 61 cur) : ∀ b cur, Blk w0 b 61 cur → ∃ cur', Blk w' b 61 cur' ∧ cur.size = cur'.size ∧ ∀ j, ¬ sp.ok b j → cur'[j]? = cur[j]? := fun b cur hk => by
 obtain ⟨c1, k1, e1, h1⟩ := h b cur hk
 exact ⟨c1, hb b c1 k1, e1, h1⟩
theorem FrT.alloc (h : FrT sp n0 T w0 w) (hn : n0 ≤ w0.heap.size) (o : Obj) : FrT sp n0 T w0 (w.alloc o) := ⟨h.bel.alloc (Nat.le_trans hn h.bel.size) o, fun b t cs ht hk => (h.typ b t cs ht hk).alloc o, arr_on h.arr fun b cur hk => hk.alloc o⟩
theorem FrT.drewN (h : FrT sp n0 T w0 w) (n : Nat) : FrT sp n0 T w0 (w.drewN n) := ⟨below_drewN h.bel n, fun b t cs ht hk => h.typ b t cs ht hk, h.arr⟩
theorem FrT.drew (h : FrT sp n0 T w0 w) : FrT sp n0 T w0 w.drew := ⟨below_drew h.bel, fun b t cs ht hk => h.typ b t cs ht hk, h.arr⟩
theorem FrT.then_ (h : FrT sp n0 T w0 w) (hn : n0 ≤ w0.heap.size) (hb : Below w.heap.size w w') : FrT sp n0 T w0 w' := h.trans (FrT.of hb (Nat.le_trans hn h.bel.size))
theorem FrT.set {g i : Nat} {t : TypeId} {cs : Array Value} (h : FrT sp n0 T w0 w) (hk : Blk w g t cs) (ht : T g t) (h66 : t ≠ 61) (hg : n0 ≤ g) (u : Value) : FrT sp n0 T w0 (w.setCell ⟨g, i, none⟩ u) :=
 ⟨h.bel.setCell (p := ⟨g, i, none⟩) hg u, fun b t' cs' ht' hk' => (h.typ b t' cs' ht' hk').far (p := ⟨g, i, none⟩) (fun e => ht' (by
   have e2 := h.typ b t' cs' ht' hk'
   have e3 : b = g := e
   subst e3
   unfold Blk at e2 hk
   rw [e2] at hk
   injection hk with hk
   injection hk with _ hk
   rw [hk]
   exact ht)) u, arr_on h.arr fun b cur hk' => hk'.far (p := ⟨g, i, none⟩) (blk_ne hk' hk (fun e => h66 e.symm)) u⟩
theorem FrT.app {A : Option Addr} {n c : Nat} {l : List Rq} (h : FrT sp n0 T w0 w) (hO : OffK kIt w n0 A n c l) (hs : SpOk sp A n c) (hA : AppKept kIt w w' A n c) (hT : ∀ b, T b 61) (hn : n0 ≤ w0.heap.size) : FrT sp n0 T w0 w' := by
 have hbl : ∀ a, A = some a → ∃ cur, Blk w a.block kIt.e cur := fun a e => by
   obtain ⟨b, off, cur, rfl, _, h2, _⟩ := hO.blk a e
   exact ⟨cur, h2⟩
 refine ⟨h.bel.trans ((Below.refl n0 w).grown hA.grown (Nat.le_trans hn h.bel.size) (fun k hk => ?_)), fun b t cs ht hk => hA.typ hbl (h.typ b t cs ht hk) (fun e => ht (by rw [e]; exact hT b)), fun b cur hk => ?_⟩
 · cases A with
   | none => simp [Value.ownBlock] at hk
   | some a =>
     obtain ⟨b, off, cur, rfl, h1, _, _⟩ := hO.blk a rfl
     have : b = k := by simpa [Value.ownBlock] using hk
     omega
 · obtain ⟨c1, k1, e1, h1⟩ := h.arr b cur hk
   by_cases hb : some b = (Value.slice A n c).ownBlock
   · cases A with
     | none => simp [Value.ownBlock] at hb
     | some a =>
       obtain ⟨b2, off, cur2, rfl, _, h2, _⟩ := hO.blk a rfl
       have : b = b2 := by simpa [Value.ownBlock] using hb
       subst this
       obtain ⟨c2, k2, e2, h3⟩ := hA.blk b off rfl c1 k1
       refine ⟨c2, k2, e1.trans e2, fun j hj => ?_⟩
       have h10 : kIt.size = 10 := rfl
       have hout : j < off + n * kIt.size ∨ off + c * kIt.size ≤ j := by
         rcases Nat.lt_or_ge j (off + n * 10) with h4 | h4
         · exact .inl h4
         · rcases Nat.lt_or_ge j (off + c * 10) with h5 | h5
           · exact (hj (hs b off rfl j h4 h5)).elim
           · exact .inr h5
       exact (h3 j hout).trans (h1 j hj)
   · exact ⟨c1, k1.grown hA.grown hb, e1, h1⟩
end
theorem OffK.alloc {α : Type} [Inhabited α] {K : Kind α} {w : World} {base : Nat} {A : Option Addr} {n c : Nat} {l : List α} (h : OffK K w base A n c l) (o : Obj) : OffK K (w.alloc o) base A n c l := h.on ((Below.refl _ _).alloc (Nat.le_refl _) _)
theorem OffK.drew {α : Type} [Inhabited α] {K : Kind α} {w : World} {base : Nat} {A : Option Addr} {n c : Nat} {l : List α} (h : OffK K w base A n c l) : OffK K w.drew base A n c l := h.on (below_drew (Below.refl _ _))
theorem OffK.setFar {α : Type} [Inhabited α] {K : Kind α} {w : World} {base : Nat} {A : Option Addr} {n c : Nat} {l : List α} (h : OffK K w base A n c l) {g i : Nat} {t : TypeId} {cs : Array Value} (hk : Blk w g t cs) (ht : t ≠ K.e) (u : Value) : OffK K (w.setCell ⟨g, i, none⟩ u) base A n c l :=
 h.keep (by simp [World.setCell]) fun b cs' hb => hb.far (p := ⟨g, i, none⟩) (blk_ne hb hk (fun e => ht e.symm)) u
theorem step_appO {α : Type} [Inhabited α] (K : Kind α) {w : World} {ops : Array Oper} {o : Oper} {a : Act} {Q : Exit → Act → World → Prop} {K' : Act → World → Prop} {E : Prop} (hgd : o.guard = none) (s x : Operand)
   (ho : o.op = .call { callee := .builtin .append, args := #[s, x], argTypes := #[K.st, K.st] })
   {base : Nat} {A : Option Addr} {n c : Nat} {l : List α} (hs : a.eval s = .slice A n c) (hO : OffK K w base A n c l) (x0 : α) {b cc : Nat} (hx : a.eval x = .slice (some ⟨b, 0, none⟩) 1 cc)
   (hc : Blk w b K.e (K.cs x0).toArray) (hn : n + 1 ≤ 1000000000) (hb : base ≤ w.heap.size)
   (h : ∀ A' n' c' w', Hid (n' = n + 1) → OffK K w' base A' n' c' (l ++ [x0]) → (AppKept K w w' A n c ∧ ((A' = A ∧ c' = c) ∨ ∃ b, A' = some ⟨b, 0, none⟩ ∧ w.heap.size ≤ b)) → K' (a.put o.dst (.slice A' n' c')) w') :
   if Region.wanted o (yielded ops a.tmps) = true then Oper.wp Tryz.prog o a w K' Q else E := by
 have hw : Region.wanted o (yielded ops a.tmps) = true := by simp [Region.wanted, hgd]
 rw [if_pos hw]
 obtain ⟨A', c', w', h1, h2, h3, h4⟩ := run_appO (cc := cc) o.type x0 hO (ad := ⟨b, 0, none⟩) (fun j u hu => by
   rw [Addr.add_lit]
   show w.cell? ⟨b, 0 + j, none⟩ = some u
   rw [Nat.zero_add, hc.cell]
   simpa using hu) hn hb
 unfold Oper.wp
 simp only [execOp, ho, resolve, invoke, builtin, Sem.run_bind, Sem.run_pure, Result.andThen_ok, List.map_toArray, List.map_cons, List.map_nil, hs, hx, h1]
 exact h A' (n + 1) c' w' (Lib.hid rfl) h2 ⟨h3, h4⟩
theorem none_is (g : Nat) (m : Bool) (x y z : Value) (w : World) (h : Blk w g 65 #[.bool m, x, y, z]) : Calls Tryz.prog 22 #[.pointer (some ⟨g, 0, none⟩)] w fun e w' => e = .returned (.bool (!m)) ∧ w = w' := by
 have c0 : w.cell? ⟨g, 0, none⟩ = some (.bool m) := h.cell 0
 clear h
 cases m <;>
 · go_enter Tryz.func22, Tryz.ntmps22
   go_wp2
   go_ret
   exact ⟨rfl, rfl⟩
theorem base_is (g : Nat) (b : Int) (y z : Value) (w : World) (h : Blk w g 65 #[.bool true, .int .u64 b, y, z]) : Calls Tryz.prog 31 #[.pointer (some ⟨g, 0, none⟩)] w fun e w' => e = .returned (.int .u64 b) ∧ w = w' := by
 have c1 : w.cell? ⟨g, 1, none⟩ = some (.int .u64 b) := h.cell 1
 have HN := Lib.hid (none_is g true _ _ _ w h)
 clear h
 go_enter Tryz.func31, Tryz.ntmps31
 go_wp2_with (go_at_call 22; (with_reducible refine HN.out.mono ?_); rintro e w1 ⟨rfl, rfl⟩)
 go_ret
 exact ⟨rfl, rfl⟩
theorem size_is (g : Nat) (s : Int) (x y : Value) (w : World) (h : Blk w g 65 #[.bool true, x, y, .int .i64 s]) : Calls Tryz.prog 34 #[.pointer (some ⟨g, 0, none⟩)] w fun e w' => e = .returned (.int .i64 s) ∧ w = w' := by
 have c3 : w.cell? ⟨g, 3, none⟩ = some (.int .i64 s) := h.cell 3
 have HN := Lib.hid (none_is g true _ _ _ w h)
 clear h
 go_enter Tryz.func34, Tryz.ntmps34
 go_wp2_with (go_at_call 22; (with_reducible refine HN.out.mono ?_); rintro e w1 ⟨rfl, rfl⟩)
 go_ret
 exact ⟨rfl, rfl⟩
theorem len_is (g : Nat) (x z : Value) (A : Option Addr) (k c : Nat) (w : World) (h : Blk w g 65 #[.bool true, x, .slice A k c, z]) : Calls Tryz.prog 33 #[.pointer (some ⟨g, 0, none⟩)] w fun e w' => e = .returned (.int .i64 k) ∧ w = w' := by
 have c2 : w.cell? ⟨g, 2, none⟩ = some (.slice A k c) := h.cell 2
 have HN := Lib.hid (none_is g true _ _ _ w h)
 clear h
 go_enter Tryz.func33, Tryz.ntmps33
 go_wp2_with (go_at_call 22; (with_reducible refine HN.out.mono ?_); rintro e w1 ⟨rfl, rfl⟩)
 go_ret
 exact ⟨rfl, rfl⟩
theorem end_is (g b k c E : Nat) (A : Option Addr) (z : Value) (w : World) (h : Blk w g 65 #[.bool true, .int .u64 b, .slice A k c, z]) (hb : b ≤ 9000000000000000000) (hk : k ≤ 1000000) (hE : E = b + k) : Calls Tryz.prog 23 #[.pointer (some ⟨g, 0, none⟩)] w fun e w' => e = .returned (.int .u64 E) ∧ w = w' := by
 have HB := Lib.hid (base_is g b _ _ w h)
 have HL := Lib.hid (len_is g _ _ A k c w h)
 have h4 : IntKind.u64.wrap ((b : Int) + (k : Int)) = (b : Int) + (k : Int) := by rw [IntKind.wrap_u64]; omega
 have h5 : IntKind.u64.wrap ((k : Int)) = (k : Int) := by rw [IntKind.wrap_u64]; omega
 have HE := Lib.hid hE
 clear h hE
 go_enter Tryz.func23, Tryz.ntmps23
 go_wp2_with (first
   | (go_at_call 31; (with_reducible refine HB.out.mono ?_); rintro e w1 ⟨rfl, rfl⟩)
   | (go_at_call 33; (with_reducible refine HL.out.mono ?_); rintro e w1 ⟨rfl, rfl⟩))
 go_ret
 exact ⟨by rw [HE.out]; simp, rfl⟩
theorem index_in (g b k c i m : Nat) (A : Option Addr) (z : Value) (w : World) (h : Blk w g 65 #[.bool true, .int .u64 b, .slice A k c, z]) (hb : b ≤ 9000000000000000000) (hk : k ≤ 1000000) (hm : m = b + i) (hi : i ≤ k) : Calls Tryz.prog 35 #[.pointer (some ⟨g, 0, none⟩), .int .u64 m] w fun e w' => e = .returned (.tuple #[.int .i64 i, .int .i64 0]) ∧ w = w' := by
 have c1 : w.cell? ⟨g, 1, none⟩ = some (.int .u64 b) := h.cell 1
 have HN := Lib.hid (none_is g true _ _ _ w h)
 obtain ⟨E, hE⟩ : ∃ E, E = b + k := ⟨_, rfl⟩
 have HE := Lib.hid (end_is g b k c E A z w h hb hk hE)
 have d1 : decide (m < b) = false := by simp; omega
 have d2 : decide (E < m) = false := by simp; omega
 have e1 : IntKind.u64.wrap ((m : Int) - (b : Int)) = (i : Int) := by rw [IntKind.wrap_u64]; omega
 have e3 : i ≤ 1000000 := by omega
 clear h hE hm hi
 go_enter Tryz.func35, Tryz.ntmps35
 go_wp2_with (first
   | (go_at_call 22; (with_reducible refine HN.out.mono ?_); rintro e w1 ⟨rfl, rfl⟩)
   | (go_at_call 23; (with_reducible refine HE.out.mono ?_); rintro e w1 ⟨rfl, rfl⟩))
 go_ret2
 exact ⟨rfl, rfl⟩
theorem index_out (g b k c m : Nat) (A : Option Addr) (z : Value) (w : World) (h : Blk w g 65 #[.bool true, .int .u64 b, .slice A k c, z]) (hb : b ≤ 9000000000000000000) (hk : k ≤ 1000000) (hm : m < b ∨ b + k < m) : Calls Tryz.prog 35 #[.pointer (some ⟨g, 0, none⟩), .int .u64 m] w fun e w' => e = .returned (.tuple #[.int .i64 0, .int .i64 8]) ∧ w = w' := by
 have c1 : w.cell? ⟨g, 1, none⟩ = some (.int .u64 b) := h.cell 1
 have HN := Lib.hid (none_is g true _ _ _ w h)
 obtain ⟨E, hE⟩ : ∃ E, E = b + k := ⟨_, rfl⟩
 have HE := Lib.hid (end_is g b k c E A z w h hb hk hE)
 by_cases hlt : m < b
 · have d1 : decide (m < b) = true := by simp; omega
   clear h hE hm
   go_enter Tryz.func35, Tryz.ntmps35
   go_wp2_with (first
     | (go_at_call 22; (with_reducible refine HN.out.mono ?_); rintro e w1 ⟨rfl, rfl⟩)
     | (go_at_call 23; (with_reducible refine HE.out.mono ?_); rintro e w1 ⟨rfl, rfl⟩))
   go_ret2
   exact ⟨rfl, rfl⟩
 · have d1 : decide (m < b) = false := by simp; omega
   have d2 : decide (E < m) = true := by simp; omega
   clear h hE hm hlt
   go_enter Tryz.func35, Tryz.ntmps35
   go_wp2_with (first
     | (go_at_call 22; (with_reducible refine HN.out.mono ?_); rintro e w1 ⟨rfl, rfl⟩)
     | (go_at_call 23; (with_reducible refine HE.out.mono ?_); rintro e w1 ⟨rfl, rfl⟩))
   go_ret2
   exact ⟨rfl, rfl⟩
end Go.Proofs.YtniaijgejljjbaaGreat.Tlv
namespace Go.Proofs.YtniaijgejljjbaaGreat.Tlv
open Go.RowKit
set_option maxRecDepth 100000
set_option linter.unusedVariables false
set_option linter.unusedSimpArgs false
abbrev itCs (c n : Int) (o : Opn) (va vp vc : Value) (s : Int) : Array Value := #[.int .u64 c, .int .u64 n, .int .i64 o.k, .string (sx o.name), .string (sx o.dst), va, vp, vc, .int .i64 o.n, .int .i64 s]
abbrev itZ : Array Value := #[.int .u64 0, .int .u64 0, .int .i64 0, .string ⟨#[]⟩, .string ⟨#[]⟩, .slice none 0 0, .slice none 0 0, .slice none 0 0, .int .i64 0, .int .i64 0]
abbrev itA (x : Rq) : Value := .agg (itCs x.c x.n x.o x.va x.vp x.vc (szQ x.c x.n x.o : Nat))
def ItOut (m : Mq) (w : World) (e : Ending) (w' : World) : Prop := ∃ x : Rq, x.m = m ∧ e = .returned (.tuple #[itA x, .int .i64 0]) ∧ OpOwn w' w.heap.size x.o x.va x.vp x.vc ∧ Below w.heap.size w w'
set_option maxHeartbeats 16000000 in
theorem itemOf_yes (c n : Int) (o : Opn) (va vp vc : Value) (w : World) (hg : Mq.Good ⟨c, n, o⟩) (ho : OpAt w o va vp vc) : Calls Tryz.prog 18 #[rqVal c n o va vp vc] w (ItOut ⟨c, n, o⟩ w) := by
 have HOR := Lib.hid (And.intro ho hg)
 obtain ⟨Aa, ca, na, rfl, _, _⟩ := rdv_len ho.a
 obtain ⟨Ap, cp, np, rfl⟩ := ho.p.len
 obtain ⟨Ac, cc, nc, rfl, _⟩ := ho.c.len
 clear ho hg
 have hb1 := (Below.refl w.heap.size w).alloc (Nat.le_refl _) (.cells (rqCs c n o (.slice Aa na ca) (.slice Ap np cp) (.slice Ac nc cc)) 46)
 have hb2 := hb1.alloc hb1.size (.cells itZ 61)
 have k0 := (Blk.new w 46 (rqCs c n o (.slice Aa na ca) (.slice Ap np cp) (.slice Ac nc cc))).alloc (.cells itZ 61)
 have k1 := Blk.new (w.alloc (.cells (rqCs c n o (.slice Aa na ca) (.slice Ap np cp) (.slice Ac nc cc)) 46)) 61 itZ
 rw [World.size_alloc] at k1
 have hsz : ((w.alloc (.cells (rqCs c n o (.slice Aa na ca) (.slice Ap np cp) (.slice Ac nc cc)) 46)).alloc (.cells itZ 61)).heap.size = w.heap.size + 1 + 1 := by simp
 obtain ⟨B1, hB1⟩ : ∃ b, b = w.heap.size := ⟨_, rfl⟩
 have H0 := Lib.hid (And.intro hb2 (And.intro (hB1 ▸ k0) (And.intro (hB1 ▸ k1) (hB1 ▸ hsz))))
 clear hb1 hb2 k0 k1 hsz
 go_enter Tryz.func18, Tryz.ntmps18
 go_upto_region 1 with fail
 rw [← hB1]
 generalize (w.alloc (.cells (rqCs c n o (.slice Aa na ca) (.slice Ap np cp) (.slice Ac nc cc)) 46)).alloc (.cells #[.int .u64 0, .int .u64 0, .int .i64 0, .string ⟨#[]⟩, .string ⟨#[]⟩, .slice none 0 0, .slice none 0 0, .slice none 0 0, .int .i64 0, .int .i64 0] 61) = W0 at H0 ⊢
 have HBB := Lib.hid hB1
 clear hB1
 have HR := Lib.hid (reqBytes_yes c n o _ _ _ W0 HOR.out.2.ok.c HOR.out.2.ok.n (HOR.out.1.on H0.out.1) HOR.out.2.ok.lim HOR.out.2.may)
 go_upto_region 4 with (first
   | (refine wpList_load_row rfl 46 _ rfl B1 rfl 46 (rqCs c n o (.slice Aa na ca) (.slice Ap np cp) (.slice Ac nc cc)) (0, 0) _ H0.out.2.1 rfl rfl (by kernel_rfl) ?_)
   | (go_at_call 38; (with_reducible refine HR.out.mono ?_); clear HR; rintro e w1 ⟨A1, n1, c1, rfl, hn1, _, hb1⟩; dsimp only; have H1 := Lib.hid (And.intro hn1 hb1); clear hn1 hb1))
 have HC := Lib.hid (copyRq c n o _ _ _ w1 (HOR.out.1.on (H0.out.1.trans (H1.out.2.mono H0.out.1.size))) HOR.out.2.ok.lim HOR.out.2.ok.cur)
 have hn1 : n1 ≤ 300000 := by rw [H1.out.1]; exact rqB_few HOR.out.2.may
 go_wp2_with (first
   | (refine wpList_load_row rfl 46 _ rfl B1 rfl 46 (rqCs c n o (.slice Aa na ca) (.slice Ap np cp) (.slice Ac nc cc)) (0, 0) _ (H0.out.2.1.on H1.out.2) rfl rfl (by kernel_rfl) ?_)
   | (go_at_call 37; (with_reducible refine HC.out.mono ?_); clear HC; rintro e w2 ⟨A2, n2, c2, A3, n3, c3, A4, n4, c4, rfl, hown, hb2⟩; dsimp only; have H2 := Lib.hid (And.intro hown hb2); clear hown hb2)
   | (refine wpList_buildTo rfl 61 _ rfl (some 18) rfl (itCs c n o (.slice A2 n2 c2) (.slice A3 n3 c3) (.slice A4 n4 c4) n1) (by kernel_rfl) ?_)
   | (refine wpList_store_rowTo rfl 61 _ _ rfl rfl (B1 + 1) (itCs c n o (.slice A2 n2 c2) (.slice A3 n3 c3) (.slice A4 n4 c4) n1) rfl rfl 61 itZ (H0.out.2.2.1.on (H1.out.2.trans (H2.out.2.mono H1.out.2.size))) (by kernel_rfl) rfl (by kernel_rfl) ?_))
 have hbX := H1.out.2.trans (H2.out.2.mono H1.out.2.size)
 have h9 := (H0.out.2.2.1.on hbX).row (itCs c n o (.slice A2 n2 c2) (.slice A3 n3 c3) (.slice A4 n4 c4) n1)
 have h8 := below_setRow (H0.out.1.trans (hbX.mono H0.out.1.size)) (show w.heap.size ≤ B1 + 1 by have := HBB.out; omega) (itCs c n o (.slice A2 n2 c2) (.slice A3 n3 c3) (.slice A4 n4 c4) n1)
 have h7 : OpOwn (w2.setRow (B1 + 1) (itCs c n o (.slice A2 n2 c2) (.slice A3 n3 c3) (.slice A4 n4 c4) n1)) w1.heap.size o (.slice A2 n2 c2) (.slice A3 n3 c3) (.slice A4 n4 c4) := H2.out.1.keep fun k h1 h2 => setRow_other _ _ k _ (by have := H0.out.2.2.2; have := H1.out.2.size; omega)
 have t0 := h9.cell 0
 have t1 := h9.cell 1
 have t2 := h9.cell 2
 have t3 := h9.cell 3
 have t4 := h9.cell 4
 have t5 := h9.cell 5
 have t6 := h9.cell 6
 have t7 := h9.cell 7
 have t8 := h9.cell 8
 have t9 := h9.cell 9
 have HF := Lib.hid (And.intro (h7.low (Nat.le_trans H0.out.1.size H1.out.2.size)) h8)
 clear h7 h8 h9 hbX
 generalize w2.setRow (B1 + 1) (itCs c n o (.slice A2 n2 c2) (.slice A3 n3 c3) (.slice A4 n4 c4) n1) = w5 at t0 t1 t2 t3 t4 t5 t6 t7 t8 t9 HF ⊢
 refine bodyPost_ret (v := .tuple #[.agg (itCs c n o (.slice A2 n2 c2) (.slice A3 n3 c3) (.slice A4 n4 c4) n1), .int .i64 0]) ?_ rfl ⟨⟨c, n, o, A2, n2, c2, A3, n3, c3, A4, n4, c4⟩, rfl, ?_, HF.out.1, HF.out.2⟩
 · simp at t0 t1 t2 t3 t4 t5 t6 t7 t8 t9
   simp [results, Tryz.f18, go_sem, t0, t1, t2, t3, t4, t5, t6, t7, t8, t9]
 · show _ = Ending.returned (.tuple #[.agg (itCs c n o (.slice A2 n2 c2) (.slice A3 n3 c3) (.slice A4 n4 c4) (szQ c n o : Nat)), .int .i64 0])
   rw [show szQ c n o = n1 from H1.out.1.symm]
set_option maxHeartbeats 16000000 in
theorem itemOf_no (c n : Int) (o : Opn) (va vp vc : Value) (w : World) (hg : Lim o) (ho : OpAt w o va vp vc) (hm : mayO o = false) : Calls Tryz.prog 18 #[rqVal c n o va vp vc] w fun e w' => e = .returned (.tuple #[.agg itZ, .int .i64 2]) ∧ Below w.heap.size w w' := by
 have HOR := Lib.hid (And.intro ho (And.intro hg hm))
 clear hm
 obtain ⟨Aa, ca, na, rfl, _, _⟩ := rdv_len ho.a
 obtain ⟨Ap, cp, np, rfl⟩ := ho.p.len
 obtain ⟨Ac, cc, nc, rfl, _⟩ := ho.c.len
 clear ho hg
 have hb1 := (Below.refl w.heap.size w).alloc (Nat.le_refl _) (.cells (rqCs c n o (.slice Aa na ca) (.slice Ap np cp) (.slice Ac nc cc)) 46)
 have hb2 := hb1.alloc hb1.size (.cells itZ 61)
 have k0 := (Blk.new w 46 (rqCs c n o (.slice Aa na ca) (.slice Ap np cp) (.slice Ac nc cc))).alloc (.cells itZ 61)
 have k1 := Blk.new (w.alloc (.cells (rqCs c n o (.slice Aa na ca) (.slice Ap np cp) (.slice Ac nc cc)) 46)) 61 itZ
 rw [World.size_alloc] at k1
 have hsz : ((w.alloc (.cells (rqCs c n o (.slice Aa na ca) (.slice Ap np cp) (.slice Ac nc cc)) 46)).alloc (.cells itZ 61)).heap.size = w.heap.size + 1 + 1 := by simp
 obtain ⟨B1, hB1⟩ : ∃ b, b = w.heap.size := ⟨_, rfl⟩
 have H0 := Lib.hid (And.intro hb2 (And.intro (hB1 ▸ k0) (And.intro (hB1 ▸ k1) (hB1 ▸ hsz))))
 clear hb1 hb2 k0 k1 hsz
 go_enter Tryz.func18, Tryz.ntmps18
 go_upto_region 1 with fail
 rw [← hB1]
 generalize (w.alloc (.cells (rqCs c n o (.slice Aa na ca) (.slice Ap np cp) (.slice Ac nc cc)) 46)).alloc (.cells #[.int .u64 0, .int .u64 0, .int .i64 0, .string ⟨#[]⟩, .string ⟨#[]⟩, .slice none 0 0, .slice none 0 0, .slice none 0 0, .int .i64 0, .int .i64 0] 61) = W0 at H0 ⊢
 have HBB := Lib.hid hB1
 clear hB1
 have HR := Lib.hid (reqBytes_no c n o _ _ _ W0 (HOR.out.1.on H0.out.1) HOR.out.2.1 HOR.out.2.2)
 go_wp2_with (first
   | (refine wpList_load_row rfl 46 _ rfl B1 rfl 46 (rqCs c n o (.slice Aa na ca) (.slice Ap np cp) (.slice Ac nc cc)) (0, 0) _ H0.out.2.1 rfl rfl (by kernel_rfl) ?_)
   | (go_at_call 38; (with_reducible refine HR.out.mono ?_); clear HR; rintro e w1 ⟨rfl, hb1⟩; dsimp only; have H1 := Lib.hid hb1; clear hb1)
   | (refine wpList_buildTo rfl 61 _ rfl (some 13) rfl itZ (by kernel_rfl) ?_)
   | (refine wpList_store_rowTo rfl 61 _ _ rfl rfl (B1 + 1) itZ rfl rfl 61 itZ (H0.out.2.2.1.on H1.out) (by kernel_rfl) rfl (by kernel_rfl) ?_))
 have h9 := (H0.out.2.2.1.on H1.out).row itZ
 have h8 := below_setRow (H0.out.1.trans (H1.out.mono H0.out.1.size)) (show w.heap.size ≤ B1 + 1 by have := HBB.out; omega) itZ
 have t0 := h9.cell 0
 have t1 := h9.cell 1
 have t2 := h9.cell 2
 have t3 := h9.cell 3
 have t4 := h9.cell 4
 have t5 := h9.cell 5
 have t6 := h9.cell 6
 have t7 := h9.cell 7
 have t8 := h9.cell 8
 have t9 := h9.cell 9
 have HF := Lib.hid h8
 clear h8 h9
 generalize w1.setRow (B1 + 1) itZ = w5 at t0 t1 t2 t3 t4 t5 t6 t7 t8 t9 HF ⊢
 refine bodyPost_ret (v := .tuple #[.agg itZ, .int .i64 2]) ?_ rfl ⟨rfl, HF.out⟩
 simp at t0 t1 t2 t3 t4 t5 t6 t7 t8 t9
 simp [results, Tryz.f18, go_sem, t0, t1, t2, t3, t4, t5, t6, t7, t8, t9]
end Go.Proofs.YtniaijgejljjbaaGreat.Tlv
