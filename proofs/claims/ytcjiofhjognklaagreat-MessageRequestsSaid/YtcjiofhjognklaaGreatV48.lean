/- What is taken off a request's bytes; an operation that was made elsewhere stays where a request's block is written. -/
import Derived.Test.YtcjiofhjognklaaGreatV47
namespace Go.Proofs.YtcjiofhjognklaaGreat.Tlv
open Go.RowKit
set_option maxRecDepth 100000
set_option linter.unusedVariables false
set_option linter.unusedSimpArgs false
abbrev Cn (c n : Int) : Prop := (0 ≤ c ∧ c < 18446744073709551616) ∧ (0 ≤ n ∧ n < 18446744073709551616)
abbrev tq1 (l : List Int) := numV (tk false l 1)
abbrev tq2 (l : List Int) := numV (tk (tq1 l).2.1 (tq1 l).2.2 2)
abbrev tq3 (l : List Int) := tk (tq2 l).2.1 (tq2 l).2.2 3
theorem tk_vlen {f : Bool} {r : List Int} {tag : Int} (hb : Byt r) : ((tk f r tag).1.getD []).length ≤ r.length := by
 cases h : tk f r tag with
 | mk o q =>
   obtain ⟨q1, q2⟩ := q
   cases o with
   | none => exact Nat.zero_le _
   | some v =>
     obtain ⟨_, _, _, h4, _⟩ := tk_some hb h
     have := congrArg List.length h4
     simp only [valB_length, List.length_append] at this
     show v.length ≤ _
     omega
theorem tq_byt {l : List Int} (hb : Byt l) : Byt (tq1 l).2.2 ∧ Byt (tq2 l).2.2 ∧ Byt ((tq3 l).1.getD []) ∧ ((tq3 l).1.getD []).length ≤ l.length := by
 have h1 : Byt (tq1 l).2.2 := by unfold tq1; rw [numV_rest]; exact (tk_byt hb).2.1
 have h2 : Byt (tq2 l).2.2 := by unfold tq2; rw [numV_rest]; exact (tk_byt h1).2.1
 refine ⟨h1, h2, (tk_byt h2).1, ?_⟩
 have e1 : (tq1 l).2.2.length ≤ l.length := by unfold tq1; rw [numV_rest]; exact tk_len
 have e2 : (tq2 l).2.2.length ≤ (tq1 l).2.2.length := by unfold tq2; rw [numV_rest]; exact tk_len
 have e3 := tk_vlen (f := (tq2 l).2.1) (tag := 3) h2
 show ((tk (tq2 l).2.1 (tq2 l).2.2 3).1.getD []).length ≤ l.length
 omega
theorem rq_sound {l : List Int} (hb : Byt l) (e1 : (tq3 l).2.1 = false) (e2 : (tq3 l).2.2 = []) : l = [] ++ numB 1 (tq1 l).1 ++ numB 2 (tq2 l).1 ++ valB 3 ((tq3 l).1.getD []) ∧ Cn (tq1 l).1 (tq2 l).1 := by
 obtain ⟨b1, b2, _⟩ := tq_byt hb
 have h1 := took_numV (f := false) (tag := 1) hb (by decide)
 have h2 := took_numV (f := (tq1 l).2.1) (tag := 2) b1 (by decide)
 have h3 := took_bytes (f := (tq2 l).2.1) (tag := 3) b2 (by decide)
 obtain ⟨x1, x2, x3⟩ := h3.1 e1
 obtain ⟨y1, y2, y3⟩ := h2.1 x1
 obtain ⟨z1, z2, z3⟩ := h1.1 y1
 refine ⟨?_, ⟨z3.1, by have := z3.2; show (numV (tk false l 1)).1 < _; omega⟩, ⟨y3.1, by have := y3.2; show (numV (tk (tq1 l).2.1 (tq1 l).2.2 2)).1 < _; omega⟩⟩
 have e2' : (tk (tq2 l).2.1 (tq2 l).2.2 3).2.2 = [] := e2
 rw [e2', List.append_nil] at x2
 have a : l = numB 1 (tq1 l).1 ++ (tq1 l).2.2 := z2
 have b : (tq1 l).2.2 = numB 2 (tq2 l).1 ++ (tq2 l).2.2 := y2
 have c : (tq2 l).2.2 = valB 3 ((tq3 l).1.getD []) := x2
 rw [List.nil_append, List.append_assoc, ← c, ← b, ← a]
theorem rq_cmp {l : List Int} (hb : Byt l) {c n : Int} {o : Opn} (hcn : Cn c n) (hm : mayO o = true) (hl : l = rqB c n o) : (tq1 l).1 = c ∧ (tq2 l).1 = n ∧ (tq3 l).1.getD [] = opB o ∧ (tq3 l).2.1 = false ∧ (tq3 l).2.2 = [] := by
 obtain ⟨b1, b2, _⟩ := tq_byt hb
 have h1 := took_numV (f := false) (tag := 1) hb (by decide)
 have h2 := took_numV (f := (tq1 l).2.1) (tag := 2) b1 (by decide)
 have h3 := took_bytes (f := (tq2 l).2.1) (tag := 3) b2 (by decide)
 have hby : Byt (opB o) := fun x hx => hb x (by rw [hl]; simp [rqB, valB, hx])
 have e0 : l = numB 1 c ++ (numB 2 n ++ valB 3 (opB o)) := by rw [hl]; simp [rqB]
 obtain ⟨x1, x2, x3⟩ := h1.2 rfl c _ ⟨hcn.1.1, by have := hcn.1.2; omega⟩ e0
 obtain ⟨y1, y2, y3⟩ := h2.2 x2 n _ ⟨hcn.2.1, by have := hcn.2.2; omega⟩ x3
 obtain ⟨z1, z2, z3⟩ := h3.2 y2 (opB o) [] ⟨Nat.le_trans (opB_few hm) (by decide), hby⟩ (by rw [List.append_nil]; exact y3)
 exact ⟨x1, y1, z1, z2, z3⟩
theorem rq_inj {l : List Int} (hb : Byt l) {c n c2 n2 : Int} {o p : Opn} (hcn : Cn c n) (hcn2 : Cn c2 n2) (ho : mayO o = true) (hp : mayO p = true) (h1 : l = rqB c n o) (h2 : l = rqB c2 n2 p) : c = c2 ∧ n = n2 ∧ o = p := by
 obtain ⟨x1, x2, x3, _⟩ := rq_cmp hb hcn ho h1
 obtain ⟨y1, y2, y3, _⟩ := rq_cmp hb hcn2 hp h2
 exact ⟨x1.symm.trans y1, x2.symm.trans y2, opB_inj (tq_byt hb).2.2.1 ho hp x3 y3⟩
abbrev zQ : Array Value := #[.int .u64 0, .int .u64 0, .int .i64 0, .string ⟨#[]⟩, .string ⟨#[]⟩, .slice none 0 0, .slice none 0 0, .slice none 0 0, .int .i64 0]
abbrev hQ (c n : Int) : Array Value := #[.int .u64 c, .int .u64 n, .int .i64 0, .string ⟨#[]⟩, .string ⟨#[]⟩, .slice none 0 0, .slice none 0 0, .slice none 0 0, .int .i64 0]
theorem rdc_apart {W W' : World} {B : Nat} {v : Value} {bs : List Int} {cs : Array Value} (h : RdC W v bs) (hk : Blk W B 57 cs) (hcs : ∀ (i : Nat) (x : Int), cs[i]? ≠ some (Value.int .u8 x)) (hs : ∀ k, k ≠ B → W'.heap[k]? = W.heap[k]?) (hz : W.heap.size ≤ W'.heap.size) : RdC W' v bs := by
 obtain ⟨A, c, e, h0, h1⟩ := h
 refine ⟨A, c, e, h0, fun hp => ?_⟩
 obtain ⟨b, off, e2, hl, hc⟩ := h1 hp
 have hne : b ≠ B := fun e3 => by
   subst e3
   have h3 := hc 0 hp
   rw [hk.cell] at h3
   exact hcs _ _ h3
 refine ⟨b, off, e2, Nat.lt_of_lt_of_le hl hz, fun j hj => ?_⟩
 exact (World.cell?_of_block (w := W) (a := ⟨b, off + j, none⟩) (hs b hne)).trans (hc j hj)
theorem opNew_apart {W W' : World} {B base : Nat} {o : Opn} {va vp vc : Value} {cs : Array Value} (h : OpNew W base o va vp vc) (hk : Blk W B 57 cs) (hcs : ∀ (i : Nat) (x : Int), cs[i]? ≠ some (Value.int .u8 x)) (hs : ∀ k, k ≠ B → W'.heap[k]? = W.heap[k]?) (hz : W.heap.size ≤ W'.heap.size) : OpNew W' base o va vp vc :=
 ⟨RowK.fit h.a fun k e => hs k (fun e2 => by
     obtain ⟨_, _, cs', hc⟩ := own_at h.a e
     exact blk_ne hc hk (by decide) e2),
  RowK.fitT h.p fun k e => hs k (fun e2 => by
     obtain ⟨_, _, cs', hc⟩ := own_atT h.p e
     exact blk_ne hc hk (by decide) e2),
  rdc_apart h.c hk hcs hs hz⟩
theorem OpNew.on {W W' : World} {base : Nat} {o : Opn} {va vp vc : Value} (h : OpNew W base o va vp vc) (hb : Below W.heap.size W W') : OpNew W' base o va vp vc :=
 ⟨RowK.fit h.a fun k e => by
     obtain ⟨_, hl, cs', hc⟩ := own_at h.a e
     exact hb.block k (Blk.lt hc),
  RowK.onT h.p hb, h.c.on hb⟩
theorem hQ_u8 (c n : Int) : ∀ (i : Nat) (x : Int), (hQ c n)[i]? ≠ some (Value.int .u8 x) := fun i x h => by
 rcases i with _ | _ | _ | _ | _ | _ | _ | _ | _ | i <;> simp [hQ] at h
theorem setCells_other (g k : Nat) (hne : k ≠ g) : ∀ (vs : List Value) (o : Nat) (w : World), (w.setCells g o vs).heap[k]? = w.heap[k]?
 | [], o, w => rfl
 | v :: vs, o, w => (setCells_other g k hne vs (o + 1) (w.setCell ⟨g, o, none⟩ v)).trans (Below.heap_setCell w ⟨g, o, none⟩ v k hne)
theorem setCells_size (g : Nat) : ∀ (vs : List Value) (o : Nat) (w : World), (w.setCells g o vs).heap.size = w.heap.size
 | [], o, w => rfl
 | v :: vs, o, w => (setCells_size g vs (o + 1) (w.setCell ⟨g, o, none⟩ v)).trans (World.size_setCell w ⟨g, o, none⟩ v)
theorem opOf_new (A : Option Addr) (c : Nat) (l : List Int) (w : World) (hr : Rd w w.heap.size A l) (hby : Byt l) (hn : l.length ≤ 100000000) :
   Calls Tryz.prog 10 #[.slice A l.length c] w fun e w' => ∃ ob Aa na ca Ap np cp Ac nc cc k, e = .returned (.tuple #[opVal ob (.slice Aa na ca) (.slice Ap np cp) (.slice Ac nc cc), .int .i64 k]) ∧ ((mayO ob = true ∧ l = opB ob ∧ k = 0 ∧ OpNew w' w.heap.size ob (.slice Aa na ca) (.slice Ap np cp) (.slice Ac nc cc) ∧ Lim ob) ∨ ((∀ o, mayO o = true → l ≠ opB o) ∧ k = 4)) ∧ Below w.heap.size w w' :=
 (opOf_any A c l w hr hby hn).mono fun e w' h => by
   rcases h with ⟨o, va, vp, vc, h1, h2, rfl, h4, h5, h6⟩ | ⟨h1, rfl, h3⟩
   · obtain ⟨A1, c1, n1, rfl, _, _⟩ := rdv_len h4.at.a
     obtain ⟨A2, c2, n2, rfl⟩ := h4.at.p.len
     obtain ⟨A3, c3, n3, rfl, _⟩ := h4.at.c.len
     exact ⟨o, A1, n1, c1, A2, n2, c2, A3, n3, c3, 0, rfl, .inl ⟨h1, h2, rfl, h4, h5⟩, h6⟩
   · exact ⟨o0 0, none, 0, 0, none, 0, 0, none, 0, 0, 4, rfl, .inr ⟨h1, rfl⟩, h3⟩
theorem refOpOf_new (A : Option Addr) (c : Nat) (l : List Int) (w : World) (hr : Rd w w.heap.size A l) (hby : Byt l) (hn : l.length ≤ 1000000) (hc : l.length ≤ c) (hcm : c ≤ 9223372036854775807) :
   Calls Tryz.prog 11 #[.slice A l.length c] w fun e w' => ∃ ob Aa na ca Ap np cp Ac nc cc k, e = .returned (.tuple #[opVal ob (.slice Aa na ca) (.slice Ap np cp) (.slice Ac nc cc), .bool k]) ∧ ((mayO ob = true ∧ l = opB ob ∧ k = true ∧ OpNew w' w.heap.size ob (.slice Aa na ca) (.slice Ap np cp) (.slice Ac nc cc) ∧ Lim ob) ∨ ((∀ o, mayO o = true → l ≠ opB o) ∧ k = false)) ∧ Below w.heap.size w w' :=
 (refOpOf_any A c l w hr hby hn hc hcm).mono fun e w' h => by
   rcases h with ⟨o, va, vp, vc, h1, h2, rfl, h4, h5, h6⟩ | ⟨h1, rfl, h3⟩
   · obtain ⟨A1, c1, n1, rfl, _, _⟩ := rdv_len h4.at.a
     obtain ⟨A2, c2, n2, rfl⟩ := h4.at.p.len
     obtain ⟨A3, c3, n3, rfl, _⟩ := h4.at.c.len
     exact ⟨o, A1, n1, c1, A2, n2, c2, A3, n3, c3, true, rfl, .inl ⟨h1, h2, rfl, h4, h5⟩, h6⟩
   · exact ⟨o0 0, none, 0, 0, none, 0, 0, none, 0, 0, false, rfl, .inr ⟨h1, rfl⟩, h3⟩
structure QS (w : World) (g Bq : Nat) (c n : Int) (f : Bool) (r : List Int) (W : World) : Prop where
 bel : Below w.heap.size w W
 rr : Blk W w.heap.size 57 zQ
 qq : Blk W Bq 57 (hQ c n)
 rs : RS W g g f r
 n1 : w.heap.size < g
 n2 : g < Bq
theorem QS.gr {w W W' : World} {g Bq : Nat} {c n : Int} {f f' : Bool} {r r' : List Int} (h : QS w g Bq c n f r W) (hg : W.grownBy W' (some g)) (hs : RS W' g g f' r') : QS w g Bq c n f' r' W' := by
 have h1 := h.n1
 have h2 := h.n2
 exact ⟨h.bel.trans (below_grown hg (by omega) (by have := h.bel.size; omega)), h.rr.grown hg (fun e => by injection e with e; omega), h.qq.grown hg (fun e => by injection e with e; omega), hs, h1, h2⟩
theorem QS.on {w W W' : World} {g Bq : Nat} {c n : Int} {f : Bool} {r : List Int} (h : QS w g Bq c n f r W) (hb : Below W.heap.size W W') : QS w g Bq c n f r W' :=
 ⟨h.bel.trans (hb.mono h.bel.size), h.rr.on hb, h.qq.on hb, h.rs.on hb, h.n1, h.n2⟩
def RqOfOut (w : World) (l : List Int) (e : Ending) (w' : World) : Prop :=
 (∃ (c n : Int) (o : Opn) (va vp vc : Value), Cn c n ∧ mayO o = true ∧ l = rqB c n o ∧ e = .returned (.tuple #[rqVal c n o va vp vc, .int .i64 0]) ∧ OpAt w' o va vp vc ∧ Lim o ∧ Below w.heap.size w w') ∨
 ((∀ c n o, Cn c n → mayO o = true → l ≠ rqB c n o) ∧ e = .returned (.tuple #[.agg zQ, .int .i64 4]) ∧ Below w.heap.size w w')
theorem setMany_rq (c n : Int) (o : Opn) (va vp vc : Value) : setMany (hQ c n) 2 (opCs o va vp vc).toList = rqCs c n o va vp vc := by kernel_rfl
theorem QS.fin {w W : World} {g Bq base : Nat} {c n : Int} {f : Bool} {r : List Int} {o : Opn} {va vp vc : Value} (h : QS w g Bq c n f r W) (ho : OpNew W base o va vp vc) :
   OpAt ((W.setCells Bq 2 (opCs o va vp vc).toList).setRow w.heap.size (rqCs c n o va vp vc)) o va vp vc ∧ Below w.heap.size w ((W.setCells Bq 2 (opCs o va vp vc).toList).setRow w.heap.size (rqCs c n o va vp vc)) ∧ Blk ((W.setCells Bq 2 (opCs o va vp vc).toList).setRow w.heap.size (rqCs c n o va vp vc)) w.heap.size 57 (rqCs c n o va vp vc) := by
 have h1 := h.n1
 have h2 := h.n2
 have hb := below_setCells (g := Bq) (by omega) (opCs o va vp vc).toList 2 W h.bel
 have hr : Blk (W.setCells Bq 2 (opCs o va vp vc).toList) w.heap.size 57 zQ := Blk.manyFar (by omega) _ 2 W _ h.rr
 have e1 := opNew_apart ho h.qq (hQ_u8 c n) (W' := W.setCells Bq 2 (opCs o va vp vc).toList) (fun k hk => setCells_other Bq k hk _ _ _) (Nat.le_of_eq (setCells_size _ _ _ _).symm)
 have hb2 := below_setRow hb (Nat.le_refl _) (rqCs c n o va vp vc)
 have e2 := opNew_apart e1 hr (hQ_u8 0 0) (W' := (W.setCells Bq 2 (opCs o va vp vc).toList).setRow w.heap.size (rqCs c n o va vp vc)) (fun k hk => setRow_other _ _ k _ hk) (below_setRow (Below.refl 0 _) (Nat.zero_le _) (rqCs c n o va vp vc)).size
 exact ⟨e2.at, hb2, hr.row _⟩
theorem QS.zero {w W : World} {g Bq : Nat} {c n : Int} {f : Bool} {r : List Int} (h : QS w g Bq c n f r W) : Below w.heap.size w (W.setRow w.heap.size zQ) ∧ Blk (W.setRow w.heap.size zQ) w.heap.size 57 zQ :=
 ⟨below_setRow h.bel (Nat.le_refl _) zQ, h.rr.row zQ⟩
set_option maxHeartbeats 16000000 in
theorem requestOf_any (A : Option Addr) (c : Nat) (l : List Int) (w : World) (hr : Rd w w.heap.size A l) (hby : Byt l) (hn : l.length ≤ 100000000) :
   Calls Tryz.prog 28 #[.slice A l.length c] w (RqOfOut w l) := by
 have hb1 : Below w.heap.size w (w.alloc (.cells zQ 57)) := (Below.refl _ _).alloc (Nat.le_refl _) _
 have k1 := Blk.new w 57 zQ
 have HRD := Lib.hid (read_any A c l _ ((hr.below hb1).more hb1.size) hby hn)
 have hz1 : w.heap.size < (w.alloc (.cells zQ 57)).heap.size := by rw [World.size_alloc]; omega
 have HB1 := Lib.hid (And.intro hb1 (And.intro k1 hz1))
 generalize hq1 : numV (tk false l 1) = q1
 obtain ⟨c1, f1, r1⟩ := q1
 generalize hq2 : numV (tk f1 r1 2) = q2
 obtain ⟨c2, f2, r2⟩ := q2
 generalize hq3 : tk f2 r2 3 = q3
 obtain ⟨o3, f3, r3⟩ := q3
 have e1 : tq1 l = (c1, f1, r1) := hq1
 have e2 : tq2 l = (c2, f2, r2) := by unfold tq2; rw [e1]; exact hq2
 have e3 : tq3 l = (o3, f3, r3) := by unfold tq3; rw [e2]; exact hq3
 obtain ⟨b, hbv⟩ : ∃ b, b = o3.getD [] := ⟨_, rfl⟩
 have hbb : Byt b ∧ b.length ≤ 100000000 := by
   have h := (tq_byt hby).2.2
   rw [e3] at h
   rw [hbv]
   exact ⟨h.1, Nat.le_trans h.2 hn⟩
 have HQ := Lib.hid (And.intro e1 (And.intro e2 (And.intro e3 hbv)))
 have HBY := Lib.hid hby
 have HN1 : Hid (∀ g W, RS W g g false l → Calls Tryz.prog 101 #[.pointer (some ⟨g, 0, none⟩), .int .u8 1] W fun e w' => e = .returned (.int .u64 c1) ∧ RS w' g g f1 r1 ∧ W.grownBy w' (some g)) := Lib.hid fun g W h => by
   have h := numberV g g false l 1 W h
   rw [hq1] at h
   exact h
 have HN2 : Hid (∀ g W, RS W g g f1 r1 → Calls Tryz.prog 101 #[.pointer (some ⟨g, 0, none⟩), .int .u8 2] W fun e w' => e = .returned (.int .u64 c2) ∧ RS w' g g f2 r2 ∧ W.grownBy w' (some g)) := Lib.hid fun g W h => by
   have h := numberV g g f1 r1 2 W h
   rw [hq2] at h
   exact h
 have HB3 : Hid (∀ g W, RS W g g f2 r2 → Calls Tryz.prog 58 #[.pointer (some ⟨g, 0, none⟩), .int .u8 3] W fun e w' => ∃ A3 n3 c3, e = .returned (.slice A3 n3 c3) ∧ (n3 = b.length ∧ Rd w' w'.heap.size A3 b) ∧ RS w' g g f3 r3 ∧ W.grownBy w' (some g)) := Lib.hid fun g W h => by
   have h := bytes_r g g f2 r2 3 W h
   rw [hq3] at h
   refine h.mono ?_
   rintro e w' ⟨v, rfl, h1, h2, h3⟩
   rw [← hbv] at h1
   obtain ⟨A3, c3, rfl, _, h4⟩ := h1.rd
   exact ⟨A3, _, c3, rfl, ⟨rfl, h4⟩, h2, h3⟩
 have HOP : Hid (∀ A3 n3 c3 W, n3 = b.length → Rd W W.heap.size A3 b → Calls Tryz.prog 10 #[.slice A3 n3 c3] W fun e w' => ∃ ob Aa na ca Ap np cp Ac nc cc k, e = .returned (.tuple #[opVal ob (.slice Aa na ca) (.slice Ap np cp) (.slice Ac nc cc), .int .i64 k]) ∧ ((mayO ob = true ∧ b = opB ob ∧ k = 0 ∧ OpNew w' W.heap.size ob (.slice Aa na ca) (.slice Ap np cp) (.slice Ac nc cc) ∧ Lim ob) ∨ ((∀ o, mayO o = true → b ≠ opB o) ∧ k = 4)) ∧ Below W.heap.size W w') := Lib.hid fun A3 n3 c3 W h1 h2 => by
   subst h1
   exact opOf_new A3 c3 b W h2 hbb.1 hbb.2
 obtain ⟨n, hnn⟩ : ∃ n, n = l.length := ⟨_, rfl⟩
 rw [← hnn] at HRD ⊢
 clear hr hby hb1 k1 hn hnn hz1 hq1 hq2 hq3 e1 e2 e3 hbv hbb
 go_enter Tryz.func28, Tryz.ntmps28
 go_wp2_with fail
 refine HRD.out.mono ?_
 clear HRD
 rintro e w2 ⟨g, rfl, hrs2, hgq, hb2⟩
 have hg1 : w.heap.size < g := Nat.lt_of_lt_of_le HB1.out.2.2 hgq
 have H2 := Lib.hid (And.intro (HB1.out.1.trans (hb2.mono (Nat.le_of_lt HB1.out.2.2))) (And.intro (HB1.out.2.1.on hb2) (And.intro hg1 hrs2)))
 clear hrs2 hgq hb2 hg1 HB1
 go_upto_region 3 with (first
   | (go_at_call 101; (with_reducible refine (HN1.out g w2 H2.out.2.2.2).mono ?_); clear HN1; rintro e w3 ⟨rfl, hrs3, hg3⟩; dsimp only; have H3 := Lib.hid (And.intro hrs3 hg3); clear hrs3 hg3)
   | (go_at_call 101; (with_reducible refine (HN2.out g w3 H3.out.1).mono ?_); clear HN2; rintro e w4 ⟨rfl, hrs4, hg4⟩; dsimp only; have H4 := Lib.hid (And.intro hrs4 hg4); clear hrs4 hg4)
   | (refine wpList_store_rowTo rfl 57 _ _ rfl rfl w4.heap.size #[.int .u64 c1, .int .u64 c2, .int .i64 0, .string ⟨#[]⟩, .string ⟨#[]⟩, .slice none 0 0, .slice none 0 0, .slice none 0 0, .int .i64 0] rfl rfl 57 zQ (Blk.new w4 57 zQ) (by kernel_rfl) rfl (by kernel_rfl) ?_))
 have hqs : QS w g w4.heap.size c1 c2 f2 r2 ((w4.alloc (.cells zQ 57)).setRow w4.heap.size (hQ c1 c2)) := by
   have hb3 : Below w4.heap.size w4 ((w4.alloc (.cells zQ 57)).setRow w4.heap.size (hQ c1 c2)) := below_setRow ((Below.refl _ _).alloc (Nat.le_refl _) (.cells zQ 57)) (Nat.le_refl _) _
   obtain ⟨x1, x2, x3, x4⟩ := H2.out
   have y1 : Below w.heap.size w w3 := x1.trans (below_grown H3.out.2 (Nat.le_of_lt x3) x1.size)
   have y2 : Below w.heap.size w w4 := y1.trans (below_grown H4.out.2 (Nat.le_of_lt x3) y1.size)
   have z1 := x2.grown H3.out.2 (fun e => by injection e with e; omega)
   have z2 := z1.grown H4.out.2 (fun e => by injection e with e; omega)
   exact ⟨y2.trans (hb3.mono y2.size), z2.on hb3, (Blk.new w4 57 zQ).row _, H4.out.1.on hb3, x3, H4.out.1.lt⟩
 obtain ⟨Bq, hBq⟩ : ∃ Bq, Bq = w4.heap.size := ⟨_, rfl⟩
 rw [← hBq] at hqs ⊢
 clear hBq H2 H3 H4
 change QS w g Bq c1 c2 f2 r2 ((w4.alloc (.cells #[.int .u64 0, .int .u64 0, .int .i64 0, .string ⟨#[]⟩, .string ⟨#[]⟩, .slice none 0 0, .slice none 0 0, .slice none 0 0, .int .i64 0] 57)).setRow Bq #[.int .u64 c1, .int .u64 c2, .int .i64 0, .string ⟨#[]⟩, .string ⟨#[]⟩, .slice none 0 0, .slice none 0 0, .slice none 0 0, .int .i64 0]) at hqs
 generalize (w4.alloc (.cells #[.int .u64 0, .int .u64 0, .int .i64 0, .string ⟨#[]⟩, .string ⟨#[]⟩, .slice none 0 0, .slice none 0 0, .slice none 0 0, .int .i64 0] 57)).setRow Bq #[.int .u64 c1, .int .u64 c2, .int .i64 0, .string ⟨#[]⟩, .string ⟨#[]⟩, .slice none 0 0, .slice none 0 0, .slice none 0 0, .int .i64 0] = W4 at hqs ⊢
 have HX := Lib.hid hqs
 clear hqs
 go_upto_region 4 with (first
   | (go_at_call 58; (with_reducible refine (HB3.out g W4 HX.out.rs).mono ?_); clear HB3; rintro e w5 ⟨A3, n3, c3, rfl, h5, hrs5, hg5⟩; dsimp only; have H5 := Lib.hid (And.intro h5 (HX.out.gr hg5 hrs5)); clear h5 hrs5 hg5)
   | (go_at_call 10; (with_reducible refine (HOP.out A3 n3 c3 w5 H5.out.1.1 H5.out.1.2).mono ?_); clear HOP; rintro e w6 ⟨ob, Aa, na, ca, Ap, np, cp, Ac, nc, cc, k, rfl, h6, hb6⟩; dsimp only; have H6 := Lib.hid (And.intro h6 (H5.out.2.on hb6)); clear h6 hb6)
   | (refine wpList_store_rowTo rfl 27 _ _ rfl rfl w6.heap.size (opCs ob (.slice Aa na ca) (.slice Ap np cp) (.slice Ac nc cc)) rfl rfl 27 zCs (Blk.new w6 27 zCs) (by kernel_rfl) rfl (by kernel_rfl) ?_))
 have hb7 : Below w6.heap.size w6 ((w6.alloc (.cells zCs 27)).setRow w6.heap.size (opCs ob (.slice Aa na ca) (.slice Ap np cp) (.slice Ac nc cc))) := below_setRow ((Below.refl _ _).alloc (Nat.le_refl _) (.cells zCs 27)) (Nat.le_refl _) _
 have kO : Blk ((w6.alloc (.cells zCs 27)).setRow w6.heap.size (opCs ob (.slice Aa na ca) (.slice Ap np cp) (.slice Ac nc cc))) w6.heap.size 27 (opCs ob (.slice Aa na ca) (.slice Ap np cp) (.slice Ac nc cc)) := (Blk.new w6 27 zCs).row _
 have hqs := H6.out.2.on hb7
 have hcase : ((mayO ob = true ∧ b = opB ob ∧ k = 0 ∧ OpNew ((w6.alloc (.cells zCs 27)).setRow w6.heap.size (opCs ob (.slice Aa na ca) (.slice Ap np cp) (.slice Ac nc cc))) w5.heap.size ob (.slice Aa na ca) (.slice Ap np cp) (.slice Ac nc cc) ∧ Lim ob) ∨ ((∀ o, mayO o = true → b ≠ opB o) ∧ k = 4)) := by
   rcases H6.out.1 with ⟨x1, x2, x3, x4, x5⟩ | h
   · exact .inl ⟨x1, x2, x3, x4.on hb7, x5⟩
   · exact .inr h
 obtain ⟨Bo, hBo⟩ : ∃ Bo, Bo = w6.heap.size := ⟨_, rfl⟩
 rw [← hBo] at kO hqs hcase ⊢
 clear hb7 hBo H5 H6 HX
 generalize (w6.alloc (.cells zCs 27)).setRow Bo (opCs ob (.slice Aa na ca) (.slice Ap np cp) (.slice Ac nc cc)) = W7 at kO hqs hcase ⊢
 have HE := Lib.hid (rend_any g g f3 r3 W7 hqs.rs)
 have HX := Lib.hid (And.intro hqs kO)
 clear hqs kO
 by_cases hgood : f3 = false ∧ r3 = []
 · obtain ⟨rfl, rfl⟩ := hgood
   rcases hcase with ⟨hm, hbo, rfl, hnew, hlim⟩ | ⟨hno, rfl⟩
   · have hL : l = rqB c1 c2 ob ∧ Cn c1 c2 := by
       obtain ⟨e1, e2, e3, e4⟩ := HQ.out
       have h := rq_sound HBY.out (by rw [e3]) (by rw [e3])
       rw [e1, e2, e3] at h
       dsimp only at h
       rw [← e4, hbo] at h
       exact h
     have HL := Lib.hid (And.intro hL (And.intro hm hlim))
     have HW := Lib.hid hnew
     clear hm hbo hnew hlim hL
     go_upto_region 6 with (first
       | (go_at_call 59; (with_reducible refine HE.out.mono ?_); clear HE; rintro e wE ⟨⟨n9, rfl, h9⟩, rfl⟩; obtain rfl : n9 = 0 := h9.2 (by simp); clear h9))
     go_upto_region 7 with (first
       | (refine wpList_load_row rfl 27 _ rfl Bo rfl 27 (opCs ob (.slice Aa na ca) (.slice Ap np cp) (.slice Ac nc cc)) (0, 0) _ HX.out.2 rfl rfl (by kernel_rfl) ?_)
       | (refine wpList_store_mid rfl 27 _ _ rfl Bq 2 (opCs ob (.slice Aa na ca) (.slice Ap np cp) (.slice Ac nc cc)) rfl rfl (HX.out.1.qq.there 2 7 (Nat.le_refl 9)) (by kernel_rfl) (by kernel_rfl) ?_))
     have kQ : Blk (wE.setCells Bq 2 (Array.toList (opCs ob (.slice Aa na ca) (.slice Ap np cp) (.slice Ac nc cc)))) Bq 57 (rqCs c1 c2 ob (.slice Aa na ca) (.slice Ap np cp) (.slice Ac nc cc)) := by
       have h := Blk.many (Array.toList (opCs ob (.slice Aa na ca) (.slice Ap np cp) (.slice Ac nc cc))) 2 wE _ HX.out.1.qq
       rw [setMany_rq] at h
       exact h
     have kR : Blk (wE.setCells Bq 2 (Array.toList (opCs ob (.slice Aa na ca) (.slice Ap np cp) (.slice Ac nc cc)))) w.heap.size 57 zQ := Blk.manyFar (by have := HX.out.1.n1; have := HX.out.1.n2; omega) _ 2 wE _ HX.out.1.rr
     go_wp2_with (first
       | (refine wpList_load_row rfl 57 _ rfl Bq rfl 57 (rqCs c1 c2 ob (.slice Aa na ca) (.slice Ap np cp) (.slice Ac nc cc)) (0, 0) _ kQ rfl rfl (by kernel_rfl) ?_)
       | (refine wpList_store_rowTo rfl 57 _ _ rfl rfl w.heap.size (rqCs c1 c2 ob (.slice Aa na ca) (.slice Ap np cp) (.slice Ac nc cc)) rfl rfl 57 zQ kR (by kernel_rfl) rfl (by kernel_rfl) ?_))
     obtain ⟨h7, h8, h9⟩ := HX.out.1.fin HW.out
     have t0 := h9.cell 0
     have t1 := h9.cell 1
     have t2 := h9.cell 2
     have t3 := h9.cell 3
     have t4 := h9.cell 4
     have t5 := h9.cell 5
     have t6 := h9.cell 6
     have t7 := h9.cell 7
     have t8 := h9.cell 8
     have HE2 := Lib.hid (And.intro h7 h8)
     clear h7 h8 h9 kQ kR
     generalize (wE.setCells Bq 2 (Array.toList (opCs ob (.slice Aa na ca) (.slice Ap np cp) (.slice Ac nc cc)))).setRow w.heap.size (rqCs c1 c2 ob (.slice Aa na ca) (.slice Ap np cp) (.slice Ac nc cc)) = w9 at t0 t1 t2 t3 t4 t5 t6 t7 t8 HE2 ⊢
     refine bodyPost_ret (v := .tuple #[rqVal c1 c2 ob (.slice Aa na ca) (.slice Ap np cp) (.slice Ac nc cc), .int .i64 0]) ?_ rfl (.inl ⟨c1, c2, ob, _, _, _, HL.out.1.2, HL.out.2.1, HL.out.1.1, rfl, HE2.out.1, HL.out.2.2, HE2.out.2⟩)
     simp at t0 t1 t2 t3 t4 t5 t6 t7 t8
     simp [results, Tryz.f28, go_sem, t0, t1, t2, t3, t4, t5, t6, t7, t8]
   · have HNO : Hid (∀ c n o, Cn c n → mayO o = true → l ≠ rqB c n o) := Lib.hid fun c n o h1 h2 h3 => by
       obtain ⟨e1, e2, e3, e4⟩ := HQ.out
       have h := (rq_cmp HBY.out h1 h2 h3).2.2.1
       rw [e3] at h
       exact hno o h2 (e4.trans h)
     clear hno
     go_upto_region 5 with (first
       | (go_at_call 59; (with_reducible refine HE.out.mono ?_); clear HE; rintro e wE ⟨⟨n9, rfl, h9⟩, rfl⟩; obtain rfl : n9 = 0 := h9.2 (by simp); clear h9))
     go_wp2_with (refine wpList_store_rowTo rfl 57 _ _ rfl rfl w.heap.size zQ rfl rfl 57 zQ HX.out.1.rr (by kernel_rfl) rfl (by kernel_rfl) ?_)
     obtain ⟨h8, h9⟩ := HX.out.1.zero
     have t0 := h9.cell 0
     have t1 := h9.cell 1
     have t2 := h9.cell 2
     have t3 := h9.cell 3
     have t4 := h9.cell 4
     have t5 := h9.cell 5
     have t6 := h9.cell 6
     have t7 := h9.cell 7
     have t8 := h9.cell 8
     have HE2 := Lib.hid h8
     clear h8 h9
     generalize wE.setRow w.heap.size zQ = w9 at t0 t1 t2 t3 t4 t5 t6 t7 t8 HE2 ⊢
     refine bodyPost_ret (v := .tuple #[.agg zQ, .int .i64 4]) ?_ rfl (.inr ⟨HNO.out, rfl, HE2.out⟩)
     simp at t0 t1 t2 t3 t4 t5 t6 t7 t8
     simp [results, Tryz.f28, go_sem, t0, t1, t2, t3, t4, t5, t6, t7, t8]
 · have HNO : Hid (∀ c n o, Cn c n → mayO o = true → l ≠ rqB c n o) := Lib.hid fun c n o h1 h2 h3 => by
     obtain ⟨e1, e2, e3, e4⟩ := HQ.out
     have h := (rq_cmp HBY.out h1 h2 h3).2.2.2
     rw [e3] at h
     exact hgood h
   have HNG := Lib.hid hgood
   clear hgood hcase
   go_upto_region 5 with (go_at_call 59; (with_reducible refine HE.out.mono ?_); clear HE; rintro e wE ⟨⟨n9, rfl, h9⟩, rfl⟩; obtain ⟨hnz, hnz2⟩ := end_nz h9 HNG.out; clear h9)
   go_wp2_with (refine wpList_store_rowTo rfl 57 _ _ rfl rfl w.heap.size zQ rfl rfl 57 zQ HX.out.1.rr (by kernel_rfl) rfl (by kernel_rfl) ?_)
   obtain ⟨h8, h9⟩ := HX.out.1.zero
   have t0 := h9.cell 0
   have t1 := h9.cell 1
   have t2 := h9.cell 2
   have t3 := h9.cell 3
   have t4 := h9.cell 4
   have t5 := h9.cell 5
   have t6 := h9.cell 6
   have t7 := h9.cell 7
   have t8 := h9.cell 8
   have HE2 := Lib.hid h8
   clear h8 h9
   generalize wE.setRow w.heap.size zQ = w9 at t0 t1 t2 t3 t4 t5 t6 t7 t8 HE2 ⊢
   refine bodyPost_ret (v := .tuple #[.agg zQ, .int .i64 4]) ?_ rfl (.inr ⟨HNO.out, rfl, HE2.out⟩)
   simp at t0 t1 t2 t3 t4 t5 t6 t7 t8
   simp [results, Tryz.f28, go_sem, t0, t1, t2, t3, t4, t5, t6, t7, t8]
end Go.Proofs.YtcjiofhjognklaaGreat.Tlv
namespace Go.Proofs.YtcjiofhjognklaaGreat.Tlv
open Go.RowKit Go.ChangeShapes Go.WideShapes Go.Deep Go.Joins
set_option maxRecDepth 100000
set_option linter.unusedVariables false
set_option linter.unusedSimpArgs false
section
variable {H : Type} {enc : TypeId × Value → H} {w : World} {base : Nat} {spare : Nat → Bool} {held : Bool}
theorem wfU {n : Int} (h : (Lit.int .u64 n).wf = true) : 0 ≤ n ∧ n < 18446744073709551616 := by
 have e1 : IntKind.u64.min = 0 := by decide
 have e2 : IntKind.u64.max = 18446744073709551615 := by decide
 simp only [Lit.wf, e1, e2, Bool.and_eq_true, decide_eq_true_eq] at h
 omega
theorem open_opC {fuel : Nat} {cs : List Value} {x : DataW H × List MemPlace} (hf : DataW.trod enc Tryz.prog w base spare held fuel 27 cs = some x) :
   ∃ (o : Opn) (va vp vc : Value), cs = (opCs o va vp vc).toList ∧ OpAt w o va vp vc ∧ Lim0 o := by
 obtain ⟨y0, y1, y2, y3, y4, y5, y6, n, hl, h0, h1, h2, h3, h4, h5, h6⟩ := YtcjiofhjognklaaGreat.trod_struct7 Tryz.underlying27 hf
 have e22 : Tryz.prog.cellsOf 22 = 1 := by kernel_rfl
 have e9 : Tryz.prog.cellsOf 9 = 1 := by kernel_rfl
 have e23 : Tryz.prog.cellsOf 23 = 1 := by kernel_rfl
 have e24 : Tryz.prog.cellsOf 24 = 1 := by kernel_rfl
 have e25 : Tryz.prog.cellsOf 25 = 1 := by kernel_rfl
 have e3 : Tryz.prog.cellsOf 3 = 1 := by kernel_rfl
 have e27 : Tryz.prog.cellsOf 27 = 7 := by kernel_rfl
 simp only [e22, e9, e23, e24, e25, e3] at h0 h1 h2 h3 h4 h5 h6
 rw [e27] at hl
 match cs, hl with
 | [a0, a1, a2, a3, a4, a5, a6], _ =>
   obtain ⟨k, z0, _, g0⟩ := DataW.trod_int Tryz.underlying22 h0
   obtain ⟨s1, z1, _, g1⟩ := DataW.trod_string Tryz.underlying9 h1
   obtain ⟨s2, z2, _, g2⟩ := DataW.trod_string Tryz.underlying9 h2
   obtain ⟨va, la, z3, ga, gb, gc⟩ := YtcjiofhjognklaaGreat.open_atsC h3
   obtain ⟨vp, lp, z4, gd, ge, gf⟩ := open_parts h4
   obtain ⟨A, c, lc, z5, gg, gh, gi, gj, gk⟩ := open_bytesN h5
   obtain ⟨nn, z6, _, g6⟩ := DataW.trod_int Tryz.underlying3 h6
   simp at z0 z1 z2 z3 z4 z5 z6
   subst z0 z1 z2 z3 z4 z5 z6
   refine ⟨⟨k, s1.data.toList, s2.data.toList, la, lp, lc, nn⟩, _, _, _, ?_, ⟨ga, gd, ⟨A, c, rfl, ⟨gk, gi, gj⟩, gg⟩⟩, ⟨?_, ?_, gc, gb, ge, gf, ?_, gh⟩⟩
   · unfold opCs
     rw [data_sx, data_sx]
   · show s1.data.toList.length ≤ _
     rw [Array.length_toList]
     exact g1
   · show s2.data.toList.length ≤ _
     rw [Array.length_toList]
     exact g2
   · unfold maxLen at gj
     show lc.length ≤ _
     omega
theorem open_req {r : Reach} {b0 : Nat} {v : Value} {d : DataW H} {p : List MemPlace} (hv : Value.okWide Tryz.prog w r b0 57 v) (h : DataW.Trod enc Tryz.prog w base spare held 57 v d p) :
   ∃ (c n : Int) (o : Opn) (va vp vc : Value), v = rqVal c n o va vp vc ∧ (0 ≤ c ∧ c < 18446744073709551616) ∧ (0 ≤ n ∧ n < 18446744073709551616) ∧ OpAt w o va vp vc ∧ Lim0 o := by
 obtain ⟨cs, rfl, hsz⟩ := okWide_struct Tryz.underlying57 hv
 obtain ⟨fuel, hf⟩ := h
 obtain ⟨y0, y1, y2, n, _, hl, h0, h1, h2⟩ := trod_struct3 Tryz.underlying57 hf
 have e55 : Tryz.prog.cellsOf 55 = 1 := by kernel_rfl
 have e27 : Tryz.prog.cellsOf 27 = 7 := by kernel_rfl
 have e57 : Tryz.prog.cellsOf 57 = 9 := by kernel_rfl
 simp only [e55, e27] at h0 h1 h2
 rw [e57] at hl
 obtain ⟨cs⟩ := cs
 simp only [Value.cells] at hl h0 h1 h2
 match cs, hl with
 | [a0, a1, a2, a3, a4, a5, a6, a7, a8], _ =>
   obtain ⟨c, z0, _, g0⟩ := DataW.trod_int Tryz.underlying55 h0
   obtain ⟨m, z1, _, g1⟩ := DataW.trod_int Tryz.underlying55 h1
   obtain ⟨o, va, vp, vc, z2, ho, hlm⟩ := open_opC h2
   simp [opCs] at z0 z1 z2
   obtain ⟨w0, w1, w2, w3, w4, w5, w6⟩ := z2
   subst z0 z1 w0 w1 w2 w3 w4 w5 w6
   exact ⟨c, m, o, _, _, _, rfl, wfU g0, wfU g1, ho, hlm⟩
end
end Go.Proofs.YtcjiofhjognklaaGreat.Tlv
