/- What comes in; is it small. -/
import Derived.Test.YtniaijgejljjbaaGreatY47
import Derived.Test.YtniaijgejljjbaaGreatY32
import Derived.Lib.QuietBelow
namespace Go.Proofs.YtniaijgejljjbaaGreat.Tlv
open Go.RowKit Go.ChangeShapes Go.WideShapes Go.Deep Go.Joins
set_option maxRecDepth 100000
set_option linter.unusedVariables false
set_option linter.unusedSimpArgs false
structure RqIn (w : World) (x : Rq) : Prop where
 c : 0 ≤ x.c ∧ x.c < 18446744073709551616
 n : 0 ≤ x.n ∧ x.n < 18446744073709551616
 at' : OpAt w x.o x.va x.vp x.vc
 lim : Lim0 x.o
theorem RqIn.on {w w' : World} {x : Rq} (h : RqIn w x) (hb : Below w.heap.size w w') : RqIn w' x := ⟨h.c, h.n, h.at'.on hb, h.lim⟩
structure Ac where
 k : Int
 N : Nat
 x : Rq
deriving Inhabited
def acL (a : Ac) : List Value := [.int .i64 a.k, .int .u64 a.N, .int .u64 a.x.c, .int .u64 a.x.n, .int .i64 a.x.o.k, .string (sx a.x.o.name), .string (sx a.x.o.dst), a.x.va, a.x.vp, a.x.vc, .int .i64 a.x.o.n]
theorem info44 : ∃ (i : TypeInfo) (z : Value), Tryz.prog.info? 48 = some i ∧ i.zero = some z ∧ i.size = 11 ∧ i.bytes = 152 ∧ z.cells.size = 11 := by
 have h : (Tryz.prog.info? 48).map (fun i => (i.zero, i.size, i.bytes)) = some (some (.agg #[.int .i64 0, .int .u64 0, .int .u64 0, .int .u64 0, .int .i64 0, .string ⟨#[]⟩, .string ⟨#[]⟩, .slice none 0 0, .slice none 0 0, .slice none 0 0, .int .i64 0]), 11, 152) := by kernel_rfl
 obtain ⟨i, hi, h0, h1, h2⟩ := info_parts h
 exact ⟨i, _, hi, h0, h1, h2, rfl⟩
def kAc : Kind Ac where
 e := 48
 st := 24
 size := 11
 bytes := 152
 cs := acL
 len := fun _ => rfl
 one := fun x u hu => by simp [acL] at hu; rcases hu with rfl | rfl | rfl | rfl | rfl | rfl | rfl | rfl | rfl | rfl | rfl <;> rfl
 pos := by decide
 sl := Tryz.underlying24
 zero := info44
 small := by decide
structure AcIn (w : World) (a : Ac) : Prop where
 N : a.N < 18446744073709551616
 x : RqIn w a.x
def RqsAt (w : World) (v : Value) (L : List Rq) : Prop := ∃ A c, v = .slice A L.length c ∧ ((A = none → c = 0) ∧ L.length ≤ c ∧ c ≤ maxLen) ∧ RdK kRq w w.heap.size A L ∧ ∀ i, i < L.length → RqIn w (L.getD i default)
def AcsAt (w : World) (v : Value) (L : List Ac) : Prop := ∃ A c, v = .slice A L.length c ∧ ((A = none → c = 0) ∧ L.length ≤ c ∧ c ≤ maxLen) ∧ RdK kAc w w.heap.size A L ∧ ∀ i, i < L.length → AcIn w (L.getD i default)
section
variable {H : Type} {enc : TypeId × Value → H} {w : World} {base : Nat} {spare : Nat → Bool} {held : Bool}
theorem open_rqC {fuel : Nat} {cs : List Value} {x : DataW H × List MemPlace} (hf : DataW.trod enc Tryz.prog w base spare held fuel 46 cs = some x) : ∃ t : Rq, cs = rqL t ∧ RqIn w t := by
 obtain ⟨y0, y1, y2, n, _, hl, h0, h1, h2⟩ := trod_struct3 Tryz.underlying46 hf
 have e55 : Tryz.prog.cellsOf 22 = 1 := by kernel_rfl
 have e27 : Tryz.prog.cellsOf 44 = 7 := by kernel_rfl
 have e57 : Tryz.prog.cellsOf 46 = 9 := by kernel_rfl
 simp only [e55, e27] at h0 h1 h2
 rw [e57] at hl
 match cs, hl with
 | [a0, a1, a2, a3, a4, a5, a6, a7, a8], _ =>
   obtain ⟨c, z0, _, g0⟩ := DataW.trod_int Tryz.underlying22 h0
   obtain ⟨m, z1, _, g1⟩ := DataW.trod_int Tryz.underlying22 h1
   obtain ⟨o, va, vp, vc, z2, ho, hlm⟩ := open_opC h2
   simp [opCs] at z0 z1 z2
   obtain ⟨w0, w1, w2, w3, w4, w5, w6⟩ := z2
   subst z0 z1 w0 w1 w2 w3 w4 w5 w6
   obtain ⟨Aa, ca, na, rfl, _, _⟩ := rdv_len ho.a
   obtain ⟨Ap, cp, np, rfl⟩ := ho.p.len
   obtain ⟨Ac, cc, nc, rfl, _⟩ := ho.c.len
   exact ⟨⟨c, m, o, Aa, na, ca, Ap, np, cp, Ac, nc, cc⟩, rfl, ⟨wfU g0, wfU g1, ho, hlm⟩⟩
theorem open_acC {fuel : Nat} {cs : List Value} {x : DataW H × List MemPlace} (hf : DataW.trod enc Tryz.prog w base spare held fuel 48 cs = some x) : ∃ t : Ac, cs = acL t ∧ AcIn w t := by
 obtain ⟨y0, y1, y2, n, _, hl, h0, h1, h2⟩ := trod_struct3 Tryz.underlying48 hf
 have e3 : Tryz.prog.cellsOf 3 = 1 := by kernel_rfl
 have e22 : Tryz.prog.cellsOf 22 = 1 := by kernel_rfl
 have e42 : Tryz.prog.cellsOf 46 = 9 := by kernel_rfl
 have e44 : Tryz.prog.cellsOf 48 = 11 := by kernel_rfl
 simp only [e3, e22, e42] at h0 h1 h2
 rw [e44] at hl
 match cs, hl with
 | [a0, a1, a2, a3, a4, a5, a6, a7, a8, a9, a10], _ =>
   obtain ⟨k, z0, _, g0⟩ := DataW.trod_int Tryz.underlying3 h0
   obtain ⟨m, z1, _, g1⟩ := DataW.trod_int Tryz.underlying22 h1
   obtain ⟨t, z2, ht⟩ := open_rqC h2
   have g := wfU g1
   simp [rqL] at z0 z1 z2
   obtain ⟨w0, w1, w2, w3, w4, w5, w6, w7, w8⟩ := z2
   subst z0 z1 w0 w1 w2 w3 w4 w5 w6 w7 w8
   refine ⟨⟨k, m.toNat, t⟩, ?_, ⟨by show m.toNat < _; omega, ht⟩⟩
   unfold acL
   rw [show ((m.toNat : Nat) : Int) = m by omega]
theorem open_rqsC {fuel : Nat} {cs : List Value} {x : DataW H × List MemPlace} (hf : DataW.trod enc Tryz.prog w base spare held fuel 23 cs = some x) :
   ∃ (v : Value) (L : List Rq), cs = [v] ∧ RqsAt w v L := by
 have e2 : Tryz.prog.cellsOf 46 = 9 := by kernel_rfl
 rcases open_slice Tryz.underlying23 hf with ⟨hcs, _⟩ | ⟨a, n, c, m, k, D, Pl, hcs, hb, hl, hm, hmm, hxe, hi⟩
 · exact ⟨_, [], hcs, none, 0, rfl, ⟨fun _ => rfl, Nat.le_refl _, Nat.zero_le _⟩, (fun h => by simp at h), fun i hi => by simp at hi⟩
 · rw [e2] at hi
   have hl0 := hl
   have hm0 := hm
   have hle : n ≤ m := by rw [hmm]; split <;> omega
   have hel : ∀ i, i < n → ∃ t : Rq, RqIn w t ∧ ∀ (j : Nat) (u : Value), (rqL t)[j]? = some u → w.cell? (a.add (i * 9 + j)) = some u := fun i hin => by
     obtain ⟨cs', hc, ht⟩ := hi i (by omega)
     obtain ⟨t, rfl, hr⟩ := open_rqC ht
     obtain ⟨_, _, hat⟩ := World.cells?_some hc
     refine ⟨t, hr, fun j u hu => ?_⟩
     have hj : j < 9 := (List.getElem?_eq_some_iff.1 hu).1
     rw [← Go.Deep.add_add, hat j hj, hu]
   have hch : ∃ L : List Rq, L.length = n ∧ ∀ i, i < n → RqIn w (L.getD i default) ∧ ∀ (j : Nat) (u : Value), (rqL (L.getD i default))[j]? = some u → w.cell? (a.add (i * 9 + j)) = some u := by
     clear hi hle hl hm hmm hf hcs hxe hl0
     induction n with
     | zero => exact ⟨[], rfl, fun i hi => by omega⟩
     | succ n ih =>
       obtain ⟨es, hl1, h1⟩ := ih (fun i hi => hel i (by omega))
       obtain ⟨t, hr, h2⟩ := hel n (by omega)
       refine ⟨es ++ [t], by simp [hl1], fun i hi => ?_⟩
       rcases Nat.lt_or_ge i n with hin | hin
       · have e : (es ++ [t]).getD i default = es.getD i default := by rw [List.getD_eq_getElem?_getD, List.getD_eq_getElem?_getD, List.getElem?_append_left (by omega)]
         rw [e]; exact h1 i hin
       · have e : (es ++ [t]).getD i default = t := by rw [List.getD_eq_getElem?_getD, List.getElem?_append_right (by omega), show i - es.length = 0 from by omega]; rfl
         rw [e]
         have : i = n := by omega
         subst this
         exact ⟨hr, h2⟩
   obtain ⟨L, hll, hle2⟩ := hch
   refine ⟨.slice (some a) n c, L, hcs, some a, c, by rw [hll], ⟨(fun h => by cases h), by rw [hll]; exact hl0, hm0⟩, fun hp => ?_, fun i hi => (hle2 i (by omega)).1⟩
   obtain ⟨b, off, spot⟩ := a
   have hc := (hle2 0 (by omega)).2 0 _ rfl
   have hspot : spot = none := by simpa [Addr.add] using World.cell?_spot hc
   subst hspot
   have hb : b < w.heap.size := World.block_lt_of_cell? w _ hc
   refine ⟨b, off, rfl, hb, fun j hj i u hu => ?_⟩
   have := (hle2 j (by omega)).2 i u hu
   rw [Addr.add_mid, ← Nat.add_assoc] at this
   exact this
theorem open_acsC {fuel : Nat} {cs : List Value} {x : DataW H × List MemPlace} (hf : DataW.trod enc Tryz.prog w base spare held fuel 24 cs = some x) :
   ∃ (v : Value) (L : List Ac), cs = [v] ∧ AcsAt w v L := by
 have e2 : Tryz.prog.cellsOf 48 = 11 := by kernel_rfl
 rcases open_slice Tryz.underlying24 hf with ⟨hcs, _⟩ | ⟨a, n, c, m, k, D, Pl, hcs, hb, hl, hm, hmm, hxe, hi⟩
 · exact ⟨_, [], hcs, none, 0, rfl, ⟨fun _ => rfl, Nat.le_refl _, Nat.zero_le _⟩, (fun h => by simp at h), fun i hi => by simp at hi⟩
 · rw [e2] at hi
   have hl0 := hl
   have hm0 := hm
   have hle : n ≤ m := by rw [hmm]; split <;> omega
   have hel : ∀ i, i < n → ∃ t : Ac, AcIn w t ∧ ∀ (j : Nat) (u : Value), (acL t)[j]? = some u → w.cell? (a.add (i * 11 + j)) = some u := fun i hin => by
     obtain ⟨cs', hc, ht⟩ := hi i (by omega)
     obtain ⟨t, rfl, hr⟩ := open_acC ht
     obtain ⟨_, _, hat⟩ := World.cells?_some hc
     refine ⟨t, hr, fun j u hu => ?_⟩
     have hj : j < 11 := (List.getElem?_eq_some_iff.1 hu).1
     rw [← Go.Deep.add_add, hat j hj, hu]
   have hch : ∃ L : List Ac, L.length = n ∧ ∀ i, i < n → AcIn w (L.getD i default) ∧ ∀ (j : Nat) (u : Value), (acL (L.getD i default))[j]? = some u → w.cell? (a.add (i * 11 + j)) = some u := by
     clear hi hle hl hm hmm hf hcs hxe hl0
     induction n with
     | zero => exact ⟨[], rfl, fun i hi => by omega⟩
     | succ n ih =>
       obtain ⟨es, hl1, h1⟩ := ih (fun i hi => hel i (by omega))
       obtain ⟨t, hr, h2⟩ := hel n (by omega)
       refine ⟨es ++ [t], by simp [hl1], fun i hi => ?_⟩
       rcases Nat.lt_or_ge i n with hin | hin
       · have e : (es ++ [t]).getD i default = es.getD i default := by rw [List.getD_eq_getElem?_getD, List.getD_eq_getElem?_getD, List.getElem?_append_left (by omega)]
         rw [e]; exact h1 i hin
       · have e : (es ++ [t]).getD i default = t := by rw [List.getD_eq_getElem?_getD, List.getElem?_append_right (by omega), show i - es.length = 0 from by omega]; rfl
         rw [e]
         have : i = n := by omega
         subst this
         exact ⟨hr, h2⟩
   obtain ⟨L, hll, hle2⟩ := hch
   refine ⟨.slice (some a) n c, L, hcs, some a, c, by rw [hll], ⟨(fun h => by cases h), by rw [hll]; exact hl0, hm0⟩, fun hp => ?_, fun i hi => (hle2 i (by omega)).1⟩
   obtain ⟨b, off, spot⟩ := a
   have hc := (hle2 0 (by omega)).2 0 _ rfl
   have hspot : spot = none := by simpa [Addr.add] using World.cell?_spot hc
   subst hspot
   have hb : b < w.heap.size := World.block_lt_of_cell? w _ hc
   refine ⟨b, off, rfl, hb, fun j hj i u hu => ?_⟩
   have := (hle2 j (by omega)).2 i u hu
   rw [Addr.add_mid, ← Nat.add_assoc] at this
   exact this
end
structure SmO (o : Opn) : Prop where
 a : o.attrs.length ≤ 60
 p : o.parts.length ≤ 10
 c : o.cur.length ≤ 4100
theorem RqIn.ok {w : World} {x : Rq} (h : RqIn w x) (hs : SmO x.o) : x.m.Ok := ⟨h.c, h.n, ⟨h.lim.ln, h.lim.lt, h.lim.sa, by have := hs.a; show x.o.attrs.length ≤ 1000000; omega, by have := hs.p; show x.o.parts.length ≤ 1000000; omega, h.lim.sp, h.lim.lc, h.lim.byt⟩, by have := hs.c; show x.o.cur.length ≤ 1000000000; omega⟩
theorem sxs (l : List UInt8) : (sx l).size = l.length := YtniaijgejljjbaaGreat.sx_size l
def SmOut (o : Opn) (w : World) (e : Ending) (w' : World) : Prop := ∃ b : Bool, e = .returned (.bool b) ∧ (b = true → SmO o) ∧ Below w.heap.size w w'
set_option maxHeartbeats 8000000 in
theorem small_any (x : Rq) (w : World) (h : RqIn w x) : Calls Tryz.prog 13 #[rqA x] w (SmOut x.o w) := by
 obtain ⟨xc, xn, xo, Aa, la, ca, Ap, lp, cp, Ac, lc, cc⟩ := x
 obtain ⟨h1, h2, h3, h4⟩ := h
 have hla : la = xo.attrs.length := by obtain ⟨_, _, e, _⟩ := h3.a; injection e
 have hlp : lp = xo.parts.length := by obtain ⟨_, _, e, _⟩ := h3.p; injection e
 have hlc : lc = xo.cur.length := by obtain ⟨_, _, e, _⟩ := h3.c; injection e
 have hb : Below w.heap.size w (w.alloc (.cells (rqCs xc xn xo (.slice Aa la ca) (.slice Ap lp cp) (.slice Ac lc cc)) 46)) := (Below.refl _ _).alloc (Nat.le_refl _) _
 obtain ⟨a0, a1, a2, a3, a4, a5, a6, a7, a8⟩ := rq_cells (Blk.new w 46 (rqCs xc xn xo (.slice Aa la ca) (.slice Ap lp cp) (.slice Ac lc cc)))
 have HB := Lib.hid hb
 have HL := Lib.hid (And.intro hla (And.intro hlp hlc))
 have g1 := sxs xo.name
 have g2 := sxs xo.dst
 clear hb h1 h2 h3 h4 hla hlp hlc
 show Calls Tryz.prog 13 #[.agg (rqCs xc xn xo (.slice Aa la ca) (.slice Ap lp cp) (.slice Ac lc cc))] w _
 generalize hs1 : (sx xo.name).size = s1 at g1
 generalize hs2 : (sx xo.dst).size = s2 at g2
 clear g1 g2
 by_cases k0 : s1 ≤ 1100
 case neg =>
   have d0 : decide ((s1 : Int) ≤ 1100) = false := by simp; omega
   have e0 : decide (s1 ≤ 1100) = false := by simp; omega
   clear k0
   go_enter Tryz.func13, Tryz.ntmps13
   go_wp2
   go_ret
   exact ⟨false, rfl, (fun e => by cases e), HB.out⟩
 have d0 : decide ((s1 : Int) ≤ 1100) = true := by simp; omega
 have e0 : decide (s1 ≤ 1100) = true := by simp; omega
 by_cases k1 : s2 ≤ 1100
 case neg =>
   have d1 : decide ((s2 : Int) ≤ 1100) = false := by simp; omega
   have e1 : decide (s2 ≤ 1100) = false := by simp; omega
   clear k0 k1
   go_enter Tryz.func13, Tryz.ntmps13
   go_wp2
   go_ret
   exact ⟨false, rfl, (fun e => by cases e), HB.out⟩
 have d1 : decide ((s2 : Int) ≤ 1100) = true := by simp; omega
 have e1 : decide (s2 ≤ 1100) = true := by simp; omega
 by_cases k2 : la ≤ 60
 case neg =>
   have d2 : decide ((la : Int) ≤ 60) = false := by simp; omega
   have e2 : decide (la ≤ 60) = false := by simp; omega
   clear k0 k1 k2
   go_enter Tryz.func13, Tryz.ntmps13
   go_wp2
   go_ret
   exact ⟨false, rfl, (fun e => by cases e), HB.out⟩
 have d2 : decide ((la : Int) ≤ 60) = true := by simp; omega
 have e2 : decide (la ≤ 60) = true := by simp; omega
 by_cases k3 : lp ≤ 10
 case neg =>
   have d3 : decide ((lp : Int) ≤ 10) = false := by simp; omega
   have e3 : decide (lp ≤ 10) = false := by simp; omega
   clear k0 k1 k2 k3
   go_enter Tryz.func13, Tryz.ntmps13
   go_wp2
   go_ret
   exact ⟨false, rfl, (fun e => by cases e), HB.out⟩
 have d3 : decide ((lp : Int) ≤ 10) = true := by simp; omega
 have e3 : decide (lp ≤ 10) = true := by simp; omega
 by_cases k4 : lc ≤ 4100
 case neg =>
   have d4 : decide ((lc : Int) ≤ 4100) = false := by simp; omega
   have e4 : decide (lc ≤ 4100) = false := by simp; omega
   clear k0 k1 k2 k3 k4
   go_enter Tryz.func13, Tryz.ntmps13
   go_wp2
   go_ret
   exact ⟨false, rfl, (fun e => by cases e), HB.out⟩
 have d4 : decide ((lc : Int) ≤ 4100) = true := by simp; omega
 have e4 : decide (lc ≤ 4100) = true := by simp; omega
 have HK := Lib.hid (And.intro k2 (And.intro k3 k4))
 clear k0 k1 k2 k3 k4
 go_enter Tryz.func13, Tryz.ntmps13
 go_wp2
 go_ret
 exact ⟨true, rfl, fun _ => ⟨by rw [← HL.out.1]; exact HK.out.1, by rw [← HL.out.2.1]; exact HK.out.2.1, by rw [← HL.out.2.2]; exact HK.out.2.2⟩, HB.out⟩
end Go.Proofs.YtniaijgejljjbaaGreat.Tlv
namespace Go.Proofs.YtniaijgejljjbaaGreat.Tlv
open Go.RowKit
set_option maxRecDepth 100000
set_option linter.unusedVariables false
set_option linter.unusedSimpArgs false
theorem do_any {sp : Spc} {wz : World} (n0 g r B : Nat) (P R : List Rq) (a : Ac) (w0 w : World) (h : LR sp n0 w0 wz w g r B P R) (hn0 : n0 = w0.heap.size) (hin : AcIn w0 a) (hok : a.x.m.Ok) (hl : P.length ≤ 800) (hB : B + P.length ≤ 4611686018427388904) :
   Calls Tryz.prog 10 #[.pointer (some ⟨g, 0, none⟩), .pointer (some ⟨r, 0, none⟩), .agg (acL a).toArray] w (DoOut sp n0 w0 wz g r B P.length) := by
 obtain ⟨K, N, xc, xn, xo, xA, xla, xca, xP, xlp, xcp, xC, xlc, xcc⟩ := a
 have hN : N < 18446744073709551616 := hin.N
 have ho : OpAt w0 xo (.slice xA xla xca) (.slice xP xlp xcp) (.slice xC xlc xcc) := hin.x.at'
 have hok2 : (⟨xc, xn, xo⟩ : Mq).Ok := hok
 show Calls Tryz.prog 10 #[.pointer (some ⟨g, 0, none⟩), .pointer (some ⟨r, 0, none⟩), .agg (actCs K N xc xn xo (.slice xA xla xca) (.slice xP xlp xcp) (.slice xC xlc xcc))] w _
 obtain ⟨m, hm⟩ : ∃ m : Nat, IntKind.u64.wrap ((B : Int) + (N : Int)) = (m : Int) := ⟨(B + N) % 18446744073709551616, by rw [IntKind.wrap_u64]; omega⟩
 have hm2 : (m : Int) = ((B : Int) + (N : Int)) % 18446744073709551616 := by rw [← hm, IntKind.wrap_u64]
 by_cases h1 : K = 1
 · subst h1
   cases hmay : mayO xo with
   | false => exact do1_no n0 g r B N m P R xc xn xo _ _ _ _ _ _ _ _ _ w0 w h hn0 ho hok2 hl hB hm hmay
   | true =>
     rcases Nat.lt_or_ge 2097152 (sumM (means P) + Mq.sz ⟨xc, xn, xo⟩) with hs | hs
     · exact do1_full n0 g r B N m P R xc xn xo _ _ _ _ _ _ _ _ _ w0 w h hn0 ho hok2 hl hB hm hmay hs
     · exact do1_ok n0 g r B N m P R xc xn xo _ _ _ _ _ _ _ _ _ w0 w h hn0 ho hok2 hl hB hm hmay hs
 have hcase : (m = B + N ∧ N ≤ P.length) ∨ (m < B ∨ B + P.length < m) := by omega
 by_cases h2 : K = 2
 · subst h2
   rcases hcase with ⟨e, hle⟩ | hno
   · exact do2_ok n0 g r B N m P R xc xn xo _ _ _ _ _ _ _ _ _ w0 w h hn0 ho hok2 hl hB hm e hle
   · exact do2_no n0 g r B N m P R xc xn xo _ _ _ _ _ _ _ _ _ w0 w h hn0 ho hok2 hl hB hm hno
 by_cases h3 : K = 3
 · subst h3
   rcases hcase with ⟨e, hle⟩ | hno
   · exact do3_ok n0 g r B N m P R xc xn xo _ _ _ _ _ _ _ _ _ w0 w h hn0 ho hok2 hl hB hm e hle
   · exact do3_no n0 g r B N m P R xc xn xo _ _ _ _ _ _ _ _ _ w0 w h hn0 ho hok2 hl hB hm hno
 by_cases h4 : K = 4
 · subst h4
   by_cases hj : m = B + N ∧ 0 < N ∧ N ≤ P.length
   · exact do4_in n0 g r B N m P R xc xn xo _ _ _ _ _ _ _ _ _ w0 w h hn0 ho hok2 hl hB hm (N - 1) (by omega) (by omega)
   · exact do4_no n0 g r B N m P R xc xn xo _ _ _ _ _ _ _ _ _ w0 w h hn0 ho hok2 hl hB hm (by omega)
 by_cases h5 : K = 5
 · subst h5
   rcases hcase with ⟨e, hle⟩ | hno
   · exact do5_in n0 g r B N m P R xc xn xo _ _ _ _ _ _ _ _ _ w0 w h hn0 ho hok2 hl hB hm e hle
   · exact do5_no n0 g r B N m P R xc xn xo _ _ _ _ _ _ _ _ _ w0 w h hn0 ho hok2 hl hB hm hno
 exact do_else n0 g r B N m P R K xc xn xo _ _ _ _ _ _ _ _ _ w0 w h hn0 ho hok2 hl hB hm h1 h2 h3 h4 h5
def FewOut (L : List Ac) (Q : List Rq) (most : Nat) (w : World) (e : Ending) (w' : World) : Prop := ∃ b : Bool, e = .returned (.bool b) ∧ (b = true → (∀ i, i < L.length → SmO (L.getD i default).x.o) ∧ (∀ i, i < Q.length → SmO (Q.getD i default).o) ∧ L.length ≤ most ∧ Q.length ≤ most) ∧ Below w.heap.size w w'
set_option maxHeartbeats 16000000 in
theorem few_any (L : List Ac) (Q : List Rq) (v u : Value) (most : Nat) (w : World) (hL : AcsAt w v L) (hQ : RqsAt w u Q) (hmo : most ≤ 1000) : Calls Tryz.prog 4 #[v, u, .int .i64 most] w (FewOut L Q most w) := by
 obtain ⟨A, cA, rfl, ⟨_, hA1, hA2⟩, hrA, hiA⟩ := hL
 obtain ⟨D, cD, rfl, ⟨_, hD1, hD2⟩, hrD, hiD⟩ := hQ
 obtain ⟨n, hn⟩ : ∃ n, n = L.length := ⟨_, rfl⟩
 obtain ⟨nq, hnq⟩ : ∃ n, n = Q.length := ⟨_, rfl⟩
 have hn1 : n ≤ 9223372036854775807 := by unfold maxLen at hA2; omega
 have hn2 : nq ≤ 9223372036854775807 := by unfold maxLen at hD2; omega
 clear hA1 hA2 hD1 hD2
 rw [← hn, ← hnq]
 have HH := Lib.hid (And.intro hrA (And.intro hiA (And.intro hrD (And.intro hiD (And.intro hn hnq)))))
 clear hrA hiA hrD hiD hn hnq
 go_enter Tryz.func4, Tryz.ntmps4
 go_wp2_with fail
 go_loopw [7] (fun s7 wr => ∃ k : Nat, s7 = .int .i64 k ∧ k ≤ n ∧ Hid (Below w.heap.size w wr ∧ ∀ i, i < k → SmO (L.getD i default).x.o)) (fun s7 _ => n - (intOf s7).toNat)
 case atStart => exact ⟨0, rfl, Nat.zero_le _, Lib.hid ⟨Below.refl _ _, fun i hi => absurd hi (Nat.not_lt_zero _)⟩⟩
 case round =>
   obtain ⟨k, rfl, hkn, HF⟩ := hrel
   by_cases hlt : k < n
   · have hki : (k : Int) < (n : Int) := by omega
     have hkL : k < L.length := by have := HH.out.2.2.2.2.1; omega
     obtain ⟨b, off, rfl, hbl, hra⟩ := HH.out.1.below HF.out.1 (by omega)
     have hin := (HH.out.2.1 k hkL).x.on HF.out.1
     have hra2 := fun (i : Nat) (u : Value) (h : (acL (L.getD k default))[i]? = some u) => hra k hkL i u h
     obtain ⟨aa, haa⟩ : ∃ aa, aa = L.getD k default := ⟨_, rfl⟩
     rw [← haa] at hin hra2
     have HAA := Lib.hid haa
     clear haa hra hkL
     obtain ⟨aK, aN, xc, xn, xo, xA, xla, xca, xP, xlp, xcp, xC, xlc, xcc⟩ := aa
     have HRG : Hid (wr.rangeAt b (off + k * 11 + 2) [.int .u64 xc, .int .u64 xn, .int .i64 xo.k, .string (sx xo.name), .string (sx xo.dst), .slice xA xla xca, .slice xP xlp xcp, .slice xC xlc xcc, .int .i64 xo.n]) := Lib.hid fun q v hv => by
       have hq : q < 9 := (List.getElem?_eq_some_iff.1 hv).1
       have := hra2 (q + 2) v (by rw [← hv]; unfold acL; rcases q with _ | _ | _ | _ | _ | _ | _ | _ | _ | q <;> first | rfl | omega)
       rwa [show kAc.size = 11 from rfl, show off + k * 11 + (q + 2) = off + k * 11 + 2 + q by omega] at this
     have HS := Lib.hid (small_any ⟨xc, xn, xo, xA, xla, xca, xP, xlp, xcp, xC, xlc, xcc⟩ wr hin)
     clear hra2 hin hbl
     go_wp2_with (first
       | (refine wpList_load_mid rfl 46 _ rfl b (off + k * 11 + 2) rfl [.int .u64 xc, .int .u64 xn, .int .i64 xo.k, .string (sx xo.name), .string (sx xo.dst), .slice xA xla xca, .slice xP xlp xcp, .slice xC xlc xcc, .int .i64 xo.n] _ HRG.out rfl rfl (by kernel_rfl) ?_)
       | (go_at_call 13; (with_reducible refine HS.out.mono ?_); clear HS; rintro e w2 ⟨bb, rfl, hsm, hb2⟩; dsimp only; have H2 := Lib.hid (And.intro hsm (HF.out.1.trans (hb2.mono HF.out.1.size))); clear hsm hb2; cases bb))
     · go_ret
       exact ⟨false, rfl, (fun e => by cases e), H2.out.2⟩
     · go_roundw
       case rel => exact ⟨k + 1, by go_num, by omega, Lib.hid ⟨H2.out.2, fun i hi => by
         rcases Nat.lt_or_ge i k with h | h
         · exact HF.out.2 i h
         · have : i = k := by omega
           subst this
           rw [← HAA.out]
           exact H2.out.1 rfl⟩⟩
       case measure => simp [intOf]; omega
   · have hki : ¬ (k : Int) < (n : Int) := by omega
     have HALL : Hid (∀ i, i < L.length → SmO (L.getD i default).x.o) := Lib.hid fun i hi => HF.out.2 i (by have := HH.out.2.2.2.2.1; omega)
     go_upto_region 7 with fail
     obtain ⟨W7, hW7⟩ : ∃ W, W = wr := ⟨_, rfl⟩
     have HBW : Hid (Below w.heap.size w W7) := Lib.hid (by rw [hW7]; exact HF.out.1)
     rw [← hW7]
     clear hW7 hkn hlt
     go_loopw [8] (fun s8 wq => ∃ j : Nat, s8 = .int .i64 j ∧ j ≤ nq ∧ Hid (Below w.heap.size w wq ∧ ∀ i, i < j → SmO (Q.getD i default).o)) (fun s8 _ => nq - (intOf s8).toNat)
     case atStart => exact ⟨0, rfl, Nat.zero_le _, Lib.hid ⟨HBW.out, fun i hi => absurd hi (Nat.not_lt_zero _)⟩⟩
     case round =>
       rename World => wq
       obtain ⟨j, rfl, hjn, HJ⟩ := hrel
       by_cases hlt : j < nq
       · have hji : (j : Int) < (nq : Int) := by omega
         have hjQ : j < Q.length := by have := HH.out.2.2.2.2.2; omega
         obtain ⟨b, off, rfl, hbl, hra⟩ := HH.out.2.2.1.below HJ.out.1 (by omega)
         have hin := (HH.out.2.2.2.1 j hjQ).on HJ.out.1
         have hra2 := fun (i : Nat) (u : Value) (h : (rqL (Q.getD j default))[i]? = some u) => hra j hjQ i u h
         obtain ⟨aa, haa⟩ : ∃ aa, aa = Q.getD j default := ⟨_, rfl⟩
         rw [← haa] at hin hra2
         have HAA := Lib.hid haa
         clear haa hra hjQ
         obtain ⟨xc, xn, xo, xA, xla, xca, xP, xlp, xcp, xC, xlc, xcc⟩ := aa
         have HRG : Hid (wq.rangeAt b (off + j * 9) [.int .u64 xc, .int .u64 xn, .int .i64 xo.k, .string (sx xo.name), .string (sx xo.dst), .slice xA xla xca, .slice xP xlp xcp, .slice xC xlc xcc, .int .i64 xo.n]) := Lib.hid fun q v hv => hra2 q v hv
         have HS := Lib.hid (small_any ⟨xc, xn, xo, xA, xla, xca, xP, xlp, xcp, xC, xlc, xcc⟩ wq hin)
         clear hra2 hin hbl
         go_wp2_with (first
           | (refine wpList_load_mid rfl 46 _ rfl b (off + j * 9) rfl [.int .u64 xc, .int .u64 xn, .int .i64 xo.k, .string (sx xo.name), .string (sx xo.dst), .slice xA xla xca, .slice xP xlp xcp, .slice xC xlc xcc, .int .i64 xo.n] _ HRG.out rfl rfl (by kernel_rfl) ?_)
           | (go_at_call 13; (with_reducible refine HS.out.mono ?_); clear HS; rintro e w2 ⟨bb, rfl, hsm, hb2⟩; dsimp only; have H2 := Lib.hid (And.intro hsm (HJ.out.1.trans (hb2.mono HJ.out.1.size))); clear hsm hb2; cases bb))
         · go_ret
           exact ⟨false, rfl, (fun e => by cases e), H2.out.2⟩
         · go_roundw
           case rel => exact ⟨j + 1, by go_num, by omega, Lib.hid ⟨H2.out.2, fun i hi => by
             rcases Nat.lt_or_ge i j with h | h
             · exact HJ.out.2 i h
             · have : i = j := by omega
               subst this
               rw [← HAA.out]
               exact H2.out.1 rfl⟩⟩
           case measure => simp [intOf]; omega
       · have hji : ¬ (j : Int) < (nq : Int) := by omega
         have HALQ : Hid (∀ i, i < Q.length → SmO (Q.getD i default).o) := Lib.hid fun i hi => HJ.out.2 i (by have := HH.out.2.2.2.2.2; omega)
         by_cases hc1 : n ≤ most
         · have d1 : decide ((n : Int) ≤ (most : Int)) = true := by simp; omega
           have d2 : decide (n ≤ most) = true := by simp; omega
           by_cases hc2 : nq ≤ most
           · have d3 : decide ((nq : Int) ≤ (most : Int)) = true := by simp; omega
             have d4 : decide (nq ≤ most) = true := by simp; omega
             have HC := Lib.hid (And.intro hc1 hc2)
             clear hc1 hc2
             go_wp2
             go_ret
             exact ⟨true, by simp_all, fun _ => ⟨HALL.out, HALQ.out, by rw [← HH.out.2.2.2.2.1]; exact HC.out.1, by rw [← HH.out.2.2.2.2.2]; exact HC.out.2⟩, HJ.out.1⟩
           · have d3 : decide ((nq : Int) ≤ (most : Int)) = false := by simp; omega
             have d4 : decide (nq ≤ most) = false := by simp; omega
             clear hc1 hc2
             go_wp2
             go_ret
             exact ⟨false, by simp_all, (fun e => by cases e), HJ.out.1⟩
         · have d1 : decide ((n : Int) ≤ (most : Int)) = false := by simp; omega
           have d2 : decide (n ≤ most) = false := by simp; omega
           clear hc1
           go_wp2
           go_ret
           exact ⟨false, by simp_all, (fun e => by cases e), HJ.out.1⟩
end Go.Proofs.YtniaijgejljjbaaGreat.Tlv
