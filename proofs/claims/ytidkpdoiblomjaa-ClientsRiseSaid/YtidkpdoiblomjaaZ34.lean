/- Tables: what a map of rows holds. -/
import Derived.Test.YtidkpdoiblomjaaZ33
import Derived.Test.YtidkpdoiblomjaaZ31
import Derived.Great.BuildSlice
import Derived.Maps.OwnSet
import Derived.Maps.Ext
import Derived.Maps.RangeWalk
import Derived.Lib.SlMapEqual
import Derived.Shelf.SlMaps.Clone
namespace Go.Proofs.Ytidkpdoiblomjaa.Tlv
open Go.RowKit Go.Maps
set_option maxRecDepth 100000
set_option linter.unusedVariables false
set_option linter.unusedSimpArgs false
theorem Blk.rowFarK {w : World} {g k : Nat} {t : TypeId} {cs : Array Value} (h : Blk w k t cs) (hne : k ≠ g) (c : Array Value) : Blk (w.setRow g c) k t cs := (setRow_other w g k c hne).trans h
abbrev RH : Value → Option (DataW Value × List MemPlace) := fun v => some (.held v, [])
theorem law32 : Keyed Try.prog 32 := int_keyed Try.underlying32
abbrev ck (c : Int) : Lit := .int .u64 c
abbrev rwVal (n k : Int) (y : Bool) (ve vc : Value) : Value := .agg #[.int .u64 n, .int .i64 k, .bool y, ve, vc]
abbrev rwZ : Value := rwVal 0 0 false (.slice none 0 0) (.slice none 0 0)
abbrev Tb := Int → Option (Int × Res)
def InU (c : Int) : Prop := 0 ≤ c ∧ c ≤ 18446744073709551615
theorem InU.wf {c : Int} (h : InU c) : (Lit.int .u64 c).wf = true := by
 have e1 : IntKind.u64.min = 0 := by decide
 have e2 : IntKind.u64.max = 18446744073709551615 := by decide
 simp only [Lit.wf, e1, e2, Bool.and_eq_true, decide_eq_true_eq]
 exact h
theorem wf_inU {c : Int} (h : (Lit.int .u64 c).wf = true) : InU c := by
 have e1 : IntKind.u64.min = 0 := by decide
 have e2 : IntKind.u64.max = 18446744073709551615 := by decide
 simp only [Lit.wf, e1, e2, Bool.and_eq_true, decide_eq_true_eq] at h
 exact h
theorem InU.key {c : Int} (h : InU c) : keyOf Try.prog 32 (.int .u64 c) = some (ck c) := keyOf_int_mk Try.underlying32 h.wf
structure ResGood (r : Res) : Prop where
 lim : LimR r
 fit : Fit r
 cur : r.cur.length ≤ 1000000000
theorem ResOwn.keepB {w w' : World} {base : Nat} {r : Res} {ve vc : Value} (h : ResOwn w base r ve vc) (hb : ∀ k t cs, base ≤ k → Blk w k t cs → w'.heap[k]? = w.heap[k]?) : ResOwn w' base r ve vc := by
 obtain ⟨⟨es, h1, h2⟩, h3⟩ := h
 refine ⟨⟨es, RowK.fitT h1 fun k e => ?_, h2.fit fun k cs h4 h5 => hb k _ cs h4 h5⟩, RowK.fitT h3 fun k e => ?_⟩
 · obtain ⟨a1, a2, cs, a3⟩ := own_atT h1 e
   exact hb k _ cs a1 a3
 · obtain ⟨a1, a2, cs, a3⟩ := own_atT h3 e
   exact hb k _ cs a1 a3
structure Rep (w : World) (base m : Nat) (T : Tb) (N : Nat) : Prop where
 le : N ≤ 16
 own : ∃ D, w.ownsMap Try.prog 32 RH m N D ∧ Maps.size D = N ∧ (∀ c, InU c → T c = none → Maps.has D (ck c) = false) ∧
   ∀ c n r, InU c → T c = some (n, r) → InU n ∧ ResGood r ∧ Maps.has D (ck c) = true ∧ ∃ A l k B l2 k2, (∀ z, D.atKey (ck c) z = .held (rwVal n r.k r.y (.slice A l k) (.slice B l2 k2))) ∧ ResOwn w base r (.slice A l k) (.slice B l2 k2)
theorem own_tight {P : Program} {k : TypeId} {R : Value → Option (DataW Value × List MemPlace)} {w : World} {b n : Nat} {D : DataW Value} (h : w.ownsMap P k R b n D) : w.ownsMap P k R b (Maps.size D) D := by
 obtain ⟨es, clock, hb, F, hs, hD⟩ := h
 refine ⟨es, clock, hb, F, ?_, hD⟩
 subst hD
 rw [size_eq, length_sorted]
 simp
section
variable {w w' : World} {base m : Nat} {T : Tb} {N : Nat}
theorem Rep.map (h : Rep w base m T N) : ∃ es clock, w.heap[m]? = some (.map es clock) := by
 obtain ⟨D, ⟨es, clock, hb, _⟩, _⟩ := h.own
 exact ⟨es, clock, hb⟩
theorem Rep.lt (h : Rep w base m T N) : m < w.heap.size := by
 obtain ⟨es, clock, hb⟩ := h.map
 exact (Array.getElem?_eq_some_iff.1 hb).1
theorem Rep.fits (h : Rep w base m T N) (hk : ∀ k t cs, base ≤ k → Blk w k t cs → w'.heap[k]? = w.heap[k]?) (hm : w'.heap[m]? = w.heap[m]?) : Rep w' base m T N := by
 obtain ⟨h0, D, ⟨es, clock, hb, F, hs, hD⟩, h2, h3, h4⟩ := h
 refine ⟨h0, D, ⟨es, clock, hm.trans hb, F, hs, hD⟩, h2, h3, fun c n r hc hT => ?_⟩
 obtain ⟨a1, a2, a3, A, l, k, B, l2, k2, a4, a5⟩ := h4 c n r hc hT
 exact ⟨a1, a2, a3, A, l, k, B, l2, k2, a4, a5.keepB hk⟩
theorem Rep.on (h : Rep w base m T N) (hb : Below w.heap.size w w') : Rep w' base m T N := h.fits (fun k t cs _ hB => hb.block k hB.lt) (hb.block m h.lt)
theorem map_ne_blk {w : World} {m k : Nat} {t : TypeId} {cs : Array Value} (hm : ∃ es clock, w.heap[m]? = some (.map es clock)) (hk : Blk w k t cs) : k ≠ m := fun e => by
 subst e
 obtain ⟨es, clock, hb⟩ := hm
 unfold Blk at hk
 rw [hb] at hk
 injection hk with hk
 cases hk
theorem Rep.beside {m2 : Nat} (h : Rep w base m T N) (hg : w.grownBy w' (some m2)) (hm : ∃ es clock, w.heap[m2]? = some (.map es clock)) (hne : m ≠ m2) : Rep w' base m T N :=
 h.fits (fun k t cs _ hB => hg.block k hB.lt (fun e => map_ne_blk hm hB (Option.some.inj e))) (hg.block m h.lt (fun e => hne (Option.some.inj e)))
theorem Rep.low {base' : Nat} (h : Rep w base m T N) (hb : base' ≤ base) : Rep w base' m T N := by
 obtain ⟨h0, D, h1, h2, h3, h4⟩ := h
 refine ⟨h0, D, h1, h2, h3, fun c n r hc hT => ?_⟩
 obtain ⟨a1, a2, a3, A, l, k, B, l2, k2, a4, a5⟩ := h4 c n r hc hT
 exact ⟨a1, a2, a3, A, l, k, B, l2, k2, a4, a5.low hb⟩
theorem Rep.new (w : World) (base : Nat) : Rep (w.alloc (.map #[] 0)) base w.heap.size (fun _ => none) 0 :=
 ⟨by decide, .map [], World.ownsMap_made w Try.prog 32 RH, rfl, fun _ _ _ => rfl, fun c n r _ hT => by cases hT⟩
theorem Rep.len (h : Rep w base m T N) (ty : TypeId) : (Builtin.len_ #[67] ty #[.map (some m)]).run Try.prog w = .ok (.int .i64 N) w := by
 obtain ⟨h0, D, h1, h2, _⟩ := h
 have := h1.len Try.underlying67 ty
 rw [h2] at this
 exact this
theorem zeroRow (w : World) : (zeroValue 70).run Try.prog w = .ok rwZ w := by kernel_rfl
theorem Rep.look_no (h : Rep w base m T N) {c : Int} (hc : InU c) (hT : T c = none) : (Instr.lookup 67 (.map (some m)) (.int .u64 c) true).run Try.prog w = .ok (.tuple #[rwZ, .bool false]) w := by
 obtain ⟨h0, D, h1, h2, h3, h4⟩ := h
 obtain ⟨v, ps, hr, hv⟩ := h1.look_ok law32 Try.underlying67 (zeroRow w) (zd := .held rwZ) (zp := []) rfl hc.key
 have hh := h3 c hc hT
 rw [atKey_of_not_has hh] at hv
 obtain ⟨rfl, _⟩ : v = rwZ ∧ ps = [] := by
   injection hv with hv
   injection hv with hv1 hv2
   injection hv1 with hv1
   exact ⟨hv1, hv2.symm⟩
 rw [hh] at hr
 exact hr
theorem Rep.look_yes (h : Rep w base m T N) {c n : Int} {r : Res} (hc : InU c) (hT : T c = some (n, r)) : InU n ∧ ResGood r ∧ ∃ A l k B l2 k2, (Instr.lookup 67 (.map (some m)) (.int .u64 c) true).run Try.prog w = .ok (.tuple #[rwVal n r.k r.y (.slice A l k) (.slice B l2 k2), .bool true]) w ∧ ResOwn w base r (.slice A l k) (.slice B l2 k2) := by
 obtain ⟨h0, D, h1, h2, h3, h4⟩ := h
 obtain ⟨a1, a2, hh, A, l, k, B, l2, k2, a4, a5⟩ := h4 c n r hc hT
 obtain ⟨v, ps, hr, hv⟩ := h1.look_ok law32 Try.underlying67 (zeroRow w) (zd := .held rwZ) (zp := []) rfl hc.key
 rw [a4] at hv
 obtain ⟨rfl, _⟩ : v = rwVal n r.k r.y (.slice A l k) (.slice B l2 k2) ∧ ps = [] := by
   injection hv with hv
   injection hv with hv1 hv2
   injection hv1 with hv1
   exact ⟨hv1, hv2.symm⟩
 rw [hh] at hr
 exact ⟨a1, a2, A, l, k, B, l2, k2, hr, a5⟩
def upd (T : Tb) (c : Int) (x : Int × Res) : Tb := fun d => if d = c then some x else T d
def updN (T : Tb) (c : Int) (N : Nat) : Nat := if (T c).isSome then N else N + 1
theorem key_lit (c : Int) : WideAt.IsKeyLit (ck c) := trivial
theorem Rep.store (h : Rep w base m T N) {c n : Int} {r : Res} {A : Option Addr} {l k : Nat} {B : Option Addr} {l2 k2 : Nat} (hc : InU c) (hn : InU n) (hg : ResGood r) (hr : ResOwn w base r (.slice A l k) (.slice B l2 k2)) (hN : T c = none → N < 16) :
   ∃ w', (Instr.mapUpdate 67 (.map (some m)) (.int .u64 c) (rwVal n r.k r.y (.slice A l k) (.slice B l2 k2))).run Try.prog w = .ok () w' ∧ Rep w' base m (upd T c (n, r)) (updN T c N) ∧ w.grownBy w' (some m) := by
 have hm := h.map
 obtain ⟨h0, D, h1, h2, h3, h4⟩ := h
 obtain ⟨w', hrun, h1', ht⟩ := h1.store law32 Try.underlying67 (Nat.lt_of_le_of_lt h0 (by decide)) hc.key (val := rwVal n r.k r.y (.slice A l k) (.slice B l2 k2)) (d := .held (rwVal n r.k r.y (.slice A l k) (.slice B l2 k2))) (ps := []) rfl
 have hgr := ht.grown
 have hkB : ∀ k t cs, base ≤ k → Blk w k t cs → w'.heap[k]? = w.heap[k]? := fun k t cs _ hB => hgr.block k hB.lt (fun e => map_ne_blk hm hB (Option.some.inj e))
 have hsz := size_put (h1.tidy law32) (k := ck c) (.held (rwVal n r.k r.y (.slice A l k) (.slice B l2 k2)))
 have hhas : Maps.has D (ck c) = (T c).isSome := by
   cases hT : T c with
   | none => exact h3 c hc hT
   | some x => exact (h4 c x.1 x.2 hc hT).2.2.1
 have hsz' : Maps.size (D.put (ck c) (.held (rwVal n r.k r.y (.slice A l k) (.slice B l2 k2)))) = updN T c N := by
   rw [hsz, hhas, h2]
   rfl
 refine ⟨w', hrun, ⟨?_, D.put (ck c) (.held (rwVal n r.k r.y (.slice A l k) (.slice B l2 k2))), hsz' ▸ own_tight h1', hsz', fun d hd hT => ?_, fun d n' r' hd hT => ?_⟩, hgr⟩
 · unfold updN
   cases hT : T c with
   | none => have := hN hT; simp; omega
   | some x => simpa using h0
 · unfold upd at hT
   by_cases e : d = c
   · rw [if_pos e] at hT; cases hT
   · rw [if_neg e] at hT
     rw [has_put_other (fun e2 => e (by injection e2))]
     exact h3 d hd hT
 · unfold upd at hT
   by_cases e : d = c
   · rw [if_pos e] at hT
     subst e
     injection hT with hT
     injection hT with e1 e2
     subst e1 e2
     exact ⟨hn, hg, has_put_same (h1.isMap) (key_lit d) _, A, l, k, B, l2, k2, fun z => atKey_put_same h1.isMap (key_lit d) _ z, hr.keepB hkB⟩
   · rw [if_neg e] at hT
     obtain ⟨a1, a2, a3, A', l', k', B', l2', k2', a4, a5⟩ := h4 d n' r' hd hT
     have hne : ck d ≠ ck c := fun e2 => e (by injection e2)
     exact ⟨a1, a2, by rw [has_put_other hne]; exact a3, A', l', k', B', l2', k2', fun z => by rw [atKey_put_other hne]; exact a4 z, a5.keepB hkB⟩
end
end Go.Proofs.Ytidkpdoiblomjaa.Tlv
