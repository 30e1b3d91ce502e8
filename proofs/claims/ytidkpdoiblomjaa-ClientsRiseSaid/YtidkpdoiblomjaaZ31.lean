/- Attributes' bytes are read but in one way. -/
import Derived.Test.YtidkpdoiblomjaaZ23
import Derived.Defers
import Derived.Recover
import Derived.Deep.RegionHeld3
import Derived.Deep.RegionLaw
import Derived.Test.YtidkpdoiblomjaaZ04
import Derived.Test.YtidkpdoiblomjaaZ19
import Derived.Test.YtidkpdoiblomjaaZ26
import Derived.Test.YtidkpdoiblomjaaZ18
import Derived.Test.YtidkpdoiblomjaaZ22
import Derived.Test.YtidkpdoiblomjaaZ24
import Derived.Test.YtidkpdoiblomjaaZ29
namespace Go.Proofs.Ytidkpdoiblomjaa.Tlv
open Go.RowKit
set_option maxRecDepth 100000
set_option linter.unusedVariables false
set_option linter.unusedSimpArgs false
def inA (bs : List Int) : Option (List Int) × (Bool × List Int) := tk false bs 1
def inB (bs : List Int) : Option (List Int) × (Bool × List Int) := tk (inA bs).2.1 (inA bs).2.2 2
def okAt (bs : List Int) : Bool := decide ((inB bs).2 = (false, []))
theorem RowK.fit {w w' : World} {base : Nat} {v : Value} {l : List At} (h : Ytidkpdoiblomjaa.RowK kA w base v l) (hk : ∀ g, v.ownBlock = some g → w'.heap[g]? = w.heap[g]?) : Ytidkpdoiblomjaa.RowK kA w' base v l := by
 refine ⟨h.1, ?_⟩
 rcases h.2 with h0 | ⟨g, cap, cur, hv, hg, hh, rest⟩
 · exact .inl h0
 · exact .inr ⟨g, cap, cur, hv, hg, (hk g (by rw [hv]; rfl)).trans hh, rest⟩
theorem own_at {w : World} {base : Nat} {v : Value} {l : List At} (h : Ytidkpdoiblomjaa.RowK kA w base v l) {g : Nat} (e : v.ownBlock = some g) : base ≤ g ∧ g < w.heap.size ∧ ∃ cs, Blk w g 117 cs := by
 rcases h.2 with ⟨e2, _⟩ | ⟨g', cap, cur, e2, hg, hh, _⟩
 · rw [e2] at e; simp [Value.ownBlock] at e
 · rw [e2] at e
   have e3 : g' = g := by simpa [Value.ownBlock] using e
   subst e3
   exact ⟨hg, (Array.getElem?_eq_some_iff.1 hh).1, cur, hh⟩
theorem blk_ne {w : World} {g g' : Nat} {t t' : TypeId} {cs cs' : Array Value} (h : Blk w g t cs) (h' : Blk w g' t' cs') (hne : t ≠ t') : g ≠ g' := fun e => by
 subst e
 unfold Blk at h h'
 rw [h] at h'
 injection h' with h'
 injection h' with _ ht
 exact hne ht
end Go.Proofs.Ytidkpdoiblomjaa.Tlv
namespace Go.Proofs.Ytidkpdoiblomjaa.Tlv
open Go.RowKit
set_option maxRecDepth 100000
set_option linter.deprecated false
set_option linter.unusedVariables false
set_option linter.unusedSimpArgs false
def okL (v : List Int) : Bool := allT 3 v && (items v).all (fun x => okAt x.2)
end Go.Proofs.Ytidkpdoiblomjaa.Tlv
namespace Go.Proofs.Ytidkpdoiblomjaa.Tlv
open Go.RowKit
set_option maxRecDepth 100000
set_option linter.deprecated false
set_option linter.unusedVariables false
set_option linter.unusedSimpArgs false
section
variable {α : Type} {K : Kind α} {w w' w1 : World} {base n0 n1 a b : Nat} {v : Value} {l : List α}
theorem RowK.fitT (h : RowK K w base v l) (hk : ∀ g, v.ownBlock = some g → w'.heap[g]? = w.heap[g]?) : RowK K w' base v l := by
 refine ⟨h.1, ?_⟩
 rcases h.2 with h0 | ⟨g, cap, cur, hv, hg, hh, rest⟩
 · exact .inl h0
 · exact .inr ⟨g, cap, cur, hv, hg, (hk g (by rw [hv]; rfl)).trans hh, rest⟩
theorem own_atT (h : RowK K w base v l) {g : Nat} (e : v.ownBlock = some g) : base ≤ g ∧ g < w.heap.size ∧ ∃ cs, Blk w g K.e cs := by
 rcases h.2 with ⟨e2, _⟩ | ⟨g', cap, cur, e2, hg, hh, _⟩
 · rw [e2] at e; simp [Value.ownBlock] at e
 · rw [e2] at e
   have e3 : g' = g := by simpa [Value.ownBlock] using e
   subst e3
   exact ⟨hg, (Array.getElem?_eq_some_iff.1 hh).1, cur, hh⟩
theorem RowK.setT {g i : Nat} {t : TypeId} {cs : Array Value} {u : Value} (h : RowK K w base v l) (hb : Blk w g t cs) (ht : K.e ≠ t) : RowK K (w.setCell ⟨g, i, none⟩ u) base v l :=
 RowK.fitT h fun k e => Below.heap_setCell w ⟨g, i, none⟩ _ k (fun e2 => by
   obtain ⟨_, _, cs', hc⟩ := own_atT h e
   exact blk_ne hc hb ht e2)
theorem RowK.onT (h : RowK K w base v l) (hb : Below w.heap.size w w') : RowK K w' base v l := RowK.fitT h fun g e => hb.block g (own_atT h e).2.1
end
end Go.Proofs.Ytidkpdoiblomjaa.Tlv
namespace Go.Proofs.Ytidkpdoiblomjaa.Tlv
open Go.RowKit
set_option maxRecDepth 100000
set_option linter.unusedVariables false
set_option linter.unusedSimpArgs false
theorem val_out (tag : Int) (xs p : List Int) (A : Option Addr) (c : Nat) (w : World) (hr : Rd w w.heap.size A xs) (hA : A = none → c = 0) (hx : xs.length ≤ 4194304) (hp : p = valB tag xs) :
   Calls Try.prog 35 #[.int .u8 tag, .slice A xs.length c] w fun e w' => ∃ A' c', e = .returned (.slice A' p.length c') ∧ Rows2 w' w.heap.size A' c' p ∧ Below w.heap.size w w' := by
 refine (refValue_any tag xs A c w hr hA hx).mono ?_
 rintro e w' ⟨v, rfl, h1, h2⟩
 subst hp
 obtain ⟨A', c', rfl, h3⟩ := row_two h1
 exact ⟨A', c', rfl, h3, h2⟩
theorem num_out2 (tag n : Int) (p : List Int) (w : World) (hn : 0 ≤ n) (hn2 : n < 18446744073709551616) (hp : p = numB tag n) :
   Calls Try.prog 33 #[.int .u8 tag, .int .u64 n] w fun e w' => ∃ A' c', e = .returned (.slice A' p.length c') ∧ Rows2 w' w.heap.size A' c' p ∧ Below w.heap.size w w' := by
 refine (refNumber_any tag n w hn hn2).mono ?_
 rintro e w' ⟨v, rfl, h1, h2⟩
 subst hp
 obtain ⟨A', c', rfl, h3⟩ := row_two h1
 exact ⟨A', c', rfl, h3, h2⟩
def mayEn (e : Eny) : Bool := mayE e.nm e.ats
abbrev enB (e : Eny) : List Int := valB 1 (entB e.nm e.ats)
def entsB (l : List Eny) : List Int := l.flatMap enB
abbrev flgB (t : Int) (y : Bool) : List Int := valB t [if y = true then 1 else 0]
def resB (r : Res) : List Int := [] ++ numB 1 r.k ++ flgB 2 r.y ++ valB 3 (entsB r.es) ++ valB 4 r.cur
def mayR (r : Res) : Bool := mayF r.k r.y r.es.length r.cur.length && r.es.all mayEn
theorem mayF_iff {k : Int} {y : Bool} {ne nc : Nat} : mayF k y ne nc = true ↔ (k = 0 ∨ (y = false ∧ ne = 0 ∧ nc = 0)) ∧ 0 ≤ k ∧ k ≤ 14 ∧ ne ≤ 1000 ∧ nc ≤ 4000 := by
 unfold mayF
 simp only [Bool.and_eq_true, Bool.or_eq_true, decide_eq_true_eq, Bool.not_eq_true']
theorem mayR_parts {r : Res} (h : mayR r = true) : mayF r.k r.y r.es.length r.cur.length = true ∧ ∀ e ∈ r.es, mayEn e = true := by
 obtain ⟨h1, h2⟩ := Bool.and_eq_true_iff.1 h
 exact ⟨h1, List.all_eq_true.1 h2⟩
theorem mayR_is {r : Res} (h1 : mayF r.k r.y r.es.length r.cur.length = true) (h2 : ∀ e ∈ r.es, mayEn e = true) : mayR r = true := Bool.and_eq_true_iff.2 ⟨h1, List.all_eq_true.2 h2⟩
theorem entB_few {e : Eny} (h : mayEn e = true) : (entB e.nm e.ats).length ≤ 104100 := by
 obtain ⟨h1, h2⟩ := Bool.and_eq_true_iff.1 h
 have h3 := mayN_len h1
 have h4 := atsB_take_len e.ats e.ats.length (few_may h2)
 rw [List.take_length] at h4
 unfold entB
 rw [List.length_append, valB_length, valB_length, bytes_sx]
 omega
theorem entsB_cons (e : Eny) (l : List Eny) : entsB (e :: l) = enB e ++ entsB l := by unfold entsB; rw [List.flatMap_cons]
theorem entsB_len : ∀ l : List Eny, (∀ e ∈ l, mayEn e = true) → (entsB l).length ≤ 104105 * l.length
 | [], _ => Nat.le_refl _
 | e :: l, h => by
   have h1 := entsB_len l fun x hx => h x (List.mem_cons_of_mem _ hx)
   have h2 := entB_few (h e (List.mem_cons_self ..))
   rw [entsB_cons, List.length_append, valB_length, List.length_cons]
   omega
def Fit (r : Res) : Prop := (∀ e ∈ r.es, mayEn e = true) → (entsB r.es).length ≤ 4000000
theorem fit_few {r : Res} (h : r.es.length ≤ 30) : Fit r := fun h2 => by have := entsB_len r.es h2; omega
theorem resB_len (r : Res) : (resB r).length = 29 + (entsB r.es).length + r.cur.length := by
 unfold resB
 simp only [List.length_append, List.length_nil, valB_length, be8_length, List.length_singleton]
 omega
end Go.Proofs.Ytidkpdoiblomjaa.Tlv
