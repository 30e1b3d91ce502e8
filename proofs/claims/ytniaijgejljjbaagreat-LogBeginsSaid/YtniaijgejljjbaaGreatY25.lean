/- May it be an operation, by the document: the test's parts. -/
import Derived.Test.YtniaijgejljjbaaGreatY24
namespace Go.Proofs.YtniaijgejljjbaaGreat.Tlv
open Go.RowKit
set_option maxRecDepth 100000
set_option linter.unusedVariables false
set_option linter.unusedSimpArgs false
theorem mayN_nil : mayN [] = true := by decide
def refO (o : Opn) : Bool := isK o.k && (sameO o (bareO o) && (mayN o.name && (mayN o.dst && (decide (o.attrs.length ≤ 50) && (decide (o.parts.length ≤ 8) && (decide (o.cur.length ≤ 4000) && (decide (0 ≤ o.n) && (decide (o.n ≤ 1000) && (o.attrs.all mayA && (o.parts.all mayN && ((o.k != 1 || mayL o.attrs) && (o.k != 5 || decide (o.attrs.length = 1)))))))))))))
theorem mayL_props {l : List At} (h : mayL l = true) : l.length ≤ 50 ∧ l.all mayA = true := by
 obtain ⟨h1, h2, _⟩ := YtniaijgejljjbaaGreat.mayL_iff.1 h
 exact ⟨h1, List.all_eq_true.2 h2⟩
theorem refO_eq (o : Opn) : refO o = mayO o := by
 obtain ⟨k, nm, ds, at', ps, cu, n⟩ := o
 have e1 := mayN_nil
 have e2 := @mayL_props at'
 rw [Bool.eq_iff_iff]
 by_cases h : isK k = false
 · unfold refO mayO
   dsimp only
   rw [h]
   simp
 · rcases kinds k with rfl | rfl | rfl | rfl | rfl | rfl | rfl | rfl | h2
   all_goals first
     | exact absurd h2 h
     | (clear h
        unfold refO mayO sameO bareO isK mayText mayAt mayPt mayPg
        simp [fA, fT, fN, fP, fG]
        grind)
theorem noMem {α : Type} {P : α → Prop} : ∀ x ∈ ([] : List α), P x := fun x hx => by simp at hx
theorem bareO_lim {o : Opn} (h : Lim o) : Lim (bareO o) := by
 have z : ∀ n : Nat, 0 ≤ n := Nat.zero_le
 unfold bareO
 split
 · exact ⟨h.ln, z _, h.sa, h.la, z _, noMem, z _, noMem⟩
 · split
   · exact ⟨h.ln, h.lt, noMem, z _, z _, noMem, z _, noMem⟩
   · split
     · exact ⟨h.ln, z _, noMem, z _, z _, noMem, z _, noMem⟩
     · split
       · exact ⟨z _, z _, noMem, z _, h.lp, h.sp, h.lc, h.byt⟩
       · split
         · exact ⟨z _, z _, noMem, z _, z _, noMem, h.lc, h.byt⟩
         · exact ⟨z _, z _, noMem, z _, z _, noMem, z _, noMem⟩
end Go.Proofs.YtniaijgejljjbaaGreat.Tlv
