/-
  No cell of these rows narrows 'for every input' (looked for: loops, veiled, ifaces, maps, wideKeys, modest, calm, conditions, laid).
  DERIVED. THE GIVEN ROWS OF THIS SEAT. 4 by the template 'for every input the law returns true; each argument reads behind the call as it read before'; 0 by the template 'total and deterministic' (their statements: YtiakfdfpikheaaaTotals.lean).
  GIVEN WITH THE SEED: the statements are not yours to turn. If you find one false, say at which input.
  Laid BY PROGRAM, IN A SANDBOX (cutbox-rows.mjs): the forced cells as the released guide's own fill.sh prints them over the translation 78fb58f798370635… (all of the seat's roots in one cut). By AI agents, Wed Nov 11 2026. No macro, syntax, notation, axiom, sorry.
-/
import Derived.Test.YtiakfdfpikheaaaChecked
import GoSem.Claim
import GoSem.ClaimJoined
import GoSem.ClaimMapViews
import Derived.JoinedTies
import Derived.KernelRfl
namespace Go.Proofs.Ytiakfdfpikheaaa
/- THE CELL 'sum', in the pinned program and in every row, IS THE sha256 OF THE DUMP (.gsa) THAT YtiakfdfpikheaaaProg.lean LOADS. Nothing in Lean hashes anything: it is a label: what it is worth is what the hold of that sum in a sandbox is worth. -/
noncomputable def Try.pinned : Pinned := { name := "ytiakfdfpikheaaa", sum := "78fb58f798370635ddc50dbfade446894e7f203d0845356fb6b1a29d09d67a58", checked := Try.checked }
namespace Rows
def none {H : Type} : Left H := { results := [], args := [] }

/-- 'blazonlaw02.TlvWrites': WHATEVER THE INPUT: true; the input reads as it did. -/
def tlvWritesSpec : ChangeSpec := { name := "tlvWrites", fn := fun _ => fun
  | [d] => { results := [.lit (.bool true)], args := [d] }
  | _ => none }
def tlvWritesRow : OpenClaim := { program := "ytiakfdfpikheaaa", sum := "78fb58f798370635ddc50dbfade446894e7f203d0845356fb6b1a29d09d67a58", func := "blazon/blazonlaw02.TlvWrites", spec := "tlvWrites", unfollowed := true, recurses := true, apart := false }
def TlvWritesSaid : Prop := tlvWritesRow.holds Try.pinned (OpenSpec.ofChange tlvWritesSpec)

/-- ITS FALSE NEIGHBOUR: 'it returns false'. Refute it at one input. -/
def tlvWritesWrong : ChangeSpec := { name := "tlvWrites", fn := fun _ => fun
  | [d] => { results := [.lit (.bool false)], args := [d] }
  | _ => none }
def TlvWritesWrongFalsely : Prop := tlvWritesRow.holds Try.pinned (OpenSpec.ofChange tlvWritesWrong)

/-- 'blazonlaw02.TlvGoes': WHATEVER THE INPUT: true; the input reads as it did. -/
def tlvGoesSpec : ChangeSpec := { name := "tlvGoes", fn := fun _ => fun
  | [d1, d2] => { results := [.lit (.bool true)], args := [d1, d2] }
  | _ => none }
def tlvGoesRow : OpenClaim := { program := "ytiakfdfpikheaaa", sum := "78fb58f798370635ddc50dbfade446894e7f203d0845356fb6b1a29d09d67a58", func := "blazon/blazonlaw02.TlvGoes", spec := "tlvGoes", unfollowed := true, recurses := true, apart := false }
def TlvGoesSaid : Prop := tlvGoesRow.holds Try.pinned (OpenSpec.ofChange tlvGoesSpec)

/-- ITS FALSE NEIGHBOUR: 'it returns false'. Refute it at one input. -/
def tlvGoesWrong : ChangeSpec := { name := "tlvGoes", fn := fun _ => fun
  | [d1, d2] => { results := [.lit (.bool false)], args := [d1, d2] }
  | _ => none }
def TlvGoesWrongFalsely : Prop := tlvGoesRow.holds Try.pinned (OpenSpec.ofChange tlvGoesWrong)

/-- 'blazonlaw02.TlvMeans': WHATEVER THE INPUT: true; the input reads as it did. -/
def tlvMeansSpec : ChangeSpec := { name := "tlvMeans", fn := fun _ => fun
  | [d1, d2] => { results := [.lit (.bool true)], args := [d1, d2] }
  | _ => none }
def tlvMeansRow : OpenClaim := { program := "ytiakfdfpikheaaa", sum := "78fb58f798370635ddc50dbfade446894e7f203d0845356fb6b1a29d09d67a58", func := "blazon/blazonlaw02.TlvMeans", spec := "tlvMeans", unfollowed := true, recurses := true, apart := false }
def TlvMeansSaid : Prop := tlvMeansRow.holds Try.pinned (OpenSpec.ofChange tlvMeansSpec)

/-- ITS FALSE NEIGHBOUR: 'it returns false'. Refute it at one input. -/
def tlvMeansWrong : ChangeSpec := { name := "tlvMeans", fn := fun _ => fun
  | [d1, d2] => { results := [.lit (.bool false)], args := [d1, d2] }
  | _ => none }
def TlvMeansWrongFalsely : Prop := tlvMeansRow.holds Try.pinned (OpenSpec.ofChange tlvMeansWrong)

/-- 'blazonlaw02.TlvCuts': WHATEVER THE INPUT: true; the input reads as it did. -/
def tlvCutsSpec : ChangeSpec := { name := "tlvCuts", fn := fun _ => fun
  | [d1, d2] => { results := [.lit (.bool true)], args := [d1, d2] }
  | _ => none }
def tlvCutsRow : OpenClaim := { program := "ytiakfdfpikheaaa", sum := "78fb58f798370635ddc50dbfade446894e7f203d0845356fb6b1a29d09d67a58", func := "blazon/blazonlaw02.TlvCuts", spec := "tlvCuts", unfollowed := true, recurses := true, apart := false }
def TlvCutsSaid : Prop := tlvCutsRow.holds Try.pinned (OpenSpec.ofChange tlvCutsSpec)

/-- ITS FALSE NEIGHBOUR: 'it returns false'. Refute it at one input. -/
def tlvCutsWrong : ChangeSpec := { name := "tlvCuts", fn := fun _ => fun
  | [d1, d2] => { results := [.lit (.bool false)], args := [d1, d2] }
  | _ => none }
def TlvCutsWrongFalsely : Prop := tlvCutsRow.holds Try.pinned (OpenSpec.ofChange tlvCutsWrong)

/- THE SECOND FORM. 'bulk': how many values and letters a reading holds, each counted each time it is reached (what is shared counts as often as it is met; a slice's spare places count too). A statement '..UptoSaid' is the law's where the arguments, and the package variables that the reading takes, are together of bulk at most 1048576: NARROWER than '..Said'. Prove '..Said' where nothing that the law and all that it calls make is longer than what came in: it says more and counts as full. Else prove '..UptoSaid'. A law counts once. -/
mutual
def uptoBulk {H : Type} : DataW H → Nat
  | .lit (.string bytes) => bytes.length + 1
  | .lit _ => 1
  | .nil => 1
  | .ptr d => uptoBulk d + 1
  | .slice elems spare => uptoBulkAll elems + uptoBulkAll spare + 1
  | .agg parts => uptoBulkAll parts + 1
  | .iface _ d => uptoBulk d + 1
  | .map entries => uptoBulkEntries entries + 1
  | .held _ => 1
def uptoBulkAll {H : Type} : List (DataW H) → Nat
  | [] => 0
  | d :: r => uptoBulk d + uptoBulkAll r
def uptoBulkEntries {H : Type} : List (Lit × DataW H) → Nat
  | [] => 0
  | x :: r => uptoBulkEntry x + uptoBulkEntries r
def uptoBulkEntry {H : Type} : Lit × DataW H → Nat
  | (.string bytes, d) => bytes.length + uptoBulk d + 1
  | (_, d) => uptoBulk d + 1
 end
def uptoSmall : (H : Type) → List (DataW H) → Bool := fun _ ds => decide (uptoBulkAll ds ≤ 1048576)
def OpenSpec.upto (s : _root_.Go.ChangeSpec) : _root_.Go.OpenSpec := { _root_.Go.OpenSpec.ofChange s with cond := some uptoSmall }

/-- 'blazonlaw02.TlvWrites', WHERE WHAT IT READS IS OF BULK AT MOST 1048576: true; the input reads as it did. -/
def tlvWritesUptoRow : OpenClaim := { program := "ytiakfdfpikheaaa", sum := "78fb58f798370635ddc50dbfade446894e7f203d0845356fb6b1a29d09d67a58", func := "blazon/blazonlaw02.TlvWrites", spec := "tlvWrites", unfollowed := true, recurses := true, apart := false, narrowed := true }
def TlvWritesUptoSaid : Prop := tlvWritesUptoRow.holds Try.pinned (OpenSpec.upto tlvWritesSpec)

/-- 'blazonlaw02.TlvGoes', WHERE WHAT IT READS IS OF BULK AT MOST 1048576: true; the input reads as it did. -/
def tlvGoesUptoRow : OpenClaim := { program := "ytiakfdfpikheaaa", sum := "78fb58f798370635ddc50dbfade446894e7f203d0845356fb6b1a29d09d67a58", func := "blazon/blazonlaw02.TlvGoes", spec := "tlvGoes", unfollowed := true, recurses := true, apart := false, narrowed := true }
def TlvGoesUptoSaid : Prop := tlvGoesUptoRow.holds Try.pinned (OpenSpec.upto tlvGoesSpec)

/-- 'blazonlaw02.TlvMeans', WHERE WHAT IT READS IS OF BULK AT MOST 1048576: true; the input reads as it did. -/
def tlvMeansUptoRow : OpenClaim := { program := "ytiakfdfpikheaaa", sum := "78fb58f798370635ddc50dbfade446894e7f203d0845356fb6b1a29d09d67a58", func := "blazon/blazonlaw02.TlvMeans", spec := "tlvMeans", unfollowed := true, recurses := true, apart := false, narrowed := true }
def TlvMeansUptoSaid : Prop := tlvMeansUptoRow.holds Try.pinned (OpenSpec.upto tlvMeansSpec)

/-- 'blazonlaw02.TlvCuts', WHERE WHAT IT READS IS OF BULK AT MOST 1048576: true; the input reads as it did. -/
def tlvCutsUptoRow : OpenClaim := { program := "ytiakfdfpikheaaa", sum := "78fb58f798370635ddc50dbfade446894e7f203d0845356fb6b1a29d09d67a58", func := "blazon/blazonlaw02.TlvCuts", spec := "tlvCuts", unfollowed := true, recurses := true, apart := false, narrowed := true }
def TlvCutsUptoSaid : Prop := tlvCutsUptoRow.holds Try.pinned (OpenSpec.upto tlvCutsSpec)

end Rows
end Go.Proofs.Ytiakfdfpikheaaa
