/-
  DERIVED. GIVEN WITH THE SEED: THE CARDS: each row of YtgoiaciamgailaaGreatDoorRRRRRows.lean that lists a variable, with what it lists TIED to the program's text (the seventh form; the later family's looks); each row that meets fmt, with fmt's text TOLD by the authors' own Lean function (tested against real Go, not proved from fmt's source: count such statements apart). THE CARD IS WHAT COUNTS. Prove the row's statement (the work); the ties are given (YtgoiaciamgailaaGreatDoorRRRRTie.lean); close each card by the builder's one call (the guide's Derived/Test/ToyasCard.lean, 'card_holds'). Laid BY PROGRAM, IN A SANDBOX (cutbox-door.mjs). By AI agents, Wed Nov 11 2026. No macro, syntax, notation, axiom, sorry.
-/
import Derived.Test.YtgoiaciamgailaaGreatDoorRRRRRows
import GoSem.ClaimSeven
namespace Go.Proofs.YtgoiaciamgailaaGreatDoorRRRR
namespace Rows

/-- THE TIED CARD OF 'blazonlaw05.UcdNil'. -/
def ucdNilCard : Claim7 := { stood := { row := ucdNilRow, standIns := [], harness := (true, "3383c7aeed2373ab8ea88dfb63005f34657895ab58ba70c000d2a92f130e21cb"), looks := true }, kinds := [], alts := [], laidByText := true, laidKinds := [.data, .handle, .pinned], laidTests := true, laidLooks := .later }
def UcdNilCardSaid : Prop := Claim7.holds Tryz.pinned (.plain (OpenSpec.ofChange ucdNilSpec)) ucdNilCard

/-- THE TIED CARD OF 'blazonlaw06.FoldNil'. -/
def foldNilCard : Claim7 := { stood := { row := foldNilRow, standIns := [], harness := (true, "3383c7aeed2373ab8ea88dfb63005f34657895ab58ba70c000d2a92f130e21cb"), looks := true }, kinds := [], alts := [], laidByText := true, laidKinds := [.data, .handle, .pinned], laidTests := true, laidLooks := .later }
def FoldNilCardSaid : Prop := Claim7.holds Tryz.pinned (.plain (OpenSpec.ofChange foldNilSpec)) foldNilCard

/-- THE SECOND FORM's CARD OF 'blazonlaw05.UcdNil'. -/
def ucdNilUptoCard : Claim7 := { stood := { row := ucdNilUptoRow, standIns := [], harness := (true, "3383c7aeed2373ab8ea88dfb63005f34657895ab58ba70c000d2a92f130e21cb"), looks := true }, kinds := [], alts := [], laidByText := true, laidKinds := [.data, .handle, .pinned], laidTests := true, laidLooks := .later }
def UcdNilUptoCardSaid : Prop := Claim7.holds Tryz.pinned (.plain (OpenSpec.upto ucdNilSpec)) ucdNilUptoCard

/-- THE SECOND FORM's CARD OF 'blazonlaw06.FoldNil'. -/
def foldNilUptoCard : Claim7 := { stood := { row := foldNilUptoRow, standIns := [], harness := (true, "3383c7aeed2373ab8ea88dfb63005f34657895ab58ba70c000d2a92f130e21cb"), looks := true }, kinds := [], alts := [], laidByText := true, laidKinds := [.data, .handle, .pinned], laidTests := true, laidLooks := .later }
def FoldNilUptoCardSaid : Prop := Claim7.holds Tryz.pinned (.plain (OpenSpec.upto foldNilSpec)) foldNilUptoCard
end Rows
end Go.Proofs.YtgoiaciamgailaaGreatDoorRRRR
