/-
  DERIVED. GIVEN WITH THE SEED: THE CARDS: each row of YtppmjlfecbaicaaDoorRows.lean that lists a variable, with what it lists TIED to the program's text (the seventh form; the later family's looks); each row that meets fmt, with fmt's text TOLD by the authors' own Lean function (tested against real Go, not proved from fmt's source: count such statements apart). THE CARD IS WHAT COUNTS. Prove the row's statement (the work); the ties are given (YtppmjlfecbaicaaDoorTie.lean); close each card by the builder's one call (the guide's Derived/Test/ToyasCard.lean, 'card_holds'). Laid BY PROGRAM, IN A SANDBOX (cutbox-door.mjs). By AI agents, Wed Nov 11 2026. No macro, syntax, notation, axiom, sorry.
-/
import Derived.Test.YtppmjlfecbaicaaDoorRows
import GoSem.ClaimSeven
namespace Go.Proofs.YtppmjlfecbaicaaDoor
namespace Rows

/-- THE TIED CARD OF 'blazonlaw03.FieldsLines'. -/
def fieldsLinesCard : Claim7 := { stood := { row := fieldsLinesRow, standIns := [], harness := (true, "f53179b3dc4cbe4c1e8c874ec74b26d90c50dd2f36a772bb6170c8dbe97e6240"), looks := false }, kinds := [], alts := [], laidByText := true, laidKinds := [.data, .pinned], laidTests := true, laidLooks := .later }
def FieldsLinesCardSaid : Prop := Claim7.holds Tryd.pinned (.plain (OpenSpec.ofChange fieldsLinesSpec)) fieldsLinesCard

/-- THE TIED CARD OF 'blazonlaw03.FieldsCodes'. -/
def fieldsCodesCard : Claim7 := { stood := { row := fieldsCodesRow, standIns := [], harness := (true, "f53179b3dc4cbe4c1e8c874ec74b26d90c50dd2f36a772bb6170c8dbe97e6240"), looks := false }, kinds := [], alts := [], laidByText := true, laidKinds := [.data, .pinned], laidTests := true, laidLooks := .later }
def FieldsCodesCardSaid : Prop := Claim7.holds Tryd.pinned (.plain (OpenSpec.ofChange fieldsCodesSpec)) fieldsCodesCard

/-- THE TIED CARD OF 'blazonlaw03.FieldsMeans'. -/
def fieldsMeansCard : Claim7 := { stood := { row := fieldsMeansRow, standIns := [], harness := (true, "f53179b3dc4cbe4c1e8c874ec74b26d90c50dd2f36a772bb6170c8dbe97e6240"), looks := false }, kinds := [], alts := [], laidByText := true, laidKinds := [.data, .pinned], laidTests := true, laidLooks := .later }
def FieldsMeansCardSaid : Prop := Claim7.holds Tryd.pinned (.plain (OpenSpec.ofChange fieldsMeansSpec)) fieldsMeansCard

/-- THE SECOND FORM's CARD OF 'blazonlaw03.FieldsLines'. -/
def fieldsLinesUptoCard : Claim7 := { stood := { row := fieldsLinesUptoRow, standIns := [], harness := (true, "f53179b3dc4cbe4c1e8c874ec74b26d90c50dd2f36a772bb6170c8dbe97e6240"), looks := false }, kinds := [], alts := [], laidByText := true, laidKinds := [.data, .pinned], laidTests := true, laidLooks := .later }
def FieldsLinesUptoCardSaid : Prop := Claim7.holds Tryd.pinned (.plain (OpenSpec.upto fieldsLinesSpec)) fieldsLinesUptoCard

/-- THE SECOND FORM's CARD OF 'blazonlaw03.FieldsCodes'. -/
def fieldsCodesUptoCard : Claim7 := { stood := { row := fieldsCodesUptoRow, standIns := [], harness := (true, "f53179b3dc4cbe4c1e8c874ec74b26d90c50dd2f36a772bb6170c8dbe97e6240"), looks := false }, kinds := [], alts := [], laidByText := true, laidKinds := [.data, .pinned], laidTests := true, laidLooks := .later }
def FieldsCodesUptoCardSaid : Prop := Claim7.holds Tryd.pinned (.plain (OpenSpec.upto fieldsCodesSpec)) fieldsCodesUptoCard

/-- THE SECOND FORM's CARD OF 'blazonlaw03.FieldsMeans'. -/
def fieldsMeansUptoCard : Claim7 := { stood := { row := fieldsMeansUptoRow, standIns := [], harness := (true, "f53179b3dc4cbe4c1e8c874ec74b26d90c50dd2f36a772bb6170c8dbe97e6240"), looks := false }, kinds := [], alts := [], laidByText := true, laidKinds := [.data, .pinned], laidTests := true, laidLooks := .later }
def FieldsMeansUptoCardSaid : Prop := Claim7.holds Tryd.pinned (.plain (OpenSpec.upto fieldsMeansSpec)) fieldsMeansUptoCard
end Rows
end Go.Proofs.YtppmjlfecbaicaaDoor
