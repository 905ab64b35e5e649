/-
  DERIVED. GIVEN WITH THE SEED: THE CARDS: each row of YtfcoeinhfdbcgaaGreatDoorRows.lean that lists a variable, with what it lists TIED to the program's text (the seventh form; the later family's looks); each row that meets fmt, with fmt's text TOLD by the authors' own Lean function (tested against real Go, not proved from fmt's source: count such statements apart). THE CARD IS WHAT COUNTS. Prove the row's statement (the work); the ties are given (YtfcoeinhfdbcgaaGreatDoorTie.lean); close each card by the builder's one call (the guide's Derived/Test/ToyasCard.lean, 'card_holds'). Laid BY PROGRAM, IN A SANDBOX (cutbox-door.mjs). By AI agents, Wed Nov 11 2026. No macro, syntax, notation, axiom, sorry.
-/
import Derived.Test.YtfcoeinhfdbcgaaGreatDoorRows
import GoSem.ClaimSeven
namespace Go.Proofs.YtfcoeinhfdbcgaaGreatDoor
namespace Rows

/-- THE TIED CARD OF 'satchellaw3.ObjectExact'. -/
def objectExactCard : Claim7 := { stood := { row := objectExactRow, standIns := [], harness := (true, "186abd8bb3ce3d522f3e1a69a964799685fd622f7f506360f9f62c10187a545a"), looks := true }, kinds := [], alts := [], laidByText := true, laidKinds := [.data, .data, .data, .data, .data, .pinned], laidTests := true, laidLooks := .later }
def ObjectExactCardSaid : Prop := Claim7.holds Tryz.pinned (.plain (OpenSpec.ofChange objectExactSpec)) objectExactCard

/-- THE TIED CARD OF 'satchellaw3.ObjectTells'. -/
def objectTellsCard : Claim7 := { stood := { row := objectTellsRow, standIns := [], harness := (true, "186abd8bb3ce3d522f3e1a69a964799685fd622f7f506360f9f62c10187a545a"), looks := true }, kinds := [], alts := [], laidByText := true, laidKinds := [.data, .data, .data, .data, .data, .pinned], laidTests := true, laidLooks := .later }
def ObjectTellsCardSaid : Prop := Claim7.holds Tryz.pinned (.plain (OpenSpec.ofChange objectTellsSpec)) objectTellsCard

/-- THE SECOND FORM's CARD OF 'satchellaw3.ObjectExact'. -/
def objectExactUptoCard : Claim7 := { stood := { row := objectExactUptoRow, standIns := [], harness := (true, "186abd8bb3ce3d522f3e1a69a964799685fd622f7f506360f9f62c10187a545a"), looks := true }, kinds := [], alts := [], laidByText := true, laidKinds := [.data, .data, .data, .data, .data, .pinned], laidTests := true, laidLooks := .later }
def ObjectExactUptoCardSaid : Prop := Claim7.holds Tryz.pinned (.plain (OpenSpec.upto objectExactSpec)) objectExactUptoCard

/-- THE SECOND FORM's CARD OF 'satchellaw3.ObjectTells'. -/
def objectTellsUptoCard : Claim7 := { stood := { row := objectTellsUptoRow, standIns := [], harness := (true, "186abd8bb3ce3d522f3e1a69a964799685fd622f7f506360f9f62c10187a545a"), looks := true }, kinds := [], alts := [], laidByText := true, laidKinds := [.data, .data, .data, .data, .data, .pinned], laidTests := true, laidLooks := .later }
def ObjectTellsUptoCardSaid : Prop := Claim7.holds Tryz.pinned (.plain (OpenSpec.upto objectTellsSpec)) objectTellsUptoCard
end Rows
end Go.Proofs.YtfcoeinhfdbcgaaGreatDoor
