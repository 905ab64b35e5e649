/-
  DERIVED. GIVEN WITH THE SEED: THE CARDS: each row of YtmambfdfkobjgaaDoorRows.lean that lists a variable, with what it lists TIED to the program's text (the seventh form; the later family's looks); each row that meets fmt, with fmt's text TOLD by the authors' own Lean function (tested against real Go, not proved from fmt's source: count such statements apart). THE CARD IS WHAT COUNTS. Prove the row's statement (the work); the ties are given (YtmambfdfkobjgaaDoorTie.lean); close each card by the builder's one call (the guide's Derived/Test/ToyasCard.lean, 'card_holds'). Laid BY PROGRAM, IN A SANDBOX (cutbox-door.mjs). By AI agents, Wed Nov 11 2026. No macro, syntax, notation, axiom, sorry.
-/
import Derived.Test.YtmambfdfkobjgaaDoorRows
import GoSem.ClaimSeven
namespace Go.Proofs.YtmambfdfkobjgaaDoor
namespace Rows

/-- THE TIED CARD OF 'satchellaw3.ObjectNamed'. -/
def objectNamedCard : Claim7 := { stood := { row := objectNamedRow, standIns := [], harness := (true, "f7c684b56e0556bc0c5c43a9fe97647e9b11584b8b6c4a35fed52609810daa14"), looks := true }, kinds := [], alts := [], laidByText := true, laidKinds := [.data, .pinned], laidTests := true, laidLooks := .later }
def ObjectNamedCardSaid : Prop := Claim7.holds Tryd.pinned (.plain (OpenSpec.ofChange objectNamedSpec)) objectNamedCard

/-- THE SECOND FORM's CARD OF 'satchellaw3.ObjectNamed'. -/
def objectNamedUptoCard : Claim7 := { stood := { row := objectNamedUptoRow, standIns := [], harness := (true, "f7c684b56e0556bc0c5c43a9fe97647e9b11584b8b6c4a35fed52609810daa14"), looks := true }, kinds := [], alts := [], laidByText := true, laidKinds := [.data, .pinned], laidTests := true, laidLooks := .later }
def ObjectNamedUptoCardSaid : Prop := Claim7.holds Tryd.pinned (.plain (OpenSpec.upto objectNamedSpec)) objectNamedUptoCard
end Rows
end Go.Proofs.YtmambfdfkobjgaaDoor
