/-
  DERIVED. GIVEN WITH THE SEED: THE CARDS: each row of YtnfbiemmdaenpaaDoorRows.lean that lists a variable, with what it lists TIED to the program's text (the seventh form; the later family's looks); each row that meets fmt, with fmt's text TOLD by the authors' own Lean function (tested against real Go, not proved from fmt's source: count such statements apart). THE CARD IS WHAT COUNTS. Prove the row's statement (the work); the ties are given (YtnfbiemmdaenpaaDoorTie.lean); close each card by the builder's one call (the guide's Derived/Test/ToyasCard.lean, 'card_holds'). Laid BY PROGRAM, IN A SANDBOX (cutbox-door.mjs). By AI agents, Wed Nov 11 2026. No macro, syntax, notation, axiom, sorry.
-/
import Derived.Test.YtnfbiemmdaenpaaDoorRows
import GoSem.ClaimSeven
namespace Go.Proofs.YtnfbiemmdaenpaaDoor
namespace Rows

/-- THE TIED CARD OF 'satchellaw3.ObjectOne'. -/
def objectOneCard : Claim7 := { stood := { row := objectOneRow, standIns := [], harness := (true, "021d26ed4a6dca8ea4232003e454d5ab8e53b0fc782cc927b8f61a029306292b"), looks := true }, kinds := [], alts := [], laidByText := true, laidKinds := [.data, .pinned], laidTests := true, laidLooks := .later }
def ObjectOneCardSaid : Prop := Claim7.holds Tryd.pinned (.plain (OpenSpec.ofChange objectOneSpec)) objectOneCard

/-- THE TIED CARD OF 'satchellaw3.ObjectWhole'. -/
def objectWholeCard : Claim7 := { stood := { row := objectWholeRow, standIns := [], harness := (true, "021d26ed4a6dca8ea4232003e454d5ab8e53b0fc782cc927b8f61a029306292b"), looks := true }, kinds := [], alts := [], laidByText := true, laidKinds := [.data, .pinned], laidTests := true, laidLooks := .later }
def ObjectWholeCardSaid : Prop := Claim7.holds Tryd.pinned (.plain (OpenSpec.ofChange objectWholeSpec)) objectWholeCard

/-- THE SECOND FORM's CARD OF 'satchellaw3.ObjectOne'. -/
def objectOneUptoCard : Claim7 := { stood := { row := objectOneUptoRow, standIns := [], harness := (true, "021d26ed4a6dca8ea4232003e454d5ab8e53b0fc782cc927b8f61a029306292b"), looks := true }, kinds := [], alts := [], laidByText := true, laidKinds := [.data, .pinned], laidTests := true, laidLooks := .later }
def ObjectOneUptoCardSaid : Prop := Claim7.holds Tryd.pinned (.plain (OpenSpec.upto objectOneSpec)) objectOneUptoCard

/-- THE SECOND FORM's CARD OF 'satchellaw3.ObjectWhole'. -/
def objectWholeUptoCard : Claim7 := { stood := { row := objectWholeUptoRow, standIns := [], harness := (true, "021d26ed4a6dca8ea4232003e454d5ab8e53b0fc782cc927b8f61a029306292b"), looks := true }, kinds := [], alts := [], laidByText := true, laidKinds := [.data, .pinned], laidTests := true, laidLooks := .later }
def ObjectWholeUptoCardSaid : Prop := Claim7.holds Tryd.pinned (.plain (OpenSpec.upto objectWholeSpec)) objectWholeUptoCard
end Rows
end Go.Proofs.YtnfbiemmdaenpaaDoor
