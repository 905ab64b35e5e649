/-
  DERIVED. GIVEN WITH THE SEED: THE CARDS: each row of YtddhhjgegkkjbaaGreatDoorRows.lean that lists a variable, with what it lists TIED to the program's text (the seventh form; the later family's looks); each row that meets fmt, with fmt's text TOLD by the authors' own Lean function (tested against real Go, not proved from fmt's source: count such statements apart). THE CARD IS WHAT COUNTS. Prove the row's statement (the work); the ties are given (YtddhhjgegkkjbaaGreatDoorTie.lean); close each card by the builder's one call (the guide's Derived/Test/ToyasCard.lean, 'card_holds'). Laid BY PROGRAM, IN A SANDBOX (cutbox-door.mjs). By AI agents, Wed Nov 11 2026. No macro, syntax, notation, axiom, sorry.
-/
import Derived.Test.YtddhhjgegkkjbaaGreatDoorRows
import GoSem.ClaimSeven
namespace Go.Proofs.YtddhhjgegkkjbaaGreatDoor
namespace Rows

/-- THE TIED CARD OF 'satchellaw4.StoreWalked'. -/
def storeWalkedCard : Claim7 := { stood := { row := storeWalkedRow, standIns := [], harness := (true, "931a2d11dc4efb515d5e66965d557c3492761fac54aa900433e94d4c2fa5d812"), looks := true }, kinds := [], alts := [], laidByText := true, laidKinds := [.data, .data], laidTests := true, laidLooks := .later }
def StoreWalkedCardSaid : Prop := Claim7.holds Tryz.pinned (.plain (OpenSpec.ofChange storeWalkedSpec)) storeWalkedCard

/-- THE TIED CARD OF 'satchellaw4.StoreFinds'. -/
def storeFindsCard : Claim7 := { stood := { row := storeFindsRow, standIns := [], harness := (true, "931a2d11dc4efb515d5e66965d557c3492761fac54aa900433e94d4c2fa5d812"), looks := true }, kinds := [], alts := [], laidByText := true, laidKinds := [.data, .data], laidTests := true, laidLooks := .later }
def StoreFindsCardSaid : Prop := Claim7.holds Tryz.pinned (.plain (OpenSpec.ofChange storeFindsSpec)) storeFindsCard

/-- THE SECOND FORM's CARD OF 'satchellaw4.StoreWalked'. -/
def storeWalkedUptoCard : Claim7 := { stood := { row := storeWalkedUptoRow, standIns := [], harness := (true, "931a2d11dc4efb515d5e66965d557c3492761fac54aa900433e94d4c2fa5d812"), looks := true }, kinds := [], alts := [], laidByText := true, laidKinds := [.data, .data], laidTests := true, laidLooks := .later }
def StoreWalkedUptoCardSaid : Prop := Claim7.holds Tryz.pinned (.plain (OpenSpec.upto storeWalkedSpec)) storeWalkedUptoCard

/-- THE SECOND FORM's CARD OF 'satchellaw4.StoreFinds'. -/
def storeFindsUptoCard : Claim7 := { stood := { row := storeFindsUptoRow, standIns := [], harness := (true, "931a2d11dc4efb515d5e66965d557c3492761fac54aa900433e94d4c2fa5d812"), looks := true }, kinds := [], alts := [], laidByText := true, laidKinds := [.data, .data], laidTests := true, laidLooks := .later }
def StoreFindsUptoCardSaid : Prop := Claim7.holds Tryz.pinned (.plain (OpenSpec.upto storeFindsSpec)) storeFindsUptoCard
end Rows
end Go.Proofs.YtddhhjgegkkjbaaGreatDoor
