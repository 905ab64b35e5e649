/-
  DERIVED. GIVEN WITH THE SEED: THE CARDS: each row of YtbphibolgckmnaaGreatDoorRows.lean that lists a variable, with what it lists TIED to the program's text (the seventh form; the later family's looks); each row that meets fmt, with fmt's text TOLD by the authors' own Lean function (tested against real Go, not proved from fmt's source: count such statements apart). THE CARD IS WHAT COUNTS. Prove the row's statement (the work); the ties are given (YtbphibolgckmnaaGreatDoorTie.lean); close each card by the builder's one call (the guide's Derived/Test/ToyasCard.lean, 'card_holds'). Laid BY PROGRAM, IN A SANDBOX (cutbox-door.mjs). By AI agents, Wed Nov 11 2026. No macro, syntax, notation, axiom, sorry.
-/
import Derived.Test.YtbphibolgckmnaaGreatDoorRows
import GoSem.ClaimSeven
namespace Go.Proofs.YtbphibolgckmnaaGreatDoor
namespace Rows

/-- THE TIED CARD OF 'satchellaw4.StoreMany'. -/
def storeManyCard : Claim7 := { stood := { row := storeManyRow, standIns := [], harness := (true, "3ec6a257b3e962d25507c85a28babc2daa0c6c372f69d7b11715b34bd1e4a1fb"), looks := true }, kinds := [], alts := [], laidByText := true, laidKinds := [.data, .data], laidTests := true, laidLooks := .later }
def StoreManyCardSaid : Prop := Claim7.holds Tryz.pinned (.plain (OpenSpec.ofChange storeManySpec)) storeManyCard

/-- THE TIED CARD OF 'satchellaw4.StoreNested'. -/
def storeNestedCard : Claim7 := { stood := { row := storeNestedRow, standIns := [], harness := (true, "3ec6a257b3e962d25507c85a28babc2daa0c6c372f69d7b11715b34bd1e4a1fb"), looks := true }, kinds := [], alts := [], laidByText := true, laidKinds := [.data, .data], laidTests := true, laidLooks := .later }
def StoreNestedCardSaid : Prop := Claim7.holds Tryz.pinned (.plain (OpenSpec.ofChange storeNestedSpec)) storeNestedCard

/-- THE TIED CARD OF 'satchellaw4.StoreCopies'. -/
def storeCopiesCard : Claim7 := { stood := { row := storeCopiesRow, standIns := [], harness := (true, "3ec6a257b3e962d25507c85a28babc2daa0c6c372f69d7b11715b34bd1e4a1fb"), looks := true }, kinds := [], alts := [], laidByText := true, laidKinds := [.data, .data], laidTests := true, laidLooks := .later }
def StoreCopiesCardSaid : Prop := Claim7.holds Tryz.pinned (.plain (OpenSpec.ofChange storeCopiesSpec)) storeCopiesCard

/-- THE TIED CARD OF 'satchellaw4.StoreWalked'. -/
def storeWalkedCard : Claim7 := { stood := { row := storeWalkedRow, standIns := [], harness := (true, "3ec6a257b3e962d25507c85a28babc2daa0c6c372f69d7b11715b34bd1e4a1fb"), looks := true }, kinds := [], alts := [], laidByText := true, laidKinds := [.data, .data], laidTests := true, laidLooks := .later }
def StoreWalkedCardSaid : Prop := Claim7.holds Tryz.pinned (.plain (OpenSpec.ofChange storeWalkedSpec)) storeWalkedCard

/-- THE TIED CARD OF 'satchellaw4.StoreKeeps'. -/
def storeKeepsCard : Claim7 := { stood := { row := storeKeepsRow, standIns := [], harness := (true, "3ec6a257b3e962d25507c85a28babc2daa0c6c372f69d7b11715b34bd1e4a1fb"), looks := true }, kinds := [], alts := [], laidByText := true, laidKinds := [.data, .data], laidTests := true, laidLooks := .later }
def StoreKeepsCardSaid : Prop := Claim7.holds Tryz.pinned (.plain (OpenSpec.ofChange storeKeepsSpec)) storeKeepsCard

/-- THE TIED CARD OF 'satchellaw4.StoreFinds'. -/
def storeFindsCard : Claim7 := { stood := { row := storeFindsRow, standIns := [], harness := (true, "3ec6a257b3e962d25507c85a28babc2daa0c6c372f69d7b11715b34bd1e4a1fb"), looks := true }, kinds := [], alts := [], laidByText := true, laidKinds := [.data, .data], laidTests := true, laidLooks := .later }
def StoreFindsCardSaid : Prop := Claim7.holds Tryz.pinned (.plain (OpenSpec.ofChange storeFindsSpec)) storeFindsCard

/-- THE SECOND FORM's CARD OF 'satchellaw4.StoreMany'. -/
def storeManyUptoCard : Claim7 := { stood := { row := storeManyUptoRow, standIns := [], harness := (true, "3ec6a257b3e962d25507c85a28babc2daa0c6c372f69d7b11715b34bd1e4a1fb"), looks := true }, kinds := [], alts := [], laidByText := true, laidKinds := [.data, .data], laidTests := true, laidLooks := .later }
def StoreManyUptoCardSaid : Prop := Claim7.holds Tryz.pinned (.plain (OpenSpec.upto storeManySpec)) storeManyUptoCard

/-- THE SECOND FORM's CARD OF 'satchellaw4.StoreNested'. -/
def storeNestedUptoCard : Claim7 := { stood := { row := storeNestedUptoRow, standIns := [], harness := (true, "3ec6a257b3e962d25507c85a28babc2daa0c6c372f69d7b11715b34bd1e4a1fb"), looks := true }, kinds := [], alts := [], laidByText := true, laidKinds := [.data, .data], laidTests := true, laidLooks := .later }
def StoreNestedUptoCardSaid : Prop := Claim7.holds Tryz.pinned (.plain (OpenSpec.upto storeNestedSpec)) storeNestedUptoCard

/-- THE SECOND FORM's CARD OF 'satchellaw4.StoreCopies'. -/
def storeCopiesUptoCard : Claim7 := { stood := { row := storeCopiesUptoRow, standIns := [], harness := (true, "3ec6a257b3e962d25507c85a28babc2daa0c6c372f69d7b11715b34bd1e4a1fb"), looks := true }, kinds := [], alts := [], laidByText := true, laidKinds := [.data, .data], laidTests := true, laidLooks := .later }
def StoreCopiesUptoCardSaid : Prop := Claim7.holds Tryz.pinned (.plain (OpenSpec.upto storeCopiesSpec)) storeCopiesUptoCard

/-- THE SECOND FORM's CARD OF 'satchellaw4.StoreWalked'. -/
def storeWalkedUptoCard : Claim7 := { stood := { row := storeWalkedUptoRow, standIns := [], harness := (true, "3ec6a257b3e962d25507c85a28babc2daa0c6c372f69d7b11715b34bd1e4a1fb"), looks := true }, kinds := [], alts := [], laidByText := true, laidKinds := [.data, .data], laidTests := true, laidLooks := .later }
def StoreWalkedUptoCardSaid : Prop := Claim7.holds Tryz.pinned (.plain (OpenSpec.upto storeWalkedSpec)) storeWalkedUptoCard

/-- THE SECOND FORM's CARD OF 'satchellaw4.StoreKeeps'. -/
def storeKeepsUptoCard : Claim7 := { stood := { row := storeKeepsUptoRow, standIns := [], harness := (true, "3ec6a257b3e962d25507c85a28babc2daa0c6c372f69d7b11715b34bd1e4a1fb"), looks := true }, kinds := [], alts := [], laidByText := true, laidKinds := [.data, .data], laidTests := true, laidLooks := .later }
def StoreKeepsUptoCardSaid : Prop := Claim7.holds Tryz.pinned (.plain (OpenSpec.upto storeKeepsSpec)) storeKeepsUptoCard

/-- THE SECOND FORM's CARD OF 'satchellaw4.StoreFinds'. -/
def storeFindsUptoCard : Claim7 := { stood := { row := storeFindsUptoRow, standIns := [], harness := (true, "3ec6a257b3e962d25507c85a28babc2daa0c6c372f69d7b11715b34bd1e4a1fb"), looks := true }, kinds := [], alts := [], laidByText := true, laidKinds := [.data, .data], laidTests := true, laidLooks := .later }
def StoreFindsUptoCardSaid : Prop := Claim7.holds Tryz.pinned (.plain (OpenSpec.upto storeFindsSpec)) storeFindsUptoCard
end Rows
end Go.Proofs.YtbphibolgckmnaaGreatDoor
