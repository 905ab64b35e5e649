/-
  DERIVED. GIVEN WITH THE SEED: THE CARDS: each row of YtlljiipmkjjhhaaDoorRows.lean that lists a variable, with what it lists TIED to the program's text (the seventh form; the later family's looks); each row that meets fmt, with fmt's text TOLD by the authors' own Lean function (tested against real Go, not proved from fmt's source: count such statements apart). THE CARD IS WHAT COUNTS. Prove the row's statement (the work); the ties are given (YtlljiipmkjjhhaaDoorTie.lean); close each card by the builder's one call (the guide's Derived/Test/ToyasCard.lean, 'card_holds'). Laid BY PROGRAM, IN A SANDBOX (cutbox-door.mjs). By AI agents, Wed Nov 11 2026. No macro, syntax, notation, axiom, sorry.
-/
import Derived.Test.YtlljiipmkjjhhaaDoorRows
import GoSem.ClaimSeven
namespace Go.Proofs.YtlljiipmkjjhhaaDoor
namespace Rows

/-- THE TIED CARD OF 'satchellaw2.DigestMatch'. -/
def digestMatchCard : Claim7 := { stood := { row := digestMatchRow, standIns := [], harness := (true, "4fc3b66534a1515b47712c2ee1fab6d354180ec1a0449dd548cacc51c4c8a9a5"), looks := false }, kinds := [], alts := [], laidByText := true, laidKinds := [.data, .data], laidTests := true, laidLooks := .later }
def DigestMatchCardSaid : Prop := Claim7.holds Tryd.pinned (.plain (OpenSpec.ofChange digestMatchSpec)) digestMatchCard

/-- THE SECOND FORM's CARD OF 'satchellaw2.DigestMatch'. -/
def digestMatchUptoCard : Claim7 := { stood := { row := digestMatchUptoRow, standIns := [], harness := (true, "4fc3b66534a1515b47712c2ee1fab6d354180ec1a0449dd548cacc51c4c8a9a5"), looks := false }, kinds := [], alts := [], laidByText := true, laidKinds := [.data, .data], laidTests := true, laidLooks := .later }
def DigestMatchUptoCardSaid : Prop := Claim7.holds Tryd.pinned (.plain (OpenSpec.upto digestMatchSpec)) digestMatchUptoCard
end Rows
end Go.Proofs.YtlljiipmkjjhhaaDoor
