/-
  DERIVED. GIVEN WITH THE SEED: THE CARDS: each row of YtbflokiijfomeaaDoorRows.lean that lists a variable, with what it lists TIED to the program's text (the seventh form; the later family's looks); each row that meets fmt, with fmt's text TOLD by the authors' own Lean function (tested against real Go, not proved from fmt's source: count such statements apart). THE CARD IS WHAT COUNTS. Prove the row's statement (the work); the ties are given (YtbflokiijfomeaaDoorTie.lean); close each card by the builder's one call (the guide's Derived/Test/ToyasCard.lean, 'card_holds'). Laid BY PROGRAM, IN A SANDBOX (cutbox-door.mjs). By AI agents, Wed Nov 11 2026. No macro, syntax, notation, axiom, sorry.
-/
import Derived.Test.YtbflokiijfomeaaDoorRows
import GoSem.ClaimSeven
namespace Go.Proofs.YtbflokiijfomeaaDoor
namespace Rows

/-- THE TIED CARD OF 'satchellaw0.ApiChains'. -/
def apiChainsCard : Claim7 := { stood := { row := apiChainsRow, standIns := [], harness := (true, "7b8f4f8a1eee1667c08ca3f61b537f74aef49149f2e285465404abd08e826ba3"), looks := true }, kinds := [], alts := [], laidByText := true, laidKinds := [.handle], laidTests := true, laidLooks := .later }
def ApiChainsCardSaid : Prop := Claim7.holds Tryd.pinned (.plain (OpenSpec.ofChange apiChainsSpec)) apiChainsCard

/-- THE SECOND FORM's CARD OF 'satchellaw0.ApiChains'. -/
def apiChainsUptoCard : Claim7 := { stood := { row := apiChainsUptoRow, standIns := [], harness := (true, "7b8f4f8a1eee1667c08ca3f61b537f74aef49149f2e285465404abd08e826ba3"), looks := true }, kinds := [], alts := [], laidByText := true, laidKinds := [.handle], laidTests := true, laidLooks := .later }
def ApiChainsUptoCardSaid : Prop := Claim7.holds Tryd.pinned (.plain (OpenSpec.upto apiChainsSpec)) apiChainsUptoCard
end Rows
end Go.Proofs.YtbflokiijfomeaaDoor
