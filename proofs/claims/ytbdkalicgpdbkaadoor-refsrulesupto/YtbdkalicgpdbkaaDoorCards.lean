/-
  DERIVED. GIVEN WITH THE SEED: THE CARDS: each row of YtbdkalicgpdbkaaDoorRows.lean that lists a variable, with what it lists TIED to the program's text (the seventh form; the later family's looks); each row that meets fmt, with fmt's text TOLD by the authors' own Lean function (tested against real Go, not proved from fmt's source: count such statements apart). THE CARD IS WHAT COUNTS. Prove the row's statement (the work); the ties are given (YtbdkalicgpdbkaaDoorTie.lean); close each card by the builder's one call (the guide's Derived/Test/ToyasCard.lean, 'card_holds'). Laid BY PROGRAM, IN A SANDBOX (cutbox-door.mjs). By AI agents, Wed Nov 11 2026. No macro, syntax, notation, axiom, sorry.
-/
import Derived.Test.YtbdkalicgpdbkaaDoorRows
import GoSem.ClaimSeven
namespace Go.Proofs.YtbdkalicgpdbkaaDoor
namespace Rows

/-- THE TIED CARD OF 'satchellaw14.RefsBack'. -/
def refsBackCard : Claim7 := { stood := { row := refsBackRow, standIns := [], harness := (true, "0f0877842567fe810b5271be74411a4e5f77d85cb06dd8328be239b5e8bc5ddd"), looks := false }, kinds := [], alts := [], laidByText := true, laidKinds := [.data, .pinned], laidTests := true, laidLooks := .later }
def RefsBackCardSaid : Prop := Claim7.holds Tryd.pinned (.plain (OpenSpec.ofChange refsBackSpec)) refsBackCard

/-- THE TIED CARD OF 'satchellaw14.RefsRules'. -/
def refsRulesCard : Claim7 := { stood := { row := refsRulesRow, standIns := [], harness := (true, "0f0877842567fe810b5271be74411a4e5f77d85cb06dd8328be239b5e8bc5ddd"), looks := false }, kinds := [], alts := [], laidByText := true, laidKinds := [.data, .pinned], laidTests := true, laidLooks := .later }
def RefsRulesCardSaid : Prop := Claim7.holds Tryd.pinned (.plain (OpenSpec.ofChange refsRulesSpec)) refsRulesCard

/-- THE TIED CARD OF 'satchellaw14.RefsMapped'. -/
def refsMappedCard : Claim7 := { stood := { row := refsMappedRow, standIns := [], harness := (true, "0f0877842567fe810b5271be74411a4e5f77d85cb06dd8328be239b5e8bc5ddd"), looks := false }, kinds := [], alts := [], laidByText := true, laidKinds := [.data, .pinned], laidTests := true, laidLooks := .later }
def RefsMappedCardSaid : Prop := Claim7.holds Tryd.pinned (.plain (OpenSpec.ofChange refsMappedSpec)) refsMappedCard

/-- THE SECOND FORM's CARD OF 'satchellaw14.RefsBack'. -/
def refsBackUptoCard : Claim7 := { stood := { row := refsBackUptoRow, standIns := [], harness := (true, "0f0877842567fe810b5271be74411a4e5f77d85cb06dd8328be239b5e8bc5ddd"), looks := false }, kinds := [], alts := [], laidByText := true, laidKinds := [.data, .pinned], laidTests := true, laidLooks := .later }
def RefsBackUptoCardSaid : Prop := Claim7.holds Tryd.pinned (.plain (OpenSpec.upto refsBackSpec)) refsBackUptoCard

/-- THE SECOND FORM's CARD OF 'satchellaw14.RefsRules'. -/
def refsRulesUptoCard : Claim7 := { stood := { row := refsRulesUptoRow, standIns := [], harness := (true, "0f0877842567fe810b5271be74411a4e5f77d85cb06dd8328be239b5e8bc5ddd"), looks := false }, kinds := [], alts := [], laidByText := true, laidKinds := [.data, .pinned], laidTests := true, laidLooks := .later }
def RefsRulesUptoCardSaid : Prop := Claim7.holds Tryd.pinned (.plain (OpenSpec.upto refsRulesSpec)) refsRulesUptoCard

/-- THE SECOND FORM's CARD OF 'satchellaw14.RefsMapped'. -/
def refsMappedUptoCard : Claim7 := { stood := { row := refsMappedUptoRow, standIns := [], harness := (true, "0f0877842567fe810b5271be74411a4e5f77d85cb06dd8328be239b5e8bc5ddd"), looks := false }, kinds := [], alts := [], laidByText := true, laidKinds := [.data, .pinned], laidTests := true, laidLooks := .later }
def RefsMappedUptoCardSaid : Prop := Claim7.holds Tryd.pinned (.plain (OpenSpec.upto refsMappedSpec)) refsMappedUptoCard
end Rows
end Go.Proofs.YtbdkalicgpdbkaaDoor
