/-
  WALKS: (*code.Writer).U8, U64 and Bytes, for every Writer.
  WALKS: object.readID, readText, writeText.
-/
import Derived.Test.YtmjbaficdoehfaaDoorChecked
import Derived.Test.YtmjbaficdoehfaaDoorBase
import Derived.Test.YtmjbaficdoehfaaDoorPlain2
import Derived.Maps.AppendAt
import Derived.Laws.AppendOwnNone
import Derived.Test.YtmjbaficdoehfaaDoorConv
import Derived.Deep.RegionLaw
import Derived.Deep.AppendLies
import Derived.Deep.DrawnRows
import Derived.WalkKit
import Derived.WalkSpells
import Derived.Lib.Walk
import Derived.Lib.BitFns
import Derived.Deep.Light
import Derived.Test.YtmjbaficdoehfaaDoorId0
import Derived.Outline
import Derived.Deep.QuietTactic
import Derived.BigQuiet
import Derived.Laws.IdiomStrings
namespace Go.Proofs.YtmjbaficdoehfaaDoor
open Go.RowKit

/-- As 'BytesAt.kept': of an empty slice nothing is asked. -/
theorem BytesAt.keep {S : List Nat} {w w' : World} {v : Value} {ys : List Int} (h : BytesAt w v ys) (hk : Kept S w w') (hn : ys ≠ [] → ∀ b, blkOf v = some b → b ∉ S) : BytesAt w' v ys := by
  obtain ⟨ao, cap, rfl, hc, hnil, hcell⟩ := h
  refine ⟨ao, cap, rfl, hc, hnil, fun hne => ?_⟩
  obtain ⟨b, off, rfl, hh⟩ := hcell hne
  exact ⟨b, off, rfl, fun i u hu => hk.cell (hh i u hu) (hn hne b rfl)⟩

end Go.Proofs.YtmjbaficdoehfaaDoor

namespace Go.Proofs.YtmjbaficdoehfaaDoor
open Go.RowKit

theorem results_cell1 {fn : Func} {p : Tmp} {ty : TypeId} (h : fn.results = #[.cell p ty]) (tmps : Array Value) (P : Program) (w : World) :
    (results fn tmps).run P w = ((asAddr (tmps.getD p undef)).run P w).andThen fun a w₁ => (loadVar ty a).run P w₁ := by
  simp only [results, h]
  simp [Sem.run_bind, Result.andThen]
end Go.Proofs.YtmjbaficdoehfaaDoor
