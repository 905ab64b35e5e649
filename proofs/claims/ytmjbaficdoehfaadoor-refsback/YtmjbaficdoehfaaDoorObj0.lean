/-
  WALKS: object.readID, readText, writeText.
-/
import Derived.Test.YtmjbaficdoehfaaDoorId0
import Derived.Test.YtmjbaficdoehfaaDoorChecked
import Derived.Test.YtmjbaficdoehfaaDoorBase
import Derived.Test.YtmjbaficdoehfaaDoorPlain
import Derived.Outline
import Derived.Test.YtmjbaficdoehfaaDoorPlain2
import Derived.Deep.QuietTactic
import Derived.BigQuiet
import Derived.Test.YtmjbaficdoehfaaDoorWMoreA
import Derived.Test.YtmjbaficdoehfaaDoorConv
import Derived.Deep.RegionLaw
import Derived.Laws.IdiomStrings
namespace Go.Proofs.YtmjbaficdoehfaaDoor
open Go.RowKit

theorem results_cell1 {fn : Func} {p : Tmp} {ty : TypeId} (h : fn.results = #[.cell p ty]) (tmps : Array Value) (P : Program) (w : World) :
    (results fn tmps).run P w = ((asAddr (tmps.getD p undef)).run P w).andThen fun a w₁ => (loadVar ty a).run P w₁ := by
  simp only [results, h]
  simp [Sem.run_bind, Result.andThen]
end Go.Proofs.YtmjbaficdoehfaaDoor
