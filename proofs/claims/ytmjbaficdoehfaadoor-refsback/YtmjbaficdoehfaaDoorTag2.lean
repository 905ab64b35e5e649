/-
  WALKS: (object.tag).children, object.readTag.
-/
import Derived.Test.YtmjbaficdoehfaaDoorTag0
import Derived.Great.BuildSlice
namespace Go.Proofs.YtmjbaficdoehfaaDoor
open Go.RowKit

theorem fill_nil (place : Nat → Option (Nat × Nat)) (cells : Array Value) : Instr.fill place cells [] = some cells := rfl
section
variable {w0 W W' : World} {r g : Nat} {xs : List Int} {p q p' q' b0 b1 : Nat} {c0 c1 : Array Value} {ty : TypeId}
end

end Go.Proofs.YtmjbaficdoehfaaDoor
