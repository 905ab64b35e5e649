/-
  WALK: satchelref14.part: what a part of a ref's name may be.
-/
import Derived.Test.YtmjbaficdoehfaaDoorSg1
import Derived.Test.YtmjbaficdoehfaaDoorRn0
namespace Go.Proofs.YtmjbaficdoehfaaDoor
open Go.RowKit

theorem take_succ_getD {xs : List Int} {k : Nat} (hk : k < xs.length) : xs.take (k + 1) = xs.take k ++ [xs.getD k 0] := by
  rw [List.take_succ_eq_append_getElem hk, List.getD_eq_getElem?_getD, List.getElem?_eq_getElem hk]
  rfl
end Go.Proofs.YtmjbaficdoehfaaDoor
