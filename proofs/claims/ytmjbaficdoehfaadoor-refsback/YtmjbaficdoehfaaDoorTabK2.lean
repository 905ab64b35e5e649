/-
  The two tables of UTF-8 stay where they lie.
-/
import Derived.Test.YtmjbaficdoehfaaDoorObj1
namespace Go.Proofs.YtmjbaficdoehfaaDoor
open Go.RowKit

theorem Tabs.kept {w w' : World} (h : Tabs w) (k : Kept [] w w') : Tabs w' := Utf8Tabs_below h (k.below (Nat.le_refl _) (by simp))
end Go.Proofs.YtmjbaficdoehfaaDoor
