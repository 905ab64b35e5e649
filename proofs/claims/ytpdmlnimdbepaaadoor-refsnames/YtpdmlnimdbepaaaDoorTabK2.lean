/-
  The two tables of UTF-8 stay where they lie.
-/
import Derived.Test.YtpdmlnimdbepaaaDoorObj1
namespace Go.Proofs.YtpdmlnimdbepaaaDoor
open Go.RowKit

theorem Tabs.kept {w w' : World} (h : Tabs w) (k : Kept [] w w') : Tabs w' := Utf8Tabs_below h (k.below (Nat.le_refl _) (by simp))
end Go.Proofs.YtpdmlnimdbepaaaDoor
