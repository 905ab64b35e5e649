/-
  PLAIN MATHEMATICS of package code's numbers: a number in so many bytes, the highest first. No Go text is named here.
-/
import Derived.WalkKit
namespace Go.Proofs.Ytmjbaficdoehfaa
open Go.RowKit

/-- The number that these bytes are, the highest first. -/
def be (l : List Int) : Int := l.foldl (fun n x => n * 256 + x) 0
def Octs (ys : List Int) : Prop := ∀ u, u ∈ ys → 0 ≤ u ∧ u ≤ 255
theorem take_snoc (l : List Int) (k : Nat) (h : k < l.length) : l.take (k + 1) = l.take k ++ [l.getD k 0] := by
  rw [List.take_succ_eq_append_getElem h]; simp [List.getD, h]
section
variable {most n z : Int} {ys : List Int} {k : Nat}
end

end Go.Proofs.Ytmjbaficdoehfaa
