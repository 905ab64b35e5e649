/-
  PLAIN MATHEMATICS of package code's numbers: a number in so many bytes, the highest first. No Go text is named here.
-/
import Derived.WalkKit
namespace Go.Proofs.YtmjbaficdoehfaaDoor
open Go.RowKit

/-- The number that these bytes are, the highest first. -/
def be (l : List Int) : Int := l.foldl (fun n x => n * 256 + x) 0
def Octs (ys : List Int) : Prop := ∀ u, u ∈ ys → 0 ≤ u ∧ u ≤ 255
theorem octs_take {l : List Int} (h : Octs l) (k : Nat) : Octs (l.take k) := fun u hu => h u (List.mem_of_mem_take hu)
theorem octs_drop {l : List Int} (h : Octs l) (k : Nat) : Octs (l.drop k) := fun u hu => h u (List.mem_of_mem_drop hu)
/-- What is found at the front of some bytes: a number, where its text begins and where the item ends; the fault, 0 for none. -/
structure Fnd where
  n : Int
  frm : Nat
  to : Nat
  f : Nat

section
variable {most n z : Int} {ys : List Int} {k : Nat}
end

/-- What is told of a number that is found. -/
structure Fnd.Good (x : Fnd) (len : Nat) (most : Int) : Prop where
  n0 : 0 ≤ x.n
  le : x.f = 0 → x.n ≤ most
  frm : x.frm ≤ x.to
  to : x.to ≤ len
  f : x.f ≤ 3
  bad : x.f ≠ 0 → x = ⟨0, 0, 0, x.f⟩
  one : x.f = 0 → 1 ≤ x.to ∧ x.to ≤ 10 ∧ x.frm = x.to
end Go.Proofs.YtmjbaficdoehfaaDoor
