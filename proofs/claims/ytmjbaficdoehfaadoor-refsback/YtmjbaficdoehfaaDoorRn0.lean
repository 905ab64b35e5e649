/-
  PLAIN: good names of refs: rune by rune (as the program reads them) and part by part (as the document tells them) are the same.
-/
import Derived.Test.YtmjbaficdoehfaaDoorChecked
import Derived.Test.YtmjbaficdoehfaaDoorBase
namespace Go.Proofs.YtmjbaficdoehfaaDoor

/-- Letters and digits. -/
def alnumB (b : Int) : Bool := (decide (97 ≤ b) && decide (b ≤ 122)) || (decide (65 ≤ b) && decide (b ≤ 90)) || (decide (48 ≤ b) && decide (b ≤ 57))
/-- Which sign may follow which. -/
def sgnB (last b : Int) : Bool := if last = 47 then decide (b = 95) else if last = 46 then decide (b = 95) || decide (b = 45) else decide (b = 46) || decide (b = 95) || decide (b = 45) || decide (b = 47)
def mayB (last b : Int) : Bool := decide (128 ≤ b) || alnumB b || sgnB last b
def runB (last : Int) : List Int → Bool
  | [] => mayB last 47
  | b :: t => mayB last b && runB b t
def headN : List Int := [72, 69, 65, 68]
/-- A text cut at each 47. -/
def cutL (acc : List Int) : List Int → List (List Int)
  | [] => [acc]
  | b :: t => if b = 47 then acc :: cutL [] t else cutL (acc ++ [b]) t

end Go.Proofs.YtmjbaficdoehfaaDoor
