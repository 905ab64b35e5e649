/-
  A struct held against itself: entries, tags.
-/
import Derived.Test.YtmjbaficdoehfaaDoorId0
import Derived.DeepKeys
import Derived.Test.YtmjbaficdoehfaaDoorTag2
import Derived.Laws.StructEq
namespace Go.Proofs.YtmjbaficdoehfaaDoor
open Go.RowKit

theorem eqF_step {P : Program} {d : Nat} {xs : Array Value} {f : Field} {fs : List Field} {W : World} {a : Value} (hn : f.name ≠ "_") (ha : (part f.type xs f.offset).run P W = .ok a W) (he : (Op.equalIn d f.type a a).run P W = .ok true W) :
    (Op.eqFields d xs xs (f :: fs)).run P W = (Op.eqFields d xs xs fs).run P W := by
  simp [Op.eqFields, hn, ha, he]
theorem plainStr : Tryd.prog.plainKey 9 = true := by kernel_rfl
theorem selfStr (d : Nat) (s : ByteArray) (W : World) : (Op.equalIn (d + 1) 9 (.string s) (.string s)).run Tryd.prog W = .ok true W := by rw [run_equalIn_string W d 9 s s Tryd.underlying9]; simp

end Go.Proofs.YtmjbaficdoehfaaDoor
