/-
  Facts on uint8's type, and rows of bytes.
-/
import Derived.Test.YtpdmlnimdbepaaaDoorChecked
import Derived.Test.YtpdmlnimdbepaaaDoorBase
namespace Go.Proofs.YtpdmlnimdbepaaaDoor
open Go.RowKit

theorem Tryd.info_u8 : (Tryd.prog.info? 5).map (fun i => (i.zero, i.size, i.bytes)) = some (some (.int .u8 0), 1, 1) := by kernel_rfl
theorem Tryd.size_u8 : (Tryd.prog.info? 5).map (·.size) = some 1 := by kernel_rfl

theorem map_oneCell (ys : List Int) : ∀ v, v ∈ ys.map (Value.int .u8) → v.oneCell' = true := ints_oneCell .u8 ys

theorem splice_all (n : Nat) (z : Value) (cs : List Value) (h : cs.length = n) : splice (List.replicate n z) 0 cs = cs := by
  simp [splice, h]

end Go.Proofs.YtpdmlnimdbepaaaDoor
