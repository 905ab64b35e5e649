/-
  A row of bytes that is written place by place.
-/
import Derived.Test.YtmhbadkejhbbmaaGreatDoorU8
import Derived.Test.YtmhbadkejhbbmaaGreatDoorPlain
namespace Go.Proofs.YtmhbadkejhbbmaaGreatDoor
open Go.RowKit

theorem row_put {w : World} {g : Nat} {l : List Int} (h : w.heap[g]? = some (.cells (l.map (Value.int .u8)).toArray 5 (0, 0))) (k : Nat) (x : Int) :
    (w.setCell ⟨g, k, none⟩ (.int .u8 x)).heap[g]? = some (.cells ((l.set k x).map (Value.int .u8)).toArray 5 (0, 0)) := by
  rw [heap_setCell_same _ _ _ _ _ _ h]
  simp [List.map_set]
end Go.Proofs.YtmhbadkejhbbmaaGreatDoor
