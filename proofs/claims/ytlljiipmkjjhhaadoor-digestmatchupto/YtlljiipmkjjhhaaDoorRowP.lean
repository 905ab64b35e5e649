/-
  A row of bytes that is written place by place.
-/
import Derived.Test.YtlljiipmkjjhhaaDoorSha1
namespace Go.Proofs.YtlljiipmkjjhhaaDoor
open Go.RowKit

theorem mid_put (zs ys : List Int) (k : Nat) (h : k < zs.length) (hl : ys.length = zs.length) : (zs.take k ++ ys.drop k).set k (zs[k]?.getD 0) = zs.take (k + 1) ++ ys.drop (k + 1) := by
  have hk : (zs.take k).length = k := by simp; omega
  rw [List.set_append_right _ _ (by omega), hk, Nat.sub_self, List.drop_eq_getElem_cons (show k < ys.length by omega), List.set_cons_zero, List.getElem?_eq_getElem h, List.take_succ_eq_append_getElem h, List.append_assoc]
  rfl
theorem row_put {w : World} {g : Nat} {l : List Int} (h : w.heap[g]? = some (.cells (l.map (Value.int .u8)).toArray 5 (0, 0))) (k : Nat) (x : Int) :
    (w.setCell ⟨g, k, none⟩ (.int .u8 x)).heap[g]? = some (.cells ((l.set k x).map (Value.int .u8)).toArray 5 (0, 0)) := by
  rw [heap_setCell_same _ _ _ _ _ _ h]
  simp [List.map_set]
end Go.Proofs.YtlljiipmkjjhhaaDoor
