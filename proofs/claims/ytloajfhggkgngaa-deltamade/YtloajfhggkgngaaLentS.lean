/-
  What was lent is written to.
-/
import Derived.Test.YtloajfhggkgngaaLend
import Derived.Maps.AppendAt
namespace Go.Proofs.Ytloajfhggkgngaa
open Go.RowKit

theorem Lent.set {w : World} {B g cap : Nat} {ys : List Int} (h : Lent w B g cap ys) (j : Nat) (hj : j < ys.length) (u : Int) : Lent (w.setCell ⟨g, j, none⟩ (.int .u8 u)) B g cap (ys.set j u) := by
  unfold Lent OwnB at *
  rw [List.length_append] at *
  have h1 := (World.ownsRow.stored h j (.int .u8 u)).1
  rw [List.length_set]
  have e : ((ys ++ [165, 90, 165]).map (Value.int .u8)).set j (.int .u8 u) = (ys.set j u ++ [165, 90, 165]).map (Value.int .u8) := by
    rw [← List.map_set, List.set_append_left _ _ hj]
  rw [e] at h1
  exact h1
theorem Lent.frozen {w : World} {B g cap : Nat} {ys : List Int} (h : Lent w B g cap ys) (j : Nat) : w.frozen? ⟨g, j, none⟩ = false := by
  unfold Lent OwnB at h
  rw [List.length_append] at h
  exact World.ownsRow.frozenAt h j

theorem mid_set (zs ys : List Int) (k : Nat) (h : k < zs.length) (hl : ys.length = zs.length) : (zs.take k ++ ys.drop k).set k (zs[k]?.getD 0) = zs.take (k + 1) ++ ys.drop (k + 1) := by
  have hk : (zs.take k).length = k := by simp; omega
  rw [List.set_append_right _ _ (by omega), hk, Nat.sub_self, List.drop_eq_getElem_cons (show k < ys.length by omega), List.set_cons_zero, List.getElem?_eq_getElem h, List.take_succ_eq_append_getElem h, List.append_assoc]
  rfl

end Go.Proofs.Ytloajfhggkgngaa
