/-
  WALKS: satchelref3.tail, sign, Line, Name: for every text.
-/
import Derived.Test.YtmjbaficdoehfaaDoorObj1
import Derived.Test.YtmjbaficdoehfaaDoorBase
namespace Go.Proofs.YtmjbaficdoehfaaDoor
open Go.RowKit

theorem str_ix (ds : List Int) (ho : Octs ds) (k : Nat) (h : k < ds.length) (w : World) :
    (Instr.index 9 (.string (strOfNums ds)) (.int .i64 k)).run Tryd.prog w = .ok (.int .u8 (ds.getD k 0)) w := by
  have hu := ho ds[k] (List.getElem_mem h)
  rw [run_index_string w _ _ _ _ Tryd.underlying9, dif_pos ⟨by omega, by rw [strOfNums_size]; omega⟩]
  have e := str_at ds ho k h
  have e2 : ds.getD k 0 = ds[k] := by simp [List.getD_eq_getElem?_getD, List.getElem?_eq_getElem h]
  rw [e2]
  simp only [Int.toNat_natCast, e]
  congr 2
  omega

end Go.Proofs.YtmjbaficdoehfaaDoor
