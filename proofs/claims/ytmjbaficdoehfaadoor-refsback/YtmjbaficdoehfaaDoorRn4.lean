/-
  WALKS: satchelref14.Parted (at '/'), Good, Check.
-/
import Derived.Test.YtmjbaficdoehfaaDoorRn3
import Derived.Test.YtmjbaficdoehfaaDoorApp1
import Derived.Test.YtmjbaficdoehfaaDoorOwn0
namespace Go.Proofs.YtmjbaficdoehfaaDoor
open Go.RowKit

theorem Tryd.info_str : (Tryd.prog.info? 9).map (fun i => (i.zero, i.size, i.bytes)) = some (some (.string ⟨#[]⟩), 1, 16) := by kernel_rfl
/-- v is a list of these texts in memory of its own, none of it below B. -/
def StrOwn (w : World) (B : Nat) (v : Value) (L : List (List Int)) : Prop := w.ownsRow B 9 1 v L.length (L.map fun p => Value.string (strOfNums p))
theorem StrOwn.form {w : World} {B : Nat} {v : Value} {L : List (List Int)} (h : StrOwn w B v L) (hn : L ≠ []) : ∃ g cap, v = .slice (some ⟨g, 0, none⟩) L.length cap ∧ B ≤ g ∧ ∀ i p, L[i]? = some p → w.cell? ⟨g, i, none⟩ = some (.string (strOfNums p)) := by
  rcases h.2 with ⟨_, h0⟩ | ⟨g, cap', cur, hv, hg, hh, hnc, hcm, hcs, htk⟩
  · exact absurd (List.eq_nil_of_length_eq_zero h0) hn
  · refine ⟨g, cap', hv, hg, fun i p hp => ?_⟩
    have hi : i < L.length := (List.getElem?_eq_some_iff.1 hp).1
    rw [cell_of_row _ _ _ _ _ _ hh, ← Array.getElem?_toList]
    have h2 : (cur.toList.take (L.length * 1))[i]? = cur.toList[i]? := List.getElem?_take_of_lt (by omega)
    rw [← h2, htk]
    simp [hp]
theorem str_sub (l : List Int) (f k : Nat) : (strOfNums l).extract f k = strOfNums ((l.take k).drop f) := by
  unfold strOfNums
  rw [ByteArray.extract_mk, List.drop_take, List.map_take, List.map_drop]
/-- How far the cutting is. -/
def CutAt (xs : List Int) (k f : Nat) (L : List (List Int)) : Prop := f ≤ k ∧ L.length ≤ k ∧ ((k ≤ xs.length ∧ L ++ cutL ((xs.take k).drop f) (xs.drop k) = cutL [] xs) ∨ (k = xs.length + 1 ∧ L = cutL [] xs))
theorem CutAt.next {xs : List Int} {k f : Nat} {L : List (List Int)} (h : CutAt xs k f L) (hk : k < xs.length) (hx : xs.getD k 0 ≠ 47) : CutAt xs (k + 1) f L := by
  obtain ⟨h0, h1, h | h⟩ := h
  · refine ⟨by omega, by omega, Or.inl ⟨by omega, ?_⟩⟩
    have e := h.2
    rw [List.drop_eq_getElem_cons hk] at e
    have e2 : xs[k] = xs.getD k 0 := by rw [List.getD_eq_getElem?_getD, List.getElem?_eq_getElem hk]; rfl
    rw [e2, cutL, if_neg hx] at e
    rw [← e, take_succ_getD hk, List.drop_append_of_le_length (by rw [List.length_take]; omega)]
  · omega

def checkB (xs : List Int) : Bool := !decide (xs = headN) && decide (xs.length ≤ 255) && utfB xs && runB 47 xs
end Go.Proofs.YtmjbaficdoehfaaDoor
