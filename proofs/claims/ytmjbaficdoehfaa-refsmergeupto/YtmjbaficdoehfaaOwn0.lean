/-
  Lists of bytes that are one's own.
-/
import Derived.Test.YtmjbaficdoehfaaChecked
import Derived.Test.YtmjbaficdoehfaaBase
import Derived.Laws.OwnMore
import Derived.Deep.Onto
namespace Go.Proofs.Ytmjbaficdoehfaa
open Go.RowKit

/-- v is a list of the bytes ys in memory of its own, none of it below B. -/
def OwnB (w : World) (B : Nat) (v : Value) (ys : List Int) : Prop := w.ownsRow B 5 1 v ys.length (ys.map (Value.int .u8))

theorem OwnB.bytes {w : World} {B : Nat} {v : Value} {ys : List Int} (h : OwnB w B v ys) : BytesAt w v ys := by
  rcases h.2 with ⟨hv, hn⟩ | ⟨g, cap', cur, hv, hg, hh, hnc, hcm, hcs, htk⟩
  · obtain rfl : ys = [] := List.eq_nil_of_length_eq_zero hn
    rw [hv]; exact BytesAt.nil w
  · rw [hv]
    refine ⟨_, cap', rfl, hnc, fun e => (by simp at e), fun _ => ⟨g, 0, rfl, fun i u hu => ?_⟩⟩
    have hi : i < ys.length := (List.getElem?_eq_some_iff.1 hu).1
    rw [cell_of_row w g (0 + i) _ _ _ hh, Nat.zero_add, ← Array.getElem?_toList]
    have h2 : (cur.toList.take (ys.length * 1))[i]? = cur.toList[i]? := List.getElem?_take_of_lt (by omega)
    rw [← h2, htk]
    simp [hu]
theorem OwnB.kept {w w' : World} {B : Nat} {v : Value} {ys : List Int} {T : List Nat} (h : OwnB w B v ys) (k : Kept T w w') (hd : ∀ x, v.ownBlock = some x → x ∉ T) : OwnB w' B v ys := by
  refine ⟨h.1, ?_⟩
  rcases h.2 with hn | ⟨g, cap', cur, hv, hg, hh, rest⟩
  · exact Or.inl hn
  · refine Or.inr ⟨g, cap', cur, hv, hg, k.heap hh (hd g ?_), rest⟩
    rw [hv]; rfl
theorem OwnB.mono {w : World} {B B' : Nat} {v : Value} {ys : List Int} (h : OwnB w B v ys) (hb : B' ≤ B) : OwnB w B' v ys := World.ownsRow.mono h hb
theorem OwnB.form {w : World} {B : Nat} {v : Value} {ys : List Int} (h : OwnB w B v ys) (hn : ys ≠ []) : ∃ g cap, v = .slice (some ⟨g, 0, none⟩) ys.length cap ∧ B ≤ g ∧ g < w.heap.size := by
  rcases h.2 with ⟨_, h0⟩ | ⟨g, cap', cur, hv, hg, hh, rest⟩
  · exact absurd (List.eq_nil_of_length_eq_zero h0) hn
  · exact ⟨g, cap', hv, (hg), lt_of_block hh⟩
end Go.Proofs.Ytmjbaficdoehfaa
