/-
  WALKS: code.New and the methods of a Writer, for every Writer.
-/
import Derived.Test.YtmhbadkejhbbmaaGreatDoorLookFixed
import Derived.Test.YtmhbadkejhbbmaaGreatDoorPlain2
import Derived.Maps.AppendAt
import Derived.Laws.AppendOwnNone
namespace Go.Proofs.YtmhbadkejhbbmaaGreatDoor
open Go.RowKit

/-- The Writer in block wb holds the bytes zs; S: all the memory that is its own; none of it lies below B. -/
def WAt (w : World) (wb B : Nat) (zs : List Int) (S : List Nat) : Prop :=
  ∃ ao cap, w.heap[wb]? = some (.cells #[.slice ao zs.length cap] 216 (0, 0)) ∧ w.ownsRow B 5 1 (.slice ao zs.length cap) zs.length (zs.map (Value.int .u8)) ∧
    S = wb :: (Value.slice ao zs.length cap).ownBlock.toList ∧ (Value.slice ao zs.length cap).ownBlock ≠ some wb ∧ Octs zs ∧ B ≤ wb

theorem WAt.lt {w : World} {wb B : Nat} {zs : List Int} {S : List Nat} (h : WAt w wb B zs S) : ∀ x, x ∈ S → B ≤ x ∧ x < w.heap.size := by
  obtain ⟨ao, cap, hb, ho, rfl, _, _, hB⟩ := h
  intro x hx
  rcases List.mem_cons.1 hx with rfl | hx
  · exact ⟨hB, lt_of_block hb⟩
  · exact ho.lt x (by simpa using hx)

theorem WAt.kept {w w' : World} {wb B : Nat} {zs : List Int} {S T : List Nat} (h : WAt w wb B zs S) (k : Kept T w w') (hd : ∀ x, x ∈ S → x ∉ T) : WAt w' wb B zs S := by
  obtain ⟨ao, cap, hb, ho, rfl, hne, hoc, hB⟩ := h
  refine ⟨ao, cap, k.heap hb (hd wb (by simp)), ⟨ho.1, ?_⟩, rfl, hne, hoc, hB⟩
  rcases ho.2 with hn | ⟨g, cap', cur, hv, hg, hh, rest⟩
  · exact Or.inl hn
  · refine Or.inr ⟨g, cap', cur, hv, hg, k.heap hh (hd g ?_), rest⟩
    rw [hv]; simp [Value.ownBlock]

theorem WAt.bytes {w : World} {wb B : Nat} {zs : List Int} {S : List Nat} (h : WAt w wb B zs S) : ∃ ao cap, w.cell? ⟨wb, 0, none⟩ = some (.slice ao zs.length cap) ∧ BytesAt w (.slice ao zs.length cap) zs := by
  obtain ⟨ao, cap, hb, ho, rfl, hne, hoc, hB⟩ := h
  refine ⟨ao, cap, cell_of_one hb, ?_⟩
  rcases ho.2 with ⟨hv, hn⟩ | ⟨g, cap', cur, hv, hg, hh, hnc, hcm, hcs, htk⟩
  · obtain rfl : zs = [] := List.eq_nil_of_length_eq_zero hn
    rw [hv]; exact BytesAt.nil w
  · rw [hv]
    simp only [Value.slice.injEq] at hv
    obtain ⟨rfl, _, rfl⟩ := hv
    refine ⟨_, cap, rfl, hnc, fun e => (by simp at e), fun _ => ⟨g, 0, rfl, fun i u hu => ?_⟩⟩
    have hi : i < zs.length := (List.getElem?_eq_some_iff.1 hu).1
    rw [cell_of_row w g (0 + i) _ _ _ hh, Nat.zero_add, ← Array.getElem?_toList]
    have h2 : (cur.toList.take (zs.length * 1))[i]? = cur.toList[i]? := List.getElem?_take_of_lt (by omega)
    rw [← h2, htk]
    simp [hu]

/-- What a Writer's call leaves: more bytes; its memory is its own; nothing else has turned. -/
def Wrote (w w' : World) (wb B : Nat) (zs : List Int) (S : List Nat) : Prop := ∃ S', WAt w' wb B zs S' ∧ Kept S w w' ∧ ∀ x, x ∈ S' → x ∈ S ∨ w.heap.size ≤ x

theorem Wrote.trans {w w1 w2 : World} {wb B : Nat} {us : List Int} {S S1 : List Nat} (k1 : Kept S w w1) (hS1 : ∀ x, x ∈ S1 → x ∈ S ∨ w.heap.size ≤ x) (h2 : Wrote w1 w2 wb B us S1) : Wrote w w2 wb B us S := by
  obtain ⟨S2, hw, k2, hs2⟩ := h2
  refine ⟨S2, hw, k1.trans k2 hS1, fun x hx => ?_⟩
  rcases hs2 x hx with h | h
  · exact hS1 x h
  · exact Or.inr (Nat.le_trans k1.size h)
theorem Wrote.refl {w : World} {wb B : Nat} {zs : List Int} {S : List Nat} (h : WAt w wb B zs S) : Wrote w w wb B zs S := ⟨S, h, Kept.refl _ _, fun _ hx => Or.inl hx⟩

end Go.Proofs.YtmhbadkejhbbmaaGreatDoor
