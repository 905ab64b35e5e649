/-
  Ids as values, in memory, and lists of them.
-/
import Derived.Test.YtpdlnmjnpodicaaDoorU8
import Derived.Test.YtpdlnmjnpodicaaDoorPlain
import Derived.Laws.BytesArg
import Derived.Laws.ResultCell
import Derived.Deep.MidRow
namespace Go.Proofs.YtpdlnmjnpodicaaDoor
open Go.RowKit

/-- An id as a value. -/
def idC (bs : List Int) : Array Value := (bs.map (Value.int .u8)).toArray
theorem idC_get {bs : List Int} {j : Nat} (h : j < bs.length) : (idC bs)[j]? = some (.int .u8 (bs[j]?.getD 0)) := by
  unfold idC
  rw [← Array.getElem?_toList]
  simp [List.getElem?_eq_getElem h]
theorem row_bytes' {w : World} {q : Nat} {ys : List Int} (h : w.heap[q]? = some (.cells (ys.map (Value.int .u8)).toArray 5 (0, 0))) : BytesAt w (.slice (some ⟨q, 0, none⟩) ys.length ys.length) ys := by
  refine ⟨_, _, rfl, Nat.le_refl _, fun e => (by simp at e), fun _ => ⟨q, 0, rfl, fun i u hu => ?_⟩⟩
  rw [cell_of_row _ _ _ _ _ _ h, Nat.zero_add, ← Array.getElem?_toList]
  simp [hu]

theorem Tryd.infoID : (Tryd.prog.info? 33).map (·.size) = some 32 := by kernel_rfl
theorem idC_size {bs : List Int} (h : bs.length = 32) : (idC bs).size = 32 := by simp [idC, h]
def GoodID (xs : List Int) : Prop := xs.length = 32 ∧ Octs xs
/-- The zero id's bytes. -/
def zero32 : List Int := List.replicate 32 0
theorem kept_setRow {w wr : World} (h : Kept [] w wr) {g : Nat} (hg : w.heap.size ≤ g) (cs : Array Value) : Kept [] w (wr.setRow g cs) :=
  kept_of_below (below_setRow (h.below (Nat.le_refl _) (by simp)) hg cs)

theorem range_kept {w w' : World} {b o : Nat} {cs : List Value} {T : List Nat} (h : w.rangeAt b o cs) (k : Kept T w w') (hn : b ∉ T) : w'.rangeAt b o cs := fun j v hj => k.cell (h j v hj) hn
theorem range_box (w : World) (bs : List Int) (t : TypeId) : (w.alloc (.cells (idC bs) t)).rangeAt w.heap.size 0 (bs.map (Value.int .u8)) := fun j v hj => by
  rw [cell_of_row _ _ _ _ _ _ (heap_alloc_new w _), Nat.zero_add, ← Array.getElem?_toList]
  simpa [idC] using hj

/-- A list of ids lies so. -/
def IdsAt (w : World) (v : Value) (ids : List (List Int)) : Prop :=
  ∃ ao cap, v = .slice ao ids.length cap ∧ ids.length ≤ cap ∧ (ao = none → cap = 0) ∧ ids.length ≤ 140737488351232 ∧ (ids ≠ [] → ∃ b off, ao = some ⟨b, off, none⟩ ∧ ∀ (i : Nat) (xs : List Int), ids[i]? = some xs → w.rangeAt b (off + i * 32) (xs.map (Value.int .u8)))
theorem IdsAt.keep {w w' : World} {v : Value} {ids : List (List Int)} {T : List Nat} (h : IdsAt w v ids) (k : Kept T w w') (hn : ids ≠ [] → ∀ b, blkOf v = some b → b ∉ T) : IdsAt w' v ids := by
  obtain ⟨ao, cap, rfl, h1, h0, h2, hc⟩ := h
  refine ⟨ao, cap, rfl, h1, h0, h2, fun hne => ?_⟩
  obtain ⟨b, off, rfl, hh⟩ := hc hne
  exact ⟨b, off, rfl, fun i xs hi => range_kept (hh i xs hi) k (hn hne b rfl)⟩

end Go.Proofs.YtpdlnmjnpodicaaDoor
