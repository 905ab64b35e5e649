/-
  Entries of a tree: as cells, in memory, in lists.
  WALK: (object.tree).fault.
  WALK: (object.tree).write.
-/
import Derived.Test.YtmhbadkejhbbmaaGreatDoorStep
import Derived.Test.YtmhbadkejhbbmaaGreatDoorObj1
import Derived.Deep.WholeRow
namespace Go.Proofs.YtmhbadkejhbbmaaGreatDoor
open Go.RowKit

def GoodText (xs : List Int) : Prop := Octs xs ∧ xs.length ≤ 140737488351232
structure EntL where
  mode : Int
  name : List Int
  id : List Int
def EntL.row (e : EntL) : List Value := .int .i64 e.mode :: .string (strOfNums e.name) :: e.id.map (Value.int .u8)
structure EntL.Good (e : EntL) : Prop where
  lo : -9223372036854775808 ≤ e.mode
  hi : e.mode ≤ 9223372036854775807
  name : GoodText e.name
  id : GoodID e.id
theorem EntL.row_len {e : EntL} (h : GoodID e.id) : e.row.length = 34 := by simp [EntL.row, h.1]

/-- A list of rows of k cells lies so. -/
def RowsAt (w : World) (v : Value) (k : Nat) (rows : List (List Value)) : Prop :=
  ∃ ao cap, v = .slice ao rows.length cap ∧ rows.length ≤ cap ∧ (ao = none → cap = 0) ∧ rows.length ≤ 140737488351232 ∧ (rows ≠ [] → ∃ b off, ao = some ⟨b, off, none⟩ ∧ ∀ (i : Nat) (cs : List Value), rows[i]? = some cs → w.rangeAt b (off + i * k) cs)
theorem RowsAt.keep {w w' : World} {v : Value} {k : Nat} {rows : List (List Value)} {T : List Nat} (h : RowsAt w v k rows) (q : Kept T w w') (hn : rows ≠ [] → ∀ b, blkOf v = some b → b ∉ T) : RowsAt w' v k rows := by
  obtain ⟨ao, cap, rfl, h1, h0, h2, hc⟩ := h
  refine ⟨ao, cap, rfl, h1, h0, h2, fun hne => ?_⟩
  obtain ⟨b, off, rfl, hh⟩ := hc hne
  exact ⟨b, off, rfl, fun i xs hi => range_kept (hh i xs hi) q (hn hne b rfl)⟩
/-- A list of entries lies so. -/
def EntsAt (w : World) (v : Value) (es : List EntL) : Prop := RowsAt w v 34 (es.map EntL.row)
theorem EntsAt.keep {w w' : World} {v : Value} {es : List EntL} {T : List Nat} (h : EntsAt w v es) (q : Kept T w w') (hn : es ≠ [] → ∀ b, blkOf v = some b → b ∉ T) : EntsAt w' v es :=
  RowsAt.keep h q fun hne => hn fun e => hne (by rw [e]; rfl)
theorem row_range {w : World} {b : Nat} {cs : List Value} {t : TypeId} {fr : Nat × Nat} (h : w.heap[b]? = some (.cells cs.toArray t fr)) : w.rangeAt b 0 cs := fun j v hj => by
  rw [cell_of_row _ _ _ _ _ _ h, Nat.zero_add, List.getElem?_toArray]; exact hj
end Go.Proofs.YtmhbadkejhbbmaaGreatDoor

namespace Go.Proofs.YtmhbadkejhbbmaaGreatDoor
open Go.RowKit

theorem Tabs.kept {w w' : World} (h : Tabs w) (k : Kept [] w w') : Tabs w' := Utf8Tabs_below h (k.below (Nat.le_refl _) (by simp))

end Go.Proofs.YtmhbadkejhbbmaaGreatDoor

namespace Go.Proofs.YtmhbadkejhbbmaaGreatDoor
open Go.RowKit

/-- A Writer on its way: what it holds, and what has turned since w0. -/
structure WSt (w0 W : World) (wb B : Nat) (zs : List Int) (S S' : List Nat) : Prop where
  at' : WAt W wb B zs S'
  keep : Kept S w0 W
  foot : ∀ x, x ∈ S' → x ∈ S ∨ w0.heap.size ≤ x
theorem WSt.kept {w0 W W' : World} {wb B : Nat} {zs : List Int} {S S' : List Nat} (h : WSt w0 W wb B zs S S') (k : Kept [] W W') : WSt w0 W' wb B zs S S' :=
  ⟨h.at'.kept k (by simp), h.keep.then (k.more (by simp)), h.foot⟩
end Go.Proofs.YtmhbadkejhbbmaaGreatDoor
