/-
  Entries of a tree: as cells, in memory, in lists.
-/
import Derived.Test.YtmjbaficdoehfaaDoorObj0
import Derived.Test.YtmjbaficdoehfaaDoorObj1
import Derived.Deep.WholeRow
namespace Go.Proofs.YtmjbaficdoehfaaDoor
open Go.RowKit

def GoodText (xs : List Int) : Prop := Octs xs ∧ xs.length ≤ 140737488351232
structure EntL where
  mode : Int
  name : List Int
  id : List Int
def EntL.row (e : EntL) : List Value := .int .i64 e.mode :: .string (strOfNums e.name) :: e.id.map (Value.int .u8)
structure EntL.Good (e : EntL) : Prop where
  lo : -9223372036854775808 ≤ e.mode
  hi : e.mode ≤ 9223372036854775807
  name : GoodText e.name
  id : GoodID e.id
/-- A list of rows of k cells lies so. -/
def RowsAt (w : World) (v : Value) (k : Nat) (rows : List (List Value)) : Prop :=
  ∃ ao cap, v = .slice ao rows.length cap ∧ rows.length ≤ cap ∧ (ao = none → cap = 0) ∧ rows.length ≤ 140737488351232 ∧ (rows ≠ [] → ∃ b off, ao = some ⟨b, off, none⟩ ∧ ∀ (i : Nat) (cs : List Value), rows[i]? = some cs → w.rangeAt b (off + i * k) cs)
theorem RowsAt.keep {w w' : World} {v : Value} {k : Nat} {rows : List (List Value)} {T : List Nat} (h : RowsAt w v k rows) (q : Kept T w w') (hn : rows ≠ [] → ∀ b, blkOf v = some b → b ∉ T) : RowsAt w' v k rows := by
  obtain ⟨ao, cap, rfl, h1, h0, h2, hc⟩ := h
  refine ⟨ao, cap, rfl, h1, h0, h2, fun hne => ?_⟩
  obtain ⟨b, off, rfl, hh⟩ := hc hne
  exact ⟨b, off, rfl, fun i xs hi => range_kept (hh i xs hi) q (hn hne b rfl)⟩
/-- A list of entries lies so. -/
def EntsAt (w : World) (v : Value) (es : List EntL) : Prop := RowsAt w v 34 (es.map EntL.row)
theorem EntsAt.keep {w w' : World} {v : Value} {es : List EntL} {T : List Nat} (h : EntsAt w v es) (q : Kept T w w') (hn : es ≠ [] → ∀ b, blkOf v = some b → b ∉ T) : EntsAt w' v es :=
  RowsAt.keep h q fun hne => hn fun e => hne (by rw [e]; rfl)
theorem EntsAt.form {w : World} {v : Value} {es : List EntL} (h : EntsAt w v es) : ∃ ao cap, v = .slice ao es.length cap ∧ es.length ≤ cap ∧ es.length ≤ 140737488351232 ∧ (es ≠ [] → ∃ b off, ao = some ⟨b, off, none⟩ ∧ ∀ (i : Nat) (e : EntL), es[i]? = some e → w.rangeAt b (off + i * 34) e.row) := by
  obtain ⟨ao, cap, hv, h1, h0, h2, hc⟩ := h
  rw [List.length_map] at hv h1 h2
  refine ⟨ao, cap, hv, h1, h2, fun hne => ?_⟩
  obtain ⟨b, off, hb, hh⟩ := hc (by simpa using hne)
  exact ⟨b, off, hb, fun i e he => hh i e.row (by rw [List.getElem?_map, he]; rfl)⟩

end Go.Proofs.YtmjbaficdoehfaaDoor
