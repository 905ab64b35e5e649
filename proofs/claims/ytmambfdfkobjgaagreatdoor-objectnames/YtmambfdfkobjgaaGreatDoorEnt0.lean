/-
  Entries of a tree: as cells, in memory, in lists.
-/
import Derived.Test.YtmambfdfkobjgaaGreatDoorObj0
import Derived.Test.YtmambfdfkobjgaaGreatDoorObj1
import Derived.Deep.WholeRow
namespace Go.Proofs.YtmambfdfkobjgaaGreatDoor
open Go.RowKit

def GoodText (xs : List Int) : Prop := Octs xs ∧ xs.length ≤ 140737488351232
structure EntL where
  mode : Int
  name : List Int
  id : List Int
def EntL.row (e : EntL) : List Value := .int .i64 e.mode :: .string (strOfNums e.name) :: e.id.map (Value.int .u8)
structure EntL.Good (e : EntL) : Prop where
  lo : -9223372036854775808 ≤ e.mode
  hi : e.mode ≤ 9223372036854775807
  name : GoodText e.name
  id : GoodID e.id
theorem EntL.row_len {e : EntL} (h : GoodID e.id) : e.row.length = 34 := by simp [EntL.row, h.1]

/-- A list of rows of k cells lies so. -/
def RowsAt (w : World) (v : Value) (k : Nat) (rows : List (List Value)) : Prop :=
  ∃ ao cap, v = .slice ao rows.length cap ∧ rows.length ≤ cap ∧ (ao = none → cap = 0) ∧ rows.length ≤ 140737488351232 ∧ (rows ≠ [] → ∃ b off, ao = some ⟨b, off, none⟩ ∧ ∀ (i : Nat) (cs : List Value), rows[i]? = some cs → w.rangeAt b (off + i * k) cs)
theorem RowsAt.keep {w w' : World} {v : Value} {k : Nat} {rows : List (List Value)} {T : List Nat} (h : RowsAt w v k rows) (q : Kept T w w') (hn : rows ≠ [] → ∀ b, blkOf v = some b → b ∉ T) : RowsAt w' v k rows := by
  obtain ⟨ao, cap, rfl, h1, h0, h2, hc⟩ := h
  refine ⟨ao, cap, rfl, h1, h0, h2, fun hne => ?_⟩
  obtain ⟨b, off, rfl, hh⟩ := hc hne
  exact ⟨b, off, rfl, fun i xs hi => range_kept (hh i xs hi) q (hn hne b rfl)⟩
/-- A list of entries lies so. -/
def EntsAt (w : World) (v : Value) (es : List EntL) : Prop := RowsAt w v 34 (es.map EntL.row)
theorem EntsAt.keep {w w' : World} {v : Value} {es : List EntL} {T : List Nat} (h : EntsAt w v es) (q : Kept T w w') (hn : es ≠ [] → ∀ b, blkOf v = some b → b ∉ T) : EntsAt w' v es :=
  RowsAt.keep h q fun hne => hn fun e => hne (by rw [e]; rfl)
theorem EntsAt.form {w : World} {v : Value} {es : List EntL} (h : EntsAt w v es) : ∃ ao cap, v = .slice ao es.length cap ∧ es.length ≤ cap ∧ es.length ≤ 140737488351232 ∧ (es ≠ [] → ∃ b off, ao = some ⟨b, off, none⟩ ∧ ∀ (i : Nat) (e : EntL), es[i]? = some e → w.rangeAt b (off + i * 34) e.row) := by
  obtain ⟨ao, cap, hv, h1, h0, h2, hc⟩ := h
  rw [List.length_map] at hv h1 h2
  refine ⟨ao, cap, hv, h1, h2, fun hne => ?_⟩
  obtain ⟨b, off, hb, hh⟩ := hc (by simpa using hne)
  exact ⟨b, off, hb, fun i e he => hh i e.row (by rw [List.getElem?_map, he]; rfl)⟩

theorem Tryz.infoEnt : (Tryz.prog.info? 80).map (·.size) = some 34 := by kernel_rfl
theorem ent_one (e : EntL) : e.row.toArray.all (·.oneCell') = true := all_oneCell_toArray fun v hv => by
  unfold EntL.row at hv
  rcases List.mem_cons.1 hv with rfl | hv
  · rfl
  · rcases List.mem_cons.1 hv with rfl | hv
    · rfl
    · exact map_oneCell _ v hv
theorem row_range {w : World} {b : Nat} {cs : List Value} {t : TypeId} {fr : Nat × Nat} (h : w.heap[b]? = some (.cells cs.toArray t fr)) : w.rangeAt b 0 cs := fun j v hj => by
  rw [cell_of_row _ _ _ _ _ _ h, Nat.zero_add, List.getElem?_toArray]; exact hj
/-- What a new variable with an entry in it holds. -/
theorem ent_cells (w : World) (e : EntL) : (w.alloc (.cells e.row.toArray 80)).cell? ⟨w.heap.size, 0, none⟩ = some (.int .i64 e.mode) ∧ (w.alloc (.cells e.row.toArray 80)).cell? ⟨w.heap.size, 1, none⟩ = some (.string (strOfNums e.name)) ∧
    (w.alloc (.cells e.row.toArray 80)).rangeAt w.heap.size 2 (e.id.map (Value.int .u8)) := by
  have hb := heap_alloc_new w (.cells e.row.toArray 80)
  refine ⟨?_, ?_, fun j v hj => ?_⟩
  · rw [cell_of_row _ _ _ _ _ _ hb]; rfl
  · rw [cell_of_row _ _ _ _ _ _ hb]; rfl
  · rw [cell_of_row _ _ _ _ _ _ hb, List.getElem?_toArray]
    unfold EntL.row
    rw [show 2 + j = j + 1 + 1 by omega, List.getElem?_cons_succ, List.getElem?_cons_succ]
    exact hj
/-- A new variable, and what is stored into it at once. -/
theorem wpList_store_new {ops : Array Oper} {rest : List Oper} {o : Oper} {a : Act} {Q : Exit → Act → World → Prop} (hgd : o.guard = none) (ty : TypeId) (x y : Operand) (ho : o.op = .store ty x y) (w0 : World) (old cells : Array Value)
    (hx : a.eval x = .pointer (some ⟨w0.heap.size, 0, none⟩)) (hy : a.eval y = .agg cells) (hi : (Tryz.prog.info? ty).map (·.size) = some cells.size) (hold : old.size = cells.size) (h1 : cells.all (·.oneCell') = true)
    (h : wpList Tryz.prog ops Q rest (a.put o.dst undef) (w0.alloc (.cells cells ty))) : wpList Tryz.prog ops Q (o :: rest) a (w0.alloc (.cells old ty)) := by
  refine wpList_store_row hgd ty x y ho w0.heap.size cells hx hy ty old (heap_alloc_new w0 _) hi hold h1 ?_
  rw [World.setRow_alloc_new]
  exact h
end Go.Proofs.YtmambfdfkobjgaaGreatDoor
