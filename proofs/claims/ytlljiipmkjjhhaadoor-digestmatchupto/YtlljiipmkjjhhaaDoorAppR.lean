/-
  Entries of a tree: as cells, in memory, in lists.
  WALK: object.readTree.
  What is built of parts; links; WALK: (object.tree).children.
  A Writer beside a variable; tags; WALKS: object.signFault, (object.tag).fault, (object.tag).write.
  Commits; WALK: (object.commit).fault.
  Links: a list of them that one owns and appends to; WALK: (object.commit).children.
  WALK: (*store.Store).rows gathers the store's rows (what is sorted behind that: Rw2).
  (*store.Store).rows: the store's rows, sorted by their ids.
  WALKS: (*store.Store).All, Ids.
  Lists of ids as lists of rows.
-/
import Derived.Test.YtlljiipmkjjhhaaDoorSha1
import Derived.Outline
import Derived.Test.YtlljiipmkjjhhaaDoorPlain2
import Derived.Deep.QuietTactic
import Derived.BigQuiet
import Derived.Test.YtlljiipmkjjhhaaDoorAppH
import Derived.Test.YtlljiipmkjjhhaaDoorRwsA
import Derived.Deep.RegionLaw
import Derived.Laws.IdiomStrings
import Derived.Test.YtlljiipmkjjhhaaDoorProg
import Derived.Shelf.Unicode.ValidAny
import Derived.Shelf.Strings.Search3
import Derived.Laws.RangeAny
import Derived.Lib.ValidU
import Derived.Lib.Bytes
import Derived.Deep.WholeRow
import Derived.Test.YtlljiipmkjjhhaaDoorRw0
import Derived.Great.BuildSlice
import Derived.Test.YtlljiipmkjjhhaaDoorHex1
import Derived.Test.YtlljiipmkjjhhaaDoorRgG
import Derived.Test.YtlljiipmkjjhhaaDoorSha8
import Derived.Test.YtlljiipmkjjhhaaDoorSha2
import Derived.Laws.Tables
import Derived.Laws.ResultCell
import Derived.Deep.MidRow
import Derived.Deep.RegionHeld
import Derived.Test.YtlljiipmkjjhhaaDoorBase
import Derived.Maps.RangeWalk
import Derived.Test.YtlljiipmkjjhhaaDoorChecked
import Derived.Shelf.SlLaysF0
import Derived.Shelf.SlSortCmp.WholeK
namespace Go.Proofs.YtlljiipmkjjhhaaDoor
open Go.RowKit

structure EntL where
  mode : Int
  name : List Int
  id : List Int
def EntL.row (e : EntL) : List Value := .int .i64 e.mode :: .string (strOfNums e.name) :: e.id.map (Value.int .u8)
theorem EntL.row_len {e : EntL} (h : GoodID e.id) : e.row.length = 34 := by simp [EntL.row, h.1]

/-- A list of entries lies so. -/
def EntsAt (w : World) (v : Value) (es : List EntL) : Prop := RowsAt w v 34 (es.map EntL.row)
theorem EntsAt.keep {w w' : World} {v : Value} {es : List EntL} {T : List Nat} (h : EntsAt w v es) (q : Kept T w w') (hn : es ≠ [] → ∀ b, blkOf v = some b → b ∉ T) : EntsAt w' v es :=
  RowsAt.keep h q fun hne => hn fun e => hne (by rw [e]; rfl)
theorem EntsAt.form {w : World} {v : Value} {es : List EntL} (h : EntsAt w v es) : ∃ ao cap, v = .slice ao es.length cap ∧ es.length ≤ cap ∧ es.length ≤ 140737488351232 ∧ (es ≠ [] → ∃ b off, ao = some ⟨b, off, none⟩ ∧ ∀ (i : Nat) (e : EntL), es[i]? = some e → w.rangeAt b (off + i * 34) e.row) := by
  obtain ⟨ao, cap, hv, h1, h0, h2, hc⟩ := h
  rw [List.length_map] at hv h1 h2
  refine ⟨ao, cap, hv, h1, h2, fun hne => ?_⟩
  obtain ⟨b, off, hb, hh⟩ := hc (by simpa using hne)
  exact ⟨b, off, hb, fun i e he => hh i e.row (by rw [List.getElem?_map, he]; rfl)⟩

end Go.Proofs.YtlljiipmkjjhhaaDoor

namespace Go.Proofs.YtlljiipmkjjhhaaDoor
open Go.RowKit

def zeroE : EntL := ⟨0, [], zero32⟩
/-- What lies in the list on the way: the entries that are read, and zeros. -/
def half (l : List EntL) (n : Nat) : List (List Value) := (l ++ List.replicate (n - l.length) zeroE).map EntL.row
end Go.Proofs.YtlljiipmkjjhhaaDoor

namespace Go.Proofs.YtlljiipmkjjhhaaDoor
open Go.RowKit


structure LinkL where
  id : List Int
  kind : Int
def LinkL.row (l : LinkL) : List Value := l.id.map (Value.int .u8) ++ [.int .i64 l.kind]
end Go.Proofs.YtlljiipmkjjhhaaDoor

namespace Go.Proofs.YtlljiipmkjjhhaaDoor
open Go.RowKit

section
variable {w0 W : World} {wb B : Nat} {zs : List Int} {S : List Nat} {b : Nat} {cs : Array Value} {ty : TypeId}
end
structure TagL where
  target : List Int
  kind : Int
  name : List Int
  who : List Int
  time : Int
  text : List Int
def TagL.row (t : TagL) : List Value := t.target.map (Value.int .u8) ++ [.int .i64 t.kind, .string (strOfNums t.name), .string (strOfNums t.who), .int .u64 t.time, .string (strOfNums t.text)]
end Go.Proofs.YtlljiipmkjjhhaaDoor

namespace Go.Proofs.YtlljiipmkjjhhaaDoor
open Go.RowKit

structure ComL where
  tree : List Int
  parents : List (List Int)
  who : List Int
  time : Int
  text : List Int
def ComL.row (c : ComL) (pv : Value) : List Value := c.tree.map (Value.int .u8) ++ [pv, .string (strOfNums c.who), .int .u64 c.time, .string (strOfNums c.text)]
end Go.Proofs.YtlljiipmkjjhhaaDoor

namespace Go.Proofs.YtlljiipmkjjhhaaDoor
open Go.RowKit

/-- A list of links in a block of one's own. -/
def LkOwn (w : World) (B : Nat) (v : Value) (ks : List LinkL) : Prop := w.ownsRow B 113 33 v ks.length (ks.map LinkL.row).flatten
theorem LinkL.row_len {l : LinkL} (h : l.id.length = 32) : l.row.length = 33 := by simp [LinkL.row, h]
theorem LkOwn.nil (w : World) (B : Nat) : LkOwn w B (.slice none 0 0) [] := ⟨rfl, Or.inl ⟨rfl, rfl⟩⟩
theorem LkOwn.push {w : World} {B : Nat} {v : Value} {ks : List LinkL} {k : LinkL} (h : w.ownsRow B 113 33 v (ks.length + 1) ((ks.map LinkL.row).flatten ++ k.row)) : LkOwn w B v (ks ++ [k]) := by
  unfold LkOwn
  rw [List.length_append, List.map_append, List.flatten_append, List.map_singleton, List.flatten_singleton]
  exact h
theorem LkOwn.first {w : World} {B : Nat} (hB : B ≤ w.heap.size) (k : LinkL) (hk : k.id.length = 32) : LkOwn (w.alloc (.cells k.row.toArray 113)) B (.slice (some ⟨w.heap.size, 0, none⟩) 1 1) [k] := by
  refine ⟨by simp [LinkL.row, hk], Or.inr ⟨w.heap.size, 1, k.row.toArray, rfl, hB, heap_alloc_new w _, Nat.le_refl _, by decide, by rw [List.size_toArray, LinkL.row_len hk], ?_⟩⟩
  simp [LinkL.row]
  exact List.take_of_length_le (by simp [hk])
theorem LkOwn.rows {w : World} {B : Nat} {v : Value} {ks : List LinkL} (h : LkOwn w B v ks) (hg : ∀ k, k ∈ ks → k.id.length = 32) (hn : ks.length ≤ 1000000) : RowsAt w v 33 (ks.map LinkL.row) := by
  refine ownsK_rows (by decide) (fun r hr => ?_) (by rw [List.length_map]; exact h) (by rw [List.length_map]; omega)
  obtain ⟨k, hk, rfl⟩ := List.mem_map.1 hr
  exact LinkL.row_len (hg k hk)

end Go.Proofs.YtlljiipmkjjhhaaDoor

namespace Go.Proofs.YtlljiipmkjjhhaaDoor
open Go.RowKit Go.WideMaps

theorem wpList_slice_k {ops : Array Oper} {rest : List Oper} {o : Oper} {a : Act} {w : World} {Q : Exit → Act → World → Prop} (hgd : o.guard = none) (t e : TypeId) (x : Operand) (ho : o.op = .buildSlice t 1 #[(0, x)]) (us : List Value) (hx : a.eval x = .agg us.toArray)
    (hr : ∀ W : World, (Instr.buildSlice t 1 #[(0, .agg us.toArray)]).run Tryd.prog W = .ok (.slice (some ⟨W.heap.size, 0, none⟩) 1 1) (W.alloc (.cells us.toArray e)))
    (h : wpList Tryd.prog ops Q rest (a.put o.dst (.slice (some ⟨w.heap.size, 0, none⟩) 1 1)) (w.alloc (.cells us.toArray e))) : wpList Tryd.prog ops Q (o :: rest) a w := by
  refine wpList_plain hgd fun K hK => ?_
  unfold Oper.wp execOp
  simp [ho, hx, hr, Result.andThen]
  exact hK _ _ h
end Go.Proofs.YtlljiipmkjjhhaaDoor

namespace Go.Proofs.YtlljiipmkjjhhaaDoor
open Go.RowKit Go.WideMaps Go.Sort

/-- Each id is told once, the least first. -/
def SortedIds (L : List (List Int)) : Prop := L.Pairwise (fun a b => cmpB a b < 0)
end Go.Proofs.YtlljiipmkjjhhaaDoor

namespace Go.Proofs.YtlljiipmkjjhhaaDoor
open Go.RowKit Go.Shelf Go.WideMaps
attribute [local go_sem] Oper.semAt_some

/-- The ids of a store: all, each once, the least first. -/
structure IdsOf (D : DataW Unit) (ids : List (List Int)) : Prop where
  sorted : SortedIds ids
  mem : ∀ id, id ∈ ids → GoodID id ∧ Maps.has D (idKey id) = true
  all : ∀ kl, Maps.has D kl = true → ∃ id, id ∈ ids ∧ kl = idKey id
  len : ids.length = Maps.size D
theorem Tryd.idInfo : (Tryd.prog.info? 24).map (fun i => (i.zero, i.size, i.bytes)) = some (some (.agg (zero32.map (Value.int .u8)).toArray), 32, 32) := by kernel_rfl
theorem Tryd.idZero : (Value.agg (zero32.map (Value.int .u8)).toArray).cells.size = 32 := by kernel_rfl
/-- A list of ids that one owns. -/
def IdOwn (w : World) (B : Nat) (v : Value) (ids : List (List Int)) : Prop := w.ownsRow B 24 32 v ids.length (ids.map fun id => id.map (Value.int .u8)).flatten
end Go.Proofs.YtlljiipmkjjhhaaDoor

namespace Go.Proofs.YtlljiipmkjjhhaaDoor
open Go.RowKit

theorem IdsAt.rows {w : World} {v : Value} {ids : List (List Int)} : IdsAt w v ids ↔ RowsAt w v 32 (ids.map fun x => x.map (Value.int .u8)) := by
  constructor
  · rintro ⟨ao, cap, rfl, h1, h0, h2, hc⟩
    refine ⟨ao, cap, by rw [List.length_map], by rw [List.length_map]; exact h1, h0, by rw [List.length_map]; exact h2, fun hne => ?_⟩
    obtain ⟨b, off, hb, hh⟩ := hc (by simpa using hne)
    refine ⟨b, off, hb, fun i cs hi => ?_⟩
    rw [List.getElem?_map] at hi
    obtain ⟨x, hx, rfl⟩ := Option.map_eq_some_iff.1 hi
    exact hh i x hx
  · rintro ⟨ao, cap, rfl, h1, h0, h2, hc⟩
    rw [List.length_map] at h1 h2
    refine ⟨ao, cap, by rw [List.length_map], h1, h0, h2, fun hne => ?_⟩
    obtain ⟨b, off, hb, hh⟩ := hc (by simpa using hne)
    exact ⟨b, off, hb, fun i x hx => hh i _ (by rw [List.getElem?_map, hx]; rfl)⟩
end Go.Proofs.YtlljiipmkjjhhaaDoor
