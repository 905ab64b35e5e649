/-
  Ids as values, in memory, and lists of them.
  PLAIN: the digest as a function of lists of numbers, in the walk's own forms.
-/
import Derived.Test.YtmhbadkejhbbmaaGreatDoorU8
import Derived.Test.YtmhbadkejhbbmaaGreatDoorPlain
import Derived.Laws.BytesArg
import Derived.Laws.ResultCell
import Derived.Deep.MidRow
import Derived.Test.YtmhbadkejhbbmaaGreatDoorBase
namespace Go.Proofs.YtmhbadkejhbbmaaGreatDoor
open Go.RowKit

/-- An id as a value. -/
def idC (bs : List Int) : Array Value := (bs.map (Value.int .u8)).toArray
theorem idC_get {bs : List Int} {j : Nat} (h : j < bs.length) : (idC bs)[j]? = some (.int .u8 (bs[j]?.getD 0)) := by
  unfold idC
  rw [← Array.getElem?_toList]
  simp [List.getElem?_eq_getElem h]
theorem row_bytes' {w : World} {q : Nat} {ys : List Int} (h : w.heap[q]? = some (.cells (ys.map (Value.int .u8)).toArray 5 (0, 0))) : BytesAt w (.slice (some ⟨q, 0, none⟩) ys.length ys.length) ys := by
  refine ⟨_, _, rfl, Nat.le_refl _, fun e => (by simp at e), fun _ => ⟨q, 0, rfl, fun i u hu => ?_⟩⟩
  rw [cell_of_row _ _ _ _ _ _ h, Nat.zero_add, ← Array.getElem?_toList]
  simp [hu]

theorem Tryz.infoID : (Tryz.prog.info? 29).map (·.size) = some 32 := by kernel_rfl
theorem idC_size {bs : List Int} (h : bs.length = 32) : (idC bs).size = 32 := by simp [idC, h]
def GoodID (xs : List Int) : Prop := xs.length = 32 ∧ Octs xs
/-- The zero id's bytes. -/
def zero32 : List Int := List.replicate 32 0
theorem kept_setRow {w wr : World} (h : Kept [] w wr) {g : Nat} (hg : w.heap.size ≤ g) (cs : Array Value) : Kept [] w (wr.setRow g cs) :=
  kept_of_below (below_setRow (h.below (Nat.le_refl _) (by simp)) hg cs)

theorem range_kept {w w' : World} {b o : Nat} {cs : List Value} {T : List Nat} (h : w.rangeAt b o cs) (k : Kept T w w') (hn : b ∉ T) : w'.rangeAt b o cs := fun j v hj => k.cell (h j v hj) hn
/-- A list of ids lies so. -/
def IdsAt (w : World) (v : Value) (ids : List (List Int)) : Prop :=
  ∃ ao cap, v = .slice ao ids.length cap ∧ ids.length ≤ cap ∧ (ao = none → cap = 0) ∧ ids.length ≤ 140737488351232 ∧ (ids ≠ [] → ∃ b off, ao = some ⟨b, off, none⟩ ∧ ∀ (i : Nat) (xs : List Int), ids[i]? = some xs → w.rangeAt b (off + i * 32) (xs.map (Value.int .u8)))
theorem IdsAt.keep {w w' : World} {v : Value} {ids : List (List Int)} {T : List Nat} (h : IdsAt w v ids) (k : Kept T w w') (hn : ids ≠ [] → ∀ b, blkOf v = some b → b ∉ T) : IdsAt w' v ids := by
  obtain ⟨ao, cap, rfl, h1, h0, h2, hc⟩ := h
  refine ⟨ao, cap, rfl, h1, h0, h2, fun hne => ?_⟩
  obtain ⟨b, off, rfl, hh⟩ := hc hne
  exact ⟨b, off, rfl, fun i xs hi => range_kept (hh i xs hi) k (hn hne b rfl)⟩

end Go.Proofs.YtmhbadkejhbbmaaGreatDoor

namespace Go.Proofs.YtmhbadkejhbbmaaGreatDoor
open Go.RowKit

/-- A word turned to the right. -/
def rotL (x : Int) (n : Nat) : Int := bits .or .u32 (IntKind.u32.wrap (x * 2 ^ (32 - n))) (x / 2 ^ n)

/-- The element at a place. -/
def at0 (l : List Int) (i : Nat) : Int := l[i]?.getD 0

def zero64 : List Int := List.replicate 64 0

/-- One byte more in the words. -/
def packStep (blk ws : List Int) (i : Nat) : List Int := ws.set (i / 4) (bits .or .u32 (IntKind.u32.wrap (at0 ws (i / 4) * 256)) (at0 blk i))
def packL (blk : List Int) (k : Nat) : List Int := (List.range k).foldl (packStep blk) zero64

/-- One word more. -/
def stretchStep (ws : List Int) (t : Nat) : List Int :=
  let x := at0 ws (t - 15)
  let y := at0 ws (t - 2)
  let s0 := bits .xor .u32 (bits .xor .u32 (rotL x 7) (rotL x 18)) (x / 8)
  let s1 := bits .xor .u32 (bits .xor .u32 (rotL y 17) (rotL y 19)) (y / 1024)
  ws.set t ((s1 + at0 ws (t - 7) + s0 + at0 ws (t - 16)) % 4294967296)
def stretchL (blk : List Int) (k : Nat) : List Int := (List.range k).foldl (fun ws j => stretchStep ws (16 + j)) (packL blk 64)

/-- The eight letters. -/
structure Eight where
  a : Int
  b : Int
  c : Int
  d : Int
  e : Int
  f : Int
  g : Int
  h : Int

theorem packL_zero (blk : List Int) : packL blk 0 = zero64 := rfl
theorem packL_succ (blk : List Int) (k : Nat) : packL blk (k + 1) = packStep blk (packL blk k) k := by
  unfold packL; rw [List.range_succ, List.foldl_append]; rfl
theorem packStep_len (blk ws : List Int) (i : Nat) : (packStep blk ws i).length = ws.length := by simp [packStep]
theorem packL_len (blk : List Int) (k : Nat) : (packL blk k).length = 64 := by
  induction k with
  | zero => rfl
  | succ k ih => rw [packL_succ, packStep_len, ih]
theorem stretchL_zero (blk : List Int) : stretchL blk 0 = packL blk 64 := by unfold stretchL; rw [List.range_zero, List.foldl_nil]
theorem stretchL_succ (blk : List Int) (k : Nat) : stretchL blk (k + 1) = stretchStep (stretchL blk k) (16 + k) := by
  unfold stretchL; rw [List.range_succ, List.foldl_append]; rfl
theorem stretchStep_len (ws : List Int) (i : Nat) : (stretchStep ws i).length = ws.length := by simp [stretchStep]
theorem stretchL_len (blk : List Int) (k : Nat) : (stretchL blk k).length = 64 := by
  induction k with
  | zero => rw [stretchL_zero, packL_len]
  | succ k ih => rw [stretchL_succ, stretchStep_len, ih]
end Go.Proofs.YtmhbadkejhbbmaaGreatDoor
