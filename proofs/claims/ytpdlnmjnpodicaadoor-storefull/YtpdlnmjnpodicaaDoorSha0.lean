/-
  PLAIN: the digest as a function of lists of numbers, in the walk's own forms.
-/
import Derived.Test.YtpdlnmjnpodicaaDoorBase
namespace Go.Proofs.YtpdlnmjnpodicaaDoor
open Go.RowKit

/-- A word turned to the right. -/
def rotL (x : Int) (n : Nat) : Int := bits .or .u32 (IntKind.u32.wrap (x * 2 ^ (32 - n))) (x / 2 ^ n)

/-- The element at a place. -/
def at0 (l : List Int) (i : Nat) : Int := l[i]?.getD 0

def zero64 : List Int := List.replicate 64 0

/-- One byte more in the words. -/
def packStep (blk ws : List Int) (i : Nat) : List Int := ws.set (i / 4) (bits .or .u32 (IntKind.u32.wrap (at0 ws (i / 4) * 256)) (at0 blk i))
def packL (blk : List Int) (k : Nat) : List Int := (List.range k).foldl (packStep blk) zero64

/-- One word more. -/
def stretchStep (ws : List Int) (t : Nat) : List Int :=
  let x := at0 ws (t - 15)
  let y := at0 ws (t - 2)
  let s0 := bits .xor .u32 (bits .xor .u32 (rotL x 7) (rotL x 18)) (x / 8)
  let s1 := bits .xor .u32 (bits .xor .u32 (rotL y 17) (rotL y 19)) (y / 1024)
  ws.set t ((s1 + at0 ws (t - 7) + s0 + at0 ws (t - 16)) % 4294967296)
def stretchL (blk : List Int) (k : Nat) : List Int := (List.range k).foldl (fun ws j => stretchStep ws (16 + j)) (packL blk 64)

/-- The eight letters. -/
structure Eight where
  a : Int
  b : Int
  c : Int
  d : Int
  e : Int
  f : Int
  g : Int
  h : Int

theorem packL_zero (blk : List Int) : packL blk 0 = zero64 := rfl
theorem packL_succ (blk : List Int) (k : Nat) : packL blk (k + 1) = packStep blk (packL blk k) k := by
  unfold packL; rw [List.range_succ, List.foldl_append]; rfl
theorem packStep_len (blk ws : List Int) (i : Nat) : (packStep blk ws i).length = ws.length := by simp [packStep]
theorem packL_len (blk : List Int) (k : Nat) : (packL blk k).length = 64 := by
  induction k with
  | zero => rfl
  | succ k ih => rw [packL_succ, packStep_len, ih]
theorem stretchL_zero (blk : List Int) : stretchL blk 0 = packL blk 64 := by unfold stretchL; rw [List.range_zero, List.foldl_nil]
theorem stretchL_succ (blk : List Int) (k : Nat) : stretchL blk (k + 1) = stretchStep (stretchL blk k) (16 + k) := by
  unfold stretchL; rw [List.range_succ, List.foldl_append]; rfl
theorem stretchStep_len (ws : List Int) (i : Nat) : (stretchStep ws i).length = ws.length := by simp [stretchStep]
theorem stretchL_len (blk : List Int) (k : Nat) : (stretchL blk k).length = 64 := by
  induction k with
  | zero => rw [stretchL_zero, packL_len]
  | succ k ih => rw [stretchL_succ, stretchStep_len, ih]
end Go.Proofs.YtpdlnmjnpodicaaDoor
