/-
  Facts on uint8's type, and rows of bytes.
  PLAIN MATHEMATICS of package code's numbers: a number in so many bytes, the highest first. No Go text is named here.
  Ids as values, in memory, and lists of them.
  PLAIN: the digest as a function of lists of numbers, in the walk's own forms.
  WALKS: math/bits.RotateLeft32 and digest.right, for every word and every count from 1 to 31.
-/
import Derived.Test.YtlljiipmkjjhhaaDoorChecked
import Derived.Test.YtlljiipmkjjhhaaDoorBase
import Derived.WalkKit
import Derived.Laws.BytesArg
import Derived.Laws.ResultCell
import Derived.Deep.MidRow
namespace Go.Proofs.YtlljiipmkjjhhaaDoor
open Go.RowKit

theorem Tryd.info_u8 : (Tryd.prog.info? 5).map (fun i => (i.zero, i.size, i.bytes)) = some (some (.int .u8 0), 1, 1) := by kernel_rfl
theorem Tryd.size_u8 : (Tryd.prog.info? 5).map (·.size) = some 1 := by kernel_rfl

theorem map_oneCell (ys : List Int) : ∀ v, v ∈ ys.map (Value.int .u8) → v.oneCell' = true := ints_oneCell .u8 ys

end Go.Proofs.YtlljiipmkjjhhaaDoor

namespace Go.Proofs.YtlljiipmkjjhhaaDoor
open Go.RowKit

def Octs (ys : List Int) : Prop := ∀ u, u ∈ ys → 0 ≤ u ∧ u ≤ 255
theorem take_snoc (l : List Int) (k : Nat) (h : k < l.length) : l.take (k + 1) = l.take k ++ [l.getD k 0] := by
  rw [List.take_succ_eq_append_getElem h]; simp [List.getD, h]
theorem octs_take {l : List Int} (h : Octs l) (k : Nat) : Octs (l.take k) := fun u hu => h u (List.mem_of_mem_take hu)
theorem octs_drop {l : List Int} (h : Octs l) (k : Nat) : Octs (l.drop k) := fun u hu => h u (List.mem_of_mem_drop hu)
theorem octs_getD {l : List Int} (h : Octs l) (k : Nat) : 0 ≤ l[k]?.getD 0 ∧ l[k]?.getD 0 ≤ 255 := by
  rcases Nat.lt_or_ge k l.length with hk | hk
  · rw [List.getElem?_eq_getElem hk]; exact h _ (List.getElem_mem hk)
  · rw [List.getElem?_eq_none hk]; simp

section
variable {most n z : Int} {ys : List Int} {k : Nat}
end

end Go.Proofs.YtlljiipmkjjhhaaDoor

namespace Go.Proofs.YtlljiipmkjjhhaaDoor
open Go.RowKit

/-- An id as a value. -/
def idC (bs : List Int) : Array Value := (bs.map (Value.int .u8)).toArray
theorem idC_get {bs : List Int} {j : Nat} (h : j < bs.length) : (idC bs)[j]? = some (.int .u8 (bs[j]?.getD 0)) := by
  unfold idC
  rw [← Array.getElem?_toList]
  simp [List.getElem?_eq_getElem h]
theorem row_bytes' {w : World} {q : Nat} {ys : List Int} (h : w.heap[q]? = some (.cells (ys.map (Value.int .u8)).toArray 5 (0, 0))) : BytesAt w (.slice (some ⟨q, 0, none⟩) ys.length ys.length) ys := by
  refine ⟨_, _, rfl, Nat.le_refl _, fun e => (by simp at e), fun _ => ⟨q, 0, rfl, fun i u hu => ?_⟩⟩
  rw [cell_of_row _ _ _ _ _ _ h, Nat.zero_add, ← Array.getElem?_toList]
  simp [hu]

theorem Tryd.infoID : (Tryd.prog.info? 24).map (·.size) = some 32 := by kernel_rfl
theorem idC_size {bs : List Int} (h : bs.length = 32) : (idC bs).size = 32 := by simp [idC, h]
def GoodID (xs : List Int) : Prop := xs.length = 32 ∧ Octs xs
/-- The zero id's bytes. -/
def zero32 : List Int := List.replicate 32 0
theorem kept_setRow {w wr : World} (h : Kept [] w wr) {g : Nat} (hg : w.heap.size ≤ g) (cs : Array Value) : Kept [] w (wr.setRow g cs) :=
  kept_of_below (below_setRow (h.below (Nat.le_refl _) (by simp)) hg cs)

theorem range_kept {w w' : World} {b o : Nat} {cs : List Value} {T : List Nat} (h : w.rangeAt b o cs) (k : Kept T w w') (hn : b ∉ T) : w'.rangeAt b o cs := fun j v hj => k.cell (h j v hj) hn
theorem range_box (w : World) (bs : List Int) (t : TypeId) : (w.alloc (.cells (idC bs) t)).rangeAt w.heap.size 0 (bs.map (Value.int .u8)) := fun j v hj => by
  rw [cell_of_row _ _ _ _ _ _ (heap_alloc_new w _), Nat.zero_add, ← Array.getElem?_toList]
  simpa [idC] using hj

/-- A list of ids lies so. -/
def IdsAt (w : World) (v : Value) (ids : List (List Int)) : Prop :=
  ∃ ao cap, v = .slice ao ids.length cap ∧ ids.length ≤ cap ∧ (ao = none → cap = 0) ∧ ids.length ≤ 140737488351232 ∧ (ids ≠ [] → ∃ b off, ao = some ⟨b, off, none⟩ ∧ ∀ (i : Nat) (xs : List Int), ids[i]? = some xs → w.rangeAt b (off + i * 32) (xs.map (Value.int .u8)))
theorem IdsAt.keep {w w' : World} {v : Value} {ids : List (List Int)} {T : List Nat} (h : IdsAt w v ids) (k : Kept T w w') (hn : ids ≠ [] → ∀ b, blkOf v = some b → b ∉ T) : IdsAt w' v ids := by
  obtain ⟨ao, cap, rfl, h1, h0, h2, hc⟩ := h
  refine ⟨ao, cap, rfl, h1, h0, h2, fun hne => ?_⟩
  obtain ⟨b, off, rfl, hh⟩ := hc hne
  exact ⟨b, off, rfl, fun i xs hi => range_kept (hh i xs hi) k (hn hne b rfl)⟩

end Go.Proofs.YtlljiipmkjjhhaaDoor

namespace Go.Proofs.YtlljiipmkjjhhaaDoor
open Go.RowKit

/-- A word turned to the right. -/
def rotL (x : Int) (n : Nat) : Int := bits .or .u32 (IntKind.u32.wrap (x * 2 ^ (32 - n))) (x / 2 ^ n)

/-- The element at a place. -/
def at0 (l : List Int) (i : Nat) : Int := l[i]?.getD 0

def zero64 : List Int := List.replicate 64 0

/-- One byte more in the words. -/
def packStep (blk ws : List Int) (i : Nat) : List Int := ws.set (i / 4) (bits .or .u32 (IntKind.u32.wrap (at0 ws (i / 4) * 256)) (at0 blk i))
def packL (blk : List Int) (k : Nat) : List Int := (List.range k).foldl (packStep blk) zero64

/-- One word more. -/
def stretchStep (ws : List Int) (t : Nat) : List Int :=
  let x := at0 ws (t - 15)
  let y := at0 ws (t - 2)
  let s0 := bits .xor .u32 (bits .xor .u32 (rotL x 7) (rotL x 18)) (x / 8)
  let s1 := bits .xor .u32 (bits .xor .u32 (rotL y 17) (rotL y 19)) (y / 1024)
  ws.set t ((s1 + at0 ws (t - 7) + s0 + at0 ws (t - 16)) % 4294967296)
def stretchL (blk : List Int) (k : Nat) : List Int := (List.range k).foldl (fun ws j => stretchStep ws (16 + j)) (packL blk 64)

/-- The eight letters. -/
structure Eight where
  a : Int
  b : Int
  c : Int
  d : Int
  e : Int
  f : Int
  g : Int
  h : Int

theorem packL_zero (blk : List Int) : packL blk 0 = zero64 := rfl
theorem packL_succ (blk : List Int) (k : Nat) : packL blk (k + 1) = packStep blk (packL blk k) k := by
  unfold packL; rw [List.range_succ, List.foldl_append]; rfl
theorem packStep_len (blk ws : List Int) (i : Nat) : (packStep blk ws i).length = ws.length := by simp [packStep]
theorem packL_len (blk : List Int) (k : Nat) : (packL blk k).length = 64 := by
  induction k with
  | zero => rfl
  | succ k ih => rw [packL_succ, packStep_len, ih]
theorem stretchL_zero (blk : List Int) : stretchL blk 0 = packL blk 64 := by unfold stretchL; rw [List.range_zero, List.foldl_nil]
theorem stretchL_succ (blk : List Int) (k : Nat) : stretchL blk (k + 1) = stretchStep (stretchL blk k) (16 + k) := by
  unfold stretchL; rw [List.range_succ, List.foldl_append]; rfl
theorem stretchStep_len (ws : List Int) (i : Nat) : (stretchStep ws i).length = ws.length := by simp [stretchStep]
theorem stretchL_len (blk : List Int) (k : Nat) : (stretchL blk k).length = 64 := by
  induction k with
  | zero => rw [stretchL_zero, packL_len]
  | succ k ih => rw [stretchL_succ, stretchStep_len, ih]
end Go.Proofs.YtlljiipmkjjhhaaDoor

namespace Go.Proofs.YtlljiipmkjjhhaaDoor
open Go.RowKit

theorem neg_and : ∀ n : Nat, n < 32 → 0 < n → bits .and .u64 (IntKind.u64.wrap (-(n : Int))) 31 = ((32 - n : Nat) : Int) := by decide
theorem sub_back : ∀ n : Nat, n < 32 → 0 < n → IntKind.u64.wrap (32 - ((32 - n : Nat) : Int)) = (n : Int) := by decide

set_option maxHeartbeats 1000000 in
theorem right_any (x : Int) (n : Nat) (h0 : 0 < n) (h1 : n < 32) (w : World) :
    Calls Tryd.prog 87 #[.int .u32 x, .int .i64 n] w fun e w' => e = .returned (.int .u32 (rotL x n)) ∧ w = w' := by
  have r1 := neg_and n h1 h0
  have r2 := sub_back n h1 h0
  have r3 : (0 : Int) ≤ ((32 - n : Nat) : Int) := by omega
  have r4 : ((32 - n : Nat) : Int) ≤ 32 := by omega
  have r5 : (0 : Int) ≤ (n : Int) := by omega
  have r6 : (n : Int) ≤ 32 := by omega
  have hv : rotL x n = bits .or .u32 (IntKind.u32.wrap (x * 2 ^ (32 - n))) (x / 2 ^ n) := rfl
  rw [hv]
  have t1 : ((32 - n : Nat) : Int).toNat = 32 - n := by omega
  generalize 32 - n = m at *
  go_enter Tryd.func87, Tryd.ntmps87
  go_wp2
  go_ret
  exact ⟨rfl, rfl⟩
theorem right2 (x : Int) (w : World) : Calls Tryd.prog 87 #[.int .u32 x, .int .i64 2] w fun e w' => e = .returned (.int .u32 (rotL x 2)) ∧ w = w' := right_any x 2 (by decide) (by decide) w
theorem right6 (x : Int) (w : World) : Calls Tryd.prog 87 #[.int .u32 x, .int .i64 6] w fun e w' => e = .returned (.int .u32 (rotL x 6)) ∧ w = w' := right_any x 6 (by decide) (by decide) w
theorem right7 (x : Int) (w : World) : Calls Tryd.prog 87 #[.int .u32 x, .int .i64 7] w fun e w' => e = .returned (.int .u32 (rotL x 7)) ∧ w = w' := right_any x 7 (by decide) (by decide) w
theorem right11 (x : Int) (w : World) : Calls Tryd.prog 87 #[.int .u32 x, .int .i64 11] w fun e w' => e = .returned (.int .u32 (rotL x 11)) ∧ w = w' := right_any x 11 (by decide) (by decide) w
theorem right13 (x : Int) (w : World) : Calls Tryd.prog 87 #[.int .u32 x, .int .i64 13] w fun e w' => e = .returned (.int .u32 (rotL x 13)) ∧ w = w' := right_any x 13 (by decide) (by decide) w
theorem right17 (x : Int) (w : World) : Calls Tryd.prog 87 #[.int .u32 x, .int .i64 17] w fun e w' => e = .returned (.int .u32 (rotL x 17)) ∧ w = w' := right_any x 17 (by decide) (by decide) w
theorem right18 (x : Int) (w : World) : Calls Tryd.prog 87 #[.int .u32 x, .int .i64 18] w fun e w' => e = .returned (.int .u32 (rotL x 18)) ∧ w = w' := right_any x 18 (by decide) (by decide) w
theorem right19 (x : Int) (w : World) : Calls Tryd.prog 87 #[.int .u32 x, .int .i64 19] w fun e w' => e = .returned (.int .u32 (rotL x 19)) ∧ w = w' := right_any x 19 (by decide) (by decide) w
theorem right22 (x : Int) (w : World) : Calls Tryd.prog 87 #[.int .u32 x, .int .i64 22] w fun e w' => e = .returned (.int .u32 (rotL x 22)) ∧ w = w' := right_any x 22 (by decide) (by decide) w
theorem right25 (x : Int) (w : World) : Calls Tryd.prog 87 #[.int .u32 x, .int .i64 25] w fun e w' => e = .returned (.int .u32 (rotL x 25)) ∧ w = w' := right_any x 25 (by decide) (by decide) w
theorem rightq6 (x : Int) (w : World) : Calls Tryd.prog 87 #[.int .u32 x, .int .i64 6] w fun e w' => e = .returned (.int .u32 (rotL x 6)) ∧ w' = w := (right6 x w).mono fun _ _ h => ⟨h.1, h.2.symm⟩
theorem rightq11 (x : Int) (w : World) : Calls Tryd.prog 87 #[.int .u32 x, .int .i64 11] w fun e w' => e = .returned (.int .u32 (rotL x 11)) ∧ w' = w := (right11 x w).mono fun _ _ h => ⟨h.1, h.2.symm⟩
theorem rightq25 (x : Int) (w : World) : Calls Tryd.prog 87 #[.int .u32 x, .int .i64 25] w fun e w' => e = .returned (.int .u32 (rotL x 25)) ∧ w' = w := (right25 x w).mono fun _ _ h => ⟨h.1, h.2.symm⟩
end Go.Proofs.YtlljiipmkjjhhaaDoor
