/-
  CLOSED: the published examples' digests; a row that is filled with one byte.
-/
import Derived.Test.YtdjfcackiclepaaDoorKn1
import Derived.Test.YtdjfcackiclepaaDoorKey2
namespace Go.Proofs.YtdjfcackiclepaaDoor
open Go.RowKit

theorem nil_hex : strOfNums (hexL (digL [])) = { data := #[101, 51, 98, 48, 99, 52, 52, 50, 57, 56, 102, 99, 49, 99, 49, 52, 57, 97, 102, 98, 102, 52, 99, 56, 57, 57, 54, 102, 98, 57, 50, 52, 50, 55, 97, 101, 52, 49, 101, 52, 54, 52, 57, 98, 57, 51, 52, 99, 97, 52, 57, 53, 57, 57, 49, 98, 55, 56, 53, 50, 98, 56, 53, 53] } := by kernel_rfl
def textT : List Int := [97, 98, 99, 100, 98, 99, 100, 101, 99, 100, 101, 102, 100, 101, 102, 103, 101, 102, 103, 104, 102, 103, 104, 105, 103, 104, 105, 106, 104, 105, 106, 107, 105, 106, 107, 108, 106, 107, 108, 109, 107, 108, 109, 110, 108, 109, 110, 111, 109, 110, 111, 112, 110, 111, 112, 113]
theorem long_hex : strOfNums (hexL (digL textT)) = { data := #[50, 52, 56, 100, 54, 97, 54, 49, 100, 50, 48, 54, 51, 56, 98, 56, 101, 53, 99, 48, 50, 54, 57, 51, 48, 99, 51, 101, 54, 48, 51, 57, 97, 51, 51, 99, 101, 52, 53, 57, 54, 52, 102, 102, 50, 49, 54, 55, 102, 54, 101, 99, 101, 100, 100, 52, 49, 57, 100, 98, 48, 54, 99, 49] } := by kernel_rfl
theorem million_dig : digL (List.replicate 1000000 97) = sumL (castL stA25, []) 1000000 := by
  unfold digL
  rw [feed_million, List.length_replicate]
  rfl
theorem million_hex : strOfNums (hexL (digL (List.replicate 1000000 97))) = { data := #[99, 100, 99, 55, 54, 101, 53, 99, 57, 57, 49, 52, 102, 98, 57, 50, 56, 49, 97, 49, 99, 55, 101, 50, 56, 52, 100, 55, 51, 101, 54, 55, 102, 49, 56, 48, 57, 97, 52, 56, 97, 52, 57, 55, 50, 48, 48, 101, 48, 52, 54, 100, 51, 57, 99, 99, 99, 55, 49, 49, 50, 99, 100, 48] } := by
  rw [million_dig]
  kernel_rfl
def key_one : List Int := List.replicate 20 11
def text_one : List Int := [72, 105, 32, 84, 104, 101, 114, 101]
theorem one_hex : strOfNums (hexL (keyL key_one text_one)) = { data := #[98, 48, 51, 52, 52, 99, 54, 49, 100, 56, 100, 98, 51, 56, 53, 51, 53, 99, 97, 56, 97, 102, 99, 101, 97, 102, 48, 98, 102, 49, 50, 98, 56, 56, 49, 100, 99, 50, 48, 48, 99, 57, 56, 51, 51, 100, 97, 55, 50, 54, 101, 57, 51, 55, 54, 99, 50, 101, 51, 50, 99, 102, 102, 55] } := by kernel_rfl
def key_two : List Int := [74, 101, 102, 101]
def text_two : List Int := [119, 104, 97, 116, 32, 100, 111, 32, 121, 97, 32, 119, 97, 110, 116, 32, 102, 111, 114, 32, 110, 111, 116, 104, 105, 110, 103, 63]
theorem two_hex : strOfNums (hexL (keyL key_two text_two)) = { data := #[53, 98, 100, 99, 99, 49, 52, 54, 98, 102, 54, 48, 55, 53, 52, 101, 54, 97, 48, 52, 50, 52, 50, 54, 48, 56, 57, 53, 55, 53, 99, 55, 53, 97, 48, 48, 51, 102, 48, 56, 57, 100, 50, 55, 51, 57, 56, 51, 57, 100, 101, 99, 53, 56, 98, 57, 54, 52, 101, 99, 51, 56, 52, 51] } := by kernel_rfl
def key_three : List Int := List.replicate 131 170
def text_three : List Int := [84, 101, 115, 116, 32, 85, 115, 105, 110, 103, 32, 76, 97, 114, 103, 101, 114, 32, 84, 104, 97, 110, 32, 66, 108, 111, 99, 107, 45, 83, 105, 122, 101, 32, 75, 101, 121, 32, 45, 32, 72, 97, 115, 104, 32, 75, 101, 121, 32, 70, 105, 114, 115, 116]
theorem three_hex : strOfNums (hexL (keyL key_three text_three)) = { data := #[54, 48, 101, 52, 51, 49, 53, 57, 49, 101, 101, 48, 98, 54, 55, 102, 48, 100, 56, 97, 50, 54, 97, 97, 99, 98, 102, 53, 98, 55, 55, 102, 56, 101, 48, 98, 99, 54, 50, 49, 51, 55, 50, 56, 99, 53, 49, 52, 48, 53, 52, 54, 48, 52, 48, 102, 48, 101, 101, 51, 55, 102, 53, 52] } := by kernel_rfl

/-- A row of n bytes, the first k of them c. -/
def fillL (n : Nat) (c : Int) (k : Nat) : List Int := List.replicate k c ++ List.replicate (n - k) 0
theorem fillL_len (n : Nat) (c : Int) (k : Nat) (h : k ≤ n) : (fillL n c k).length = n := by simp [fillL]; omega
theorem fillL_zero (n : Nat) (c : Int) : fillL n c 0 = List.replicate n 0 := by simp [fillL]
theorem fillL_full (n : Nat) (c : Int) : fillL n c n = List.replicate n c := by simp [fillL]
theorem fillL_succ (n : Nat) (c : Int) (k : Nat) (h : k < n) : (fillL n c k).set k c = fillL n c (k + 1) := by
  unfold fillL
  rw [List.set_append_right _ _ (by simp), List.length_replicate, Nat.sub_self, show n - k = (n - (k + 1)) + 1 by omega, List.replicate_succ, List.set_cons_zero, List.replicate_succ', List.append_assoc]
  rfl
theorem made_fill (n : Nat) (c : Int) (w : World) : (w.alloc (.cells (madeCells #[Value.int .u8 0] n) 5)).heap[w.heap.size]? = some (.cells ((fillL n c 0).map (Value.int .u8)).toArray 5 (0, 0)) := by
  rw [fillL_zero, List.map_replicate, ← toList_madeCells_one]
  exact heap_alloc_new w _
end Go.Proofs.YtdjfcackiclepaaDoor
