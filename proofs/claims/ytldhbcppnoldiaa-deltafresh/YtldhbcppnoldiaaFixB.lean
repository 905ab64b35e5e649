/-
  A text turned into bytes.
  PLAIN: a number in so many bytes, the highest first, as it is written.
-/
import Derived.Test.YtldhbcppnoldiaaConv
import Derived.Laws.IdiomStrings
import Derived.Test.YtldhbcppnoldiaaPlain
namespace Go.Proofs.Ytldhbcppnoldiaa
open Go.RowKit

/-- A text turned into bytes. -/
theorem conv_txt (w : World) (xs : List Int) (ho : Octs xs) : ∃ cap w1, (convert 9 22 (.string (strOfNums xs))).run Try.prog w = .ok (.slice (some ⟨w.heap.size, 0, none⟩) xs.length cap) w1 ∧ BytesAt w1 (.slice (some ⟨w.heap.size, 0, none⟩) xs.length cap) xs ∧ Kept [] w w1 ∧ w.heap.size < w1.heap.size := by
  have h := run_bytes_of_string (P := Try.prog) w 9 22 5 (strOfNums xs) Try.underlying9 Try.underlying22 Try.underlying5
  rw [strOfNums_size] at h
  refine ⟨_, _, h, ⟨_, _, rfl, ?_, fun e => (by cases e), fun _ => ⟨w.heap.size, 0, rfl, fun i u hu => ?_⟩⟩, (Kept.refl [] w).drew.alloc _, by rw [World.size_alloc]; exact Nat.lt_succ_self _⟩
  · exact grownCap_ge w _ _ _
  · have hi : i < xs.length := (List.getElem?_eq_some_iff.1 hu).1
    have hr := ho u (List.mem_of_getElem? hu)
    refine (World.cell?_alloc_mark w.drew _ _ _ _).trans ?_
    rw [Nat.zero_add]
    unfold bytesRow
    rw [Array.getElem?_append_left (by rw [Array.size_map]; show i < (strOfNums xs).size; rw [strOfNums_size]; exact hi), Array.getElem?_map, ← Array.getElem?_toList, strOfNums_data, List.getElem?_map, hu]
    simp
    omega
end Go.Proofs.Ytldhbcppnoldiaa

namespace Go.Proofs.Ytldhbcppnoldiaa
open Go.RowKit

/-- A number in so many bytes, the highest first. -/
def fixedB (n : Int) (size : Nat) : List Int := (List.range size).map fun i => n / 256 ^ (size - 1 - i) % 256
theorem fixedB_len (n : Int) (size : Nat) : (fixedB n size).length = size := by simp [fixedB]
theorem fixedB_take (n : Int) (size k : Nat) (h : k < size) : (fixedB n size).take (k + 1) = (fixedB n size).take k ++ [n / 256 ^ (size - 1 - k) % 256] := by
  rw [List.take_succ_eq_append_getElem (by rw [fixedB_len]; exact h)]
  simp [fixedB]
theorem fixedB_octs (n : Int) (size : Nat) : Octs (fixedB n size) := by
  intro u hu
  simp only [fixedB, List.mem_map] at hu
  obtain ⟨i, _, rfl⟩ := hu
  omega

theorem byte_of (n : Int) (j : Nat) : IntKind.u8.wrap (n / 2 ^ (8 * (j : Int)).toNat) = n / 256 ^ j % 256 := by
  rw [show (8 * (j : Int)).toNat = 8 * j by omega, IntKind.wrap_u8', show (256 : Int) = 2 ^ 8 by decide, ← Int.pow_mul]

end Go.Proofs.Ytldhbcppnoldiaa
