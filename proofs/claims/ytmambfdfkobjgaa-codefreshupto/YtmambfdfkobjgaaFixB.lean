/-
  PLAIN: a number in so many bytes, the highest first, as it is written.
-/
import Derived.Test.YtmambfdfkobjgaaPlain
namespace Go.Proofs.Ytmambfdfkobjgaa
open Go.RowKit

/-- A number in so many bytes, the highest first. -/
def fixedB (n : Int) (size : Nat) : List Int := (List.range size).map fun i => n / 256 ^ (size - 1 - i) % 256
theorem fixedB_len (n : Int) (size : Nat) : (fixedB n size).length = size := by simp [fixedB]
theorem fixedB_take (n : Int) (size k : Nat) (h : k < size) : (fixedB n size).take (k + 1) = (fixedB n size).take k ++ [n / 256 ^ (size - 1 - k) % 256] := by
  rw [List.take_succ_eq_append_getElem (by rw [fixedB_len]; exact h)]
  simp [fixedB]
theorem fixedB_octs (n : Int) (size : Nat) : Octs (fixedB n size) := by
  intro u hu
  simp only [fixedB, List.mem_map] at hu
  obtain ⟨i, _, rfl⟩ := hu
  omega

theorem byte_of (n : Int) (j : Nat) : IntKind.u8.wrap (n / 2 ^ (8 * (j : Int)).toNat) = n / 256 ^ j % 256 := by
  rw [show (8 * (j : Int)).toNat = 8 * j by omega, IntKind.wrap_u8', show (256 : Int) = 2 ^ 8 by decide, ← Int.pow_mul]

end Go.Proofs.Ytmambfdfkobjgaa
