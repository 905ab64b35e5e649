/-
  The shortest form of a number, byte by byte. Pure.
-/
import Derived.Test.YtloajfhggkgngaaPlain3
namespace Go.Proofs.Ytloajfhggkgngaa
open Go.RowKit

theorem varB_small (n : Int) (h0 : 0 ≤ n) (h1 : n < 128) : varB n = [n] := by
  have : lastOf n = 0 := lastOf_is n 0 h0 (by omega) (by simpa using h1) (fun h => absurd h (by decide))
  simp [varB, this, varHead]
theorem varHead_cons (n : Int) (k : Nat) : varHead n (k + 1) = (128 + n % 128) :: varHead (n / 128) k := by
  induction k with
  | zero => simp [varHead]; omega
  | succ k ih =>
    rw [varHead_succ, ih, List.cons_append, varHead_succ (n / 128) k]
    congr 2
    rw [Int.ediv_ediv_of_nonneg (by decide), Int.pow_succ, Int.mul_comm]
theorem varB_big (n : Int) (h0 : 128 ≤ n) (h1 : n ≤ 18446744073709551615) : varB n = (128 + n % 128) :: varB (n / 128) := by
  have hs := lastOf_spec (n / 128) (by omega) (by omega)
  obtain ⟨k, hk⟩ : ∃ k, k = lastOf (n / 128) := ⟨_, rfl⟩
  rw [← hk] at hs
  have hp := pow_pos128 k
  have hl : lastOf n = k + 1 := by
    refine lastOf_is n (k + 1) (by omega) h1 ?_ fun _ => ?_
    · rw [Int.pow_succ]; generalize (128 : Int) ^ (k + 1) = P at *; omega
    · rw [Int.pow_succ]
      by_cases h : 1 ≤ k
      · have := hs.2.1 h; generalize (128 : Int) ^ k = P at *; omega
      · obtain rfl : k = 0 := by omega
        simpa using h0
  rw [varB, hl, varHead_cons, varB, ← hk, List.cons_append, Int.pow_succ, Int.mul_comm, ← Int.ediv_ediv_of_nonneg (by decide : (0 : Int) ≤ 128)]

end Go.Proofs.Ytloajfhggkgngaa
