/-
  WALKS: math/bits.RotateLeft32 and digest.right, for every word and every count from 1 to 31.
-/
import Derived.Test.YtmhbadkejhbbmaaGreatDoorU8
import Derived.Test.YtmhbadkejhbbmaaGreatDoorSha0
namespace Go.Proofs.YtmhbadkejhbbmaaGreatDoor
open Go.RowKit

theorem neg_and : ∀ n : Nat, n < 32 → 0 < n → bits .and .u64 (IntKind.u64.wrap (-(n : Int))) 31 = ((32 - n : Nat) : Int) := by decide
theorem sub_back : ∀ n : Nat, n < 32 → 0 < n → IntKind.u64.wrap (32 - ((32 - n : Nat) : Int)) = (n : Int) := by decide

set_option maxHeartbeats 1000000 in
theorem right_any (x : Int) (n : Nat) (h0 : 0 < n) (h1 : n < 32) (w : World) :
    Calls Tryz.prog 79 #[.int .u32 x, .int .i64 n] w fun e w' => e = .returned (.int .u32 (rotL x n)) ∧ w = w' := by
  have r1 := neg_and n h1 h0
  have r2 := sub_back n h1 h0
  have r3 : (0 : Int) ≤ ((32 - n : Nat) : Int) := by omega
  have r4 : ((32 - n : Nat) : Int) ≤ 32 := by omega
  have r5 : (0 : Int) ≤ (n : Int) := by omega
  have r6 : (n : Int) ≤ 32 := by omega
  have hv : rotL x n = bits .or .u32 (IntKind.u32.wrap (x * 2 ^ (32 - n))) (x / 2 ^ n) := rfl
  rw [hv]
  have t1 : ((32 - n : Nat) : Int).toNat = 32 - n := by omega
  generalize 32 - n = m at *
  go_enter Tryz.func79, Tryz.ntmps79
  go_wp2
  go_ret
  exact ⟨rfl, rfl⟩
theorem right2 (x : Int) (w : World) : Calls Tryz.prog 79 #[.int .u32 x, .int .i64 2] w fun e w' => e = .returned (.int .u32 (rotL x 2)) ∧ w = w' := right_any x 2 (by decide) (by decide) w
theorem right6 (x : Int) (w : World) : Calls Tryz.prog 79 #[.int .u32 x, .int .i64 6] w fun e w' => e = .returned (.int .u32 (rotL x 6)) ∧ w = w' := right_any x 6 (by decide) (by decide) w
theorem right7 (x : Int) (w : World) : Calls Tryz.prog 79 #[.int .u32 x, .int .i64 7] w fun e w' => e = .returned (.int .u32 (rotL x 7)) ∧ w = w' := right_any x 7 (by decide) (by decide) w
theorem right11 (x : Int) (w : World) : Calls Tryz.prog 79 #[.int .u32 x, .int .i64 11] w fun e w' => e = .returned (.int .u32 (rotL x 11)) ∧ w = w' := right_any x 11 (by decide) (by decide) w
theorem right13 (x : Int) (w : World) : Calls Tryz.prog 79 #[.int .u32 x, .int .i64 13] w fun e w' => e = .returned (.int .u32 (rotL x 13)) ∧ w = w' := right_any x 13 (by decide) (by decide) w
theorem right17 (x : Int) (w : World) : Calls Tryz.prog 79 #[.int .u32 x, .int .i64 17] w fun e w' => e = .returned (.int .u32 (rotL x 17)) ∧ w = w' := right_any x 17 (by decide) (by decide) w
theorem right18 (x : Int) (w : World) : Calls Tryz.prog 79 #[.int .u32 x, .int .i64 18] w fun e w' => e = .returned (.int .u32 (rotL x 18)) ∧ w = w' := right_any x 18 (by decide) (by decide) w
theorem right19 (x : Int) (w : World) : Calls Tryz.prog 79 #[.int .u32 x, .int .i64 19] w fun e w' => e = .returned (.int .u32 (rotL x 19)) ∧ w = w' := right_any x 19 (by decide) (by decide) w
theorem right22 (x : Int) (w : World) : Calls Tryz.prog 79 #[.int .u32 x, .int .i64 22] w fun e w' => e = .returned (.int .u32 (rotL x 22)) ∧ w = w' := right_any x 22 (by decide) (by decide) w
theorem right25 (x : Int) (w : World) : Calls Tryz.prog 79 #[.int .u32 x, .int .i64 25] w fun e w' => e = .returned (.int .u32 (rotL x 25)) ∧ w = w' := right_any x 25 (by decide) (by decide) w
theorem rightq6 (x : Int) (w : World) : Calls Tryz.prog 79 #[.int .u32 x, .int .i64 6] w fun e w' => e = .returned (.int .u32 (rotL x 6)) ∧ w' = w := (right6 x w).mono fun _ _ h => ⟨h.1, h.2.symm⟩
theorem rightq11 (x : Int) (w : World) : Calls Tryz.prog 79 #[.int .u32 x, .int .i64 11] w fun e w' => e = .returned (.int .u32 (rotL x 11)) ∧ w' = w := (right11 x w).mono fun _ _ h => ⟨h.1, h.2.symm⟩
theorem rightq25 (x : Int) (w : World) : Calls Tryz.prog 79 #[.int .u32 x, .int .i64 25] w fun e w' => e = .returned (.int .u32 (rotL x 25)) ∧ w' = w := (right25 x w).mono fun _ _ h => ⟨h.1, h.2.symm⟩
end Go.Proofs.YtmhbadkejhbbmaaGreatDoor
