/-
  WALK: satchelref2.turn; the reference's 64-bit words are the natural numbers of NatA.
-/
import Derived.Test.YtdjfcackiclepaaDoorNatB
namespace Go.Proofs.YtdjfcackiclepaaDoor
open Go.RowKit

theorem turn64 (x n : Nat) (hx : x < 4294967296) : bits .and .u64 (bits .or .u64 ((x : Int) * 4294967296) x / 2 ^ n) 4294967295 = ((rotN x n : Nat) : Int) := by
  have e1 : (x : Int) * 4294967296 = ((2 ^ 32 * x : Nat) : Int) := by omega
  have hq : 2 ^ 32 * x + x = x * 4294967297 := by omega
  rw [e1, bits_or_u64_nat _ _ (by omega) (by omega), ← Nat.two_pow_add_eq_or_of_lt (i := 32) hx x, hq]
  rw [show ((x * 4294967297 : Nat) : Int) / 2 ^ n = ((x * 4294967297 / 2 ^ n : Nat) : Int) by simp, show (4294967295 : Int) = ((4294967295 : Nat) : Int) from rfl]
  have hb : x * 4294967297 / 2 ^ n < 18446744073709551616 := Nat.lt_of_le_of_lt (Nat.div_le_self _ _) (by omega)
  rw [bits_and_u64_nat _ _ hb (by decide), show (4294967295 : Nat) = 2 ^ 32 - 1 from rfl, Nat.and_two_pow_sub_one_eq_mod]
  rfl

set_option maxHeartbeats 1000000 in
theorem turn_any (x n : Nat) (hx : x < 4294967296) (hn : n ≤ 32) (w : World) :
    Calls Tryd.prog 24 #[.int .u64 (x : Int), .int .i64 (n : Int)] w fun e w' => e = .returned (.int .u64 ((rotN x n : Nat) : Int)) ∧ w' = w := by
  have r := turn64 x n hx
  have r5 : (0 : Int) ≤ (n : Int) := by omega
  have r6 : (n : Int) ≤ 64 := by omega
  have r7 : IntKind.u64.wrap (n : Int) = n := by rw [IntKind.wrap_u64]; omega
  go_enter Tryd.func24, Tryd.ntmps24
  go_wp2
  go_ret
  exact ⟨by rw [← r]; rfl, rfl⟩
end Go.Proofs.YtdjfcackiclepaaDoor
