/-
  The document's own Reader: where a number ends (last).
-/
import Derived.Test.YtkhcofdcokngkaaEye1
import Derived.Test.YtkhcofdcokngkaaEqAny
namespace Go.Proofs.Ytkhcofdcokngkaa
open Go.RowKit

/-- What last tells: the first place from pl on, of ten, with a byte below 128. -/
def LastIs (xs : List Int) (pl : Nat) (r : Int) : Prop :=
  (∃ k, k < 10 ∧ pl + k < xs.length ∧ (∀ j, j < k → 128 ≤ xs[pl + j]?.getD 0) ∧ xs[pl + k]?.getD 0 < 128 ∧ r = pl + k) ∨
    ((∀ j, j < 10 → pl + j < xs.length → 128 ≤ xs[pl + j]?.getD 0) ∧ r = -1)

set_option maxHeartbeats 1000000 in
theorem Elast_any {w : World} {b g : Nat} {xs : List Int} {pl f : Nat} (R : EyeAt w b g xs pl f) : Calls Try.prog 76 #[.pointer (some ⟨b, 0, none⟩)] w fun e w' =>
    ∃ r, e = .returned (.int .i64 r) ∧ LastIs xs pl r ∧ ∃ n, w' = w.drewN n := by
  obtain ⟨d0, d1, d2, d3, d4⟩ := R.facts
  have hle := R.le
  have hsm := R.small
  have hrow : ∀ i, i < xs.length → w.cell? ⟨g, i, none⟩ = some (.int .u8 (xs[i]?.getD 0)) := by
    intro i hi
    rw [cell_of_row w g i _ _ _ R.row]
    simp [List.getElem?_eq_getElem hi]
  have hoct := R.oct
  clear R d2 d3
  go_enter Try.func76, Try.ntmps76
  go_wp2
  go_loopw [3] (fun i wr => ∃ k : Nat, k ≤ 10 ∧ pl + k ≤ xs.length ∧ i = .int .i64 k ∧ (∀ j, j < k → 128 ≤ xs[pl + j]?.getD 0) ∧ ∃ n, wr = w.drewN n) (fun i _ => 10 - (intOf i).toNat)
  case atStart => exact ⟨0, by omega, by omega, rfl, fun j h => by omega, 0, rfl⟩
  case round =>
    obtain ⟨k, hk, hkl, rfl, hall, n, rfl⟩ := hrel
    have HA : Hid (∀ j, j < k → 128 ≤ xs[pl + j]?.getD 0) := hall
    clear hall
    have hwr : IntKind.i64.wrap ((pl : Int) + k) = pl + k := by rw [IntKind.wrap_i64]; omega
    by_cases h10 : k < 10
    · have t1 : decide ((k : Int) < 10) = true := by simp; omega
      by_cases hlt : pl + k < xs.length
      · have t2 : decide ((pl : Int) + k < xs.length) = true := by simp; omega
        have t3 : (0 : Int) ≤ (pl : Int) + k := by omega
        have g1 := hrow (pl + k) hlt
        obtain ⟨z, hz⟩ : ∃ z, z = xs[pl + k]?.getD 0 := ⟨_, rfl⟩
        have hz01 := octs_getD hoct (pl + k)
        rw [← hz] at g1 hz01
        have HZ : Hid (z = xs[pl + k]?.getD 0) := hz
        clear hz hrow hoct
        by_cases h128 : z < 128
        · go_wp2
          go_quiet (fail)
          go_wp2
          go_quiet (fail)
          go_wp2
          go_ret
          exact ⟨_, rfl, Or.inl ⟨k, h10, hlt, HA.out, by rw [← HZ.out]; exact h128, rfl⟩, _, rfl⟩
        · go_wp2
          go_quiet (fail)
          go_wp2
          go_quiet (fail)
          go_wp2
          go_roundw
          case rel => exact ⟨k + 1, by omega, by omega, by go_num, fun j hj => by
            by_cases e : j = k
            · rw [e, ← HZ.out]; omega
            · exact HA.out j (by omega), _, rfl⟩
          case measure => simp [intOf]; omega
      · clear hrow
        have t2 : decide ((pl : Int) + k < xs.length) = false := by simp; omega
        go_wp2
        go_quiet (fail)
        go_wp2
        go_ret
        exact ⟨_, rfl, Or.inr ⟨fun j hj hjl => HA.out j (by omega), rfl⟩, drew_two _ _ _⟩
    · clear hrow
      have t1 : decide ((k : Int) < 10) = false := by simp; omega
      go_wp2
      go_quiet (fail)
      go_wp2
      go_ret
      exact ⟨_, rfl, Or.inr ⟨fun j hj hjl => HA.out j (by omega), rfl⟩, drew_two _ _ _⟩
end Go.Proofs.Ytkhcofdcokngkaa
