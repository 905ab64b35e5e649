/-
  PLAIN: with an error a delta gives nothing.
-/
import Derived.Test.YtoohomfnbkdhfaaDl0
namespace Go.Proofs.Ytoohomfnbkdhfaa
open Go.RowKit

theorem runL_nil (bs ds : List Int) : ∀ (fuel pl room : Nat) (acc : List Int), (runL bs ds fuel pl room acc).1 ≠ 0 → (runL bs ds fuel pl room acc).2 = []
  | 0, pl, room, acc, h => by
    unfold runL at h ⊢
    split
    · rfl
    · rename_i hc
      rw [if_neg hc] at h
      exact absurd rfl h
  | fuel + 1, pl, room, acc, h => by
    unfold runL at h ⊢
    by_cases h0 : room = 0
    · rw [if_pos h0] at h ⊢
      split
      · rfl
      · rename_i hc
        rw [if_neg hc] at h
        exact absurd rfl h
    · rw [if_neg h0] at h ⊢
      by_cases h1 : (cmdL bs ds pl room).err ≠ 0
      · rw [if_pos h1]
      · rw [if_neg h1] at h ⊢
        exact runL_nil bs ds fuel _ _ _ h
theorem applyL_nil (bs ds : List Int) (h : (applyL bs ds).1 ≠ 0) : (applyL bs ds).2 = [] := by
  unfold applyL applyOf at h ⊢
  split
  · rfl
  · rename_i hc
    rw [if_neg hc] at h
    exact runL_nil bs ds _ _ _ _ h

end Go.Proofs.Ytoohomfnbkdhfaa
