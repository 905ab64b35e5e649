/-
  The order of bytes.Compare (cmpB): a strict order, and total.
-/
import Derived.Test.YtmjbaficdoehfaaCmpB
namespace Go.Proofs.Ytmjbaficdoehfaa
open Go.RowKit

/-- Which id is first: a strict order, and total. -/
theorem cmpB_swap : ∀ xs ys : List Int, cmpB xs ys < 0 → ¬ cmpB ys xs < 0
  | [], [], h => by simp [cmpB] at h
  | [], _ :: _, _ => by simp [cmpB]
  | _ :: _, [], h => by simp [cmpB] at h
  | a :: x, b :: y, h => by
    simp only [cmpB] at h ⊢
    by_cases h1 : a < b
    · rw [if_neg (by omega), if_pos h1]; omega
    · rw [if_neg h1] at h
      by_cases h2 : b < a
      · rw [if_pos h2] at h; omega
      · rw [if_neg h2] at h
        rw [if_neg h2, if_neg h1]
        exact cmpB_swap x y h
theorem cmpB_total : ∀ xs ys : List Int, ¬ cmpB xs ys < 0 → ¬ cmpB ys xs < 0 → xs = ys
  | [], [], _, _ => rfl
  | [], _ :: _, h, _ => by simp [cmpB] at h
  | _ :: _, [], _, h => by simp [cmpB] at h
  | a :: x, b :: y, h, h' => by
    simp only [cmpB] at h h'
    by_cases h1 : a < b
    · rw [if_pos h1] at h; omega
    · by_cases h2 : b < a
      · rw [if_pos h2] at h'; omega
      · rw [if_neg h1, if_neg h2] at h
        rw [if_neg h2, if_neg h1] at h'
        obtain rfl : a = b := by omega
        rw [cmpB_total x y h h']
theorem cmpB_trans : ∀ xs ys zs : List Int, cmpB xs ys < 0 → cmpB ys zs < 0 → cmpB xs zs < 0
  | [], [], _, h, _ => by simp [cmpB] at h
  | _ :: _, [], _, h, _ => by simp [cmpB] at h
  | _, _ :: _, [], _, h => by simp [cmpB] at h
  | [], _ :: _, _ :: _, _, _ => by simp [cmpB]
  | a :: x, b :: y, c :: z, h, h' => by
    simp only [cmpB] at h h' ⊢
    by_cases h1 : a < b
    · by_cases h2 : c < b
      · rw [if_neg (by omega), if_pos h2] at h'; omega
      · rw [if_pos (by omega)]; omega
    · rw [if_neg h1] at h
      by_cases h2 : b < a
      · rw [if_pos h2] at h; omega
      · rw [if_neg h2] at h
        obtain rfl : a = b := by omega
        by_cases h3 : a < c
        · rw [if_pos h3]; omega
        · rw [if_neg h3] at h' ⊢
          by_cases h4 : c < a
          · rw [if_pos h4] at h'; omega
          · rw [if_neg h4] at h' ⊢
            exact cmpB_trans x y z h h'
theorem cmpB_self (xs : List Int) : ¬ cmpB xs xs < 0 := fun h => cmpB_swap xs xs h h
/-- What is not less: either greater or the same. -/
theorem cmpB_ge {xs ys : List Int} (h : ¬ cmpB xs ys < 0) : cmpB ys xs < 0 ∨ xs = ys := by
  by_cases h' : cmpB ys xs < 0
  · exact .inl h'
  · exact .inr (cmpB_total xs ys h h')
end Go.Proofs.Ytmjbaficdoehfaa
