/-
  The shortest form of a number, byte by byte. Pure.
  PLAIN MATHEMATICS, continued: a number gathered from its last group on, and held against its shortest form. No Go text is named here.
-/
import Derived.Test.YtldhbcppnoldiaaPlain3
import Derived.Test.YtldhbcppnoldiaaBack0
namespace Go.Proofs.Ytldhbcppnoldiaa
open Go.RowKit

theorem varB_small (n : Int) (h0 : 0 ≤ n) (h1 : n < 128) : varB n = [n] := by
  have : lastOf n = 0 := lastOf_is n 0 h0 (by omega) (by simpa using h1) (fun h => absurd h (by decide))
  simp [varB, this, varHead]
theorem varHead_cons (n : Int) (k : Nat) : varHead n (k + 1) = (128 + n % 128) :: varHead (n / 128) k := by
  induction k with
  | zero => simp [varHead]; omega
  | succ k ih =>
    rw [varHead_succ, ih, List.cons_append, varHead_succ (n / 128) k]
    congr 2
    rw [Int.ediv_ediv_of_nonneg (by decide), Int.pow_succ, Int.mul_comm]
theorem varB_big (n : Int) (h0 : 128 ≤ n) (h1 : n ≤ 18446744073709551615) : varB n = (128 + n % 128) :: varB (n / 128) := by
  have hs := lastOf_spec (n / 128) (by omega) (by omega)
  obtain ⟨k, hk⟩ : ∃ k, k = lastOf (n / 128) := ⟨_, rfl⟩
  rw [← hk] at hs
  have hp := pow_pos128 k
  have hl : lastOf n = k + 1 := by
    refine lastOf_is n (k + 1) (by omega) h1 ?_ fun _ => ?_
    · rw [Int.pow_succ]; generalize (128 : Int) ^ (k + 1) = P at *; omega
    · rw [Int.pow_succ]
      by_cases h : 1 ≤ k
      · have := hs.2.1 h; generalize (128 : Int) ^ k = P at *; omega
      · obtain rfl : k = 0 := by omega
        simpa using h0
  rw [varB, hl, varHead_cons, varB, ← hk, List.cons_append, Int.pow_succ, Int.mul_comm, ← Int.ediv_ediv_of_nonneg (by decide : (0 : Int) ≤ 128)]

end Go.Proofs.Ytldhbcppnoldiaa

namespace Go.Proofs.Ytldhbcppnoldiaa
open Go.RowKit

/-- Gathered from the last group on, in 64 bits. -/
def eyeN : List Int → Int
  | [] => 0
  | x :: r => (eyeN r * 128 + x % 128) % 18446744073709551616
def wholeN : List Int → Int
  | [] => 0
  | x :: r => wholeN r * 128 + x % 128
theorem eyeN_mod (l : List Int) : eyeN l = wholeN l % 18446744073709551616 := by
  induction l with
  | nil => rfl
  | cons x r ih => rw [eyeN, wholeN, ih]; omega
theorem eyeN_range (l : List Int) : 0 ≤ eyeN l ∧ eyeN l ≤ 18446744073709551615 := by
  rw [eyeN_mod]; omega
theorem gather_shift : ∀ (l : List Int) (i : Nat), gather l (i + 1) = 128 * gather l i := by
  intro l
  induction l with
  | nil => intro i; rfl
  | cons x r ih => intro i; rw [gather, gather, ih, Int.mul_add, Int.pow_succ, ← Int.mul_assoc, Int.mul_comm]
theorem wholeN_head : ∀ (l t : List Int), (∀ x, x ∈ l → 128 ≤ x ∧ x ≤ 255) → wholeN (l ++ t) = gather l 0 + 128 ^ l.length * wholeN t := by
  intro l t
  induction l with
  | nil => intro _; simp [gather]
  | cons x r ih =>
    intro h
    have hx := h x (by simp)
    rw [List.cons_append, wholeN, ih (fun y hy => h y (by simp [hy])), gather, gather_shift, List.length_cons, Int.pow_succ, Int.pow_zero, Int.mul_one, Int.add_mul,
      show x % 128 = x - 128 by omega, Int.mul_comm (128 ^ r.length) 128, Int.mul_assoc 128, Int.mul_comm (128 ^ r.length * wholeN t) 128]
    omega
theorem gather_lt : ∀ (l : List Int), (∀ x, x ∈ l → 128 ≤ x ∧ x ≤ 255) → 0 ≤ gather l 0 ∧ gather l 0 < 128 ^ l.length := by
  intro l
  induction l with
  | nil => intro _; simp [gather]
  | cons x r ih =>
    intro h
    have hx := h x (by simp)
    have := ih (fun y hy => h y (by simp [hy]))
    rw [gather, gather_shift, List.length_cons, Int.pow_succ, Int.pow_zero, Int.mul_one]
    generalize (128 : Int) ^ r.length = P at *
    omega
theorem varL_at (l tl : List Int) (z most : Int) (hl : ∀ x, x ∈ l → 128 ≤ x ∧ x ≤ 255) (hk : l.length ≤ 9) (hz0 : 0 ≤ z) (hz1 : z < 128) :
    varL (l ++ z :: tl) most = if l.length = 9 ∧ 1 < z then ⟨0, 0, 0, 2⟩ else if z = 0 ∧ 0 < l.length then ⟨0, 0, 0, 2⟩
      else if most < gather l 0 + z * 128 ^ l.length then ⟨0, 0, 0, 3⟩ else ⟨gather l 0 + z * 128 ^ l.length, l.length + 1, l.length + 1, 0⟩ := by
  have h := vf_head most l 0 0 (z :: tl) (fun x hx => (hl x hx).1) (by omega)
  simp only [Nat.zero_add, Nat.sub_zero, Int.zero_add] at h
  rw [varL, h, show 10 - l.length = (9 - l.length) + 1 by omega]
  conv => lhs; unfold varFrom
  rw [if_neg (show ¬ 128 ≤ z by omega)]
/-- What the document's Reader makes of ten bytes at most of which only the last is below 128. -/
theorem varL_eye (l tl : List Int) (z most : Int) (hl : ∀ x, x ∈ l → 128 ≤ x ∧ x ≤ 255) (hk : l.length ≤ 9) (hz0 : 0 ≤ z) (hz1 : z < 128) (ho : Octs tl) :
    varL (l ++ z :: tl) most = if varB (eyeN (l ++ [z])) = l ++ [z] then (if most < eyeN (l ++ [z]) then ⟨0, 0, 0, 3⟩ else ⟨eyeN (l ++ [z]), l.length + 1, l.length + 1, 0⟩) else ⟨0, 0, 0, 2⟩ := by
  have hg := gather_lt l hl
  have hN : wholeN (l ++ [z]) = gather l 0 + z * 128 ^ l.length := by
    rw [wholeN_head l [z] hl]; simp only [wholeN, Int.zero_mul, Int.zero_add]; rw [show z % 128 = z by omega, Int.mul_comm]
  have hr := eyeN_range (l ++ [z])
  by_cases hb : (l.length = 9 ∧ 1 < z) ∨ (z = 0 ∧ 0 < l.length)
  · have hbad : ∀ m, varL (l ++ z :: tl) m = ⟨0, 0, 0, 2⟩ := by
      intro m
      rw [varL_at l tl z m hl hk hz0 hz1]
      rcases hb with h | h
      · rw [if_pos h]
      · by_cases h9 : l.length = 9 ∧ 1 < z
        · rw [if_pos h9]
        · rw [if_neg h9, if_pos h]
    rw [hbad, if_neg]
    intro he
    have hv := varL_back (eyeN (l ++ [z])) (eyeN (l ++ [z])) hr.1 hr.2 (Int.le_refl _) tl
    rw [he, List.append_assoc, List.singleton_append, hbad] at hv
    simp at hv
  · have h1 : ¬ (l.length = 9 ∧ 1 < z) := fun h => hb (Or.inl h)
    have h2 : ¬ (z = 0 ∧ 0 < l.length) := fun h => hb (Or.inr h)
    have hlt : gather l 0 + z * 128 ^ l.length ≤ 18446744073709551615 := by
      by_cases h9 : l.length = 9
      · rw [h9] at hg ⊢
        have : z ≤ 1 := by omega
        have := Int.mul_le_mul_of_nonneg_right this (show (0 : Int) ≤ 128 ^ 9 by decide)
        have e9 : (128 : Int) ^ 9 = 9223372036854775808 := by decide
        rw [e9] at *
        omega
      · have h3 := var_lt l.length (gather l 0) z hg.2 hz1
        have h4 : (128 : Int) ^ (l.length + 1) ≤ 9223372036854775808 := by
          have : ∀ k : Nat, k ≤ 8 → (128 : Int) ^ (k + 1) ≤ 9223372036854775808 := by decide +kernel
          exact this _ (by omega)
        omega
    have hge : 0 ≤ gather l 0 + z * 128 ^ l.length := var_ge l.length _ z hg.1 hz0
    have hn : eyeN (l ++ [z]) = gather l 0 + z * 128 ^ l.length := by rw [eyeN_mod, hN]; omega
    have hone := varL_one (l ++ z :: tl) 18446744073709551615 (by
      intro u hu
      rcases List.mem_append.1 hu with h | h
      · have := hl u h; omega
      · rcases List.mem_cons.1 h with rfl | h
        · omega
        · exact ho u h) (by decide)
    rw [varL_at l tl z _ hl hk hz0 hz1, if_neg h1, if_neg h2, if_neg (by omega)] at hone
    have hone := hone rfl
    dsimp only at hone
    rw [hn, if_pos, varL_at l tl z most hl hk hz0 hz1, if_neg h1, if_neg h2]
    rw [hone, List.take_append, show l.length + 1 - l.length = 1 by omega, List.take_of_length_le (by omega)]
    rfl
theorem varL_open (ys : List Int) (most : Int) (h : ∀ x, x ∈ ys.take 10 → 128 ≤ x) : varL ys most = ⟨0, 0, 0, if ys.length < 10 then 1 else 2⟩ := by
  by_cases hl : ys.length < 10
  · rw [if_pos hl]
    have h1 := vf_head most ys 0 0 [] (fun x hx => h x (by rw [List.take_of_length_le (by omega)]; exact hx)) (by omega)
    simp only [Nat.zero_add, Nat.sub_zero, List.append_nil] at h1
    rw [varL, h1, show 10 - ys.length = (9 - ys.length) + 1 by omega]
    rfl
  · rw [if_neg hl]
    have h1 := vf_head most (ys.take 9) 0 0 (ys.drop 9) (fun x hx => h x (List.mem_of_mem_take (i := 9) (by rw [List.take_take]; simpa using hx))) (by simp; omega)
    rw [List.take_append_drop] at h1
    simp only [Nat.zero_add, Nat.sub_zero, List.length_take, show min 9 ys.length = 9 by omega] at h1
    rw [varL, h1, vf_open (z := ys[9]?.getD 0) (by decide) (by omega) rfl, if_pos]
    refine ⟨rfl, ?_⟩
    have := h (ys[9]?.getD 0) (by
      have h9 : 9 < ys.length := by omega
      rw [List.getElem?_eq_getElem h9, Option.getD_some]
      exact List.mem_take_iff_getElem.2 ⟨9, by omega, rfl⟩)
    omega
end Go.Proofs.Ytldhbcppnoldiaa
