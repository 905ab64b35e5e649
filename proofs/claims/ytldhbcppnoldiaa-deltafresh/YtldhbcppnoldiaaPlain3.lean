/-
  PLAIN MATHEMATICS, continued: writing and reading are inverse: one way to write what can be read. No Go text is named here.
-/
import Derived.Test.YtldhbcppnoldiaaWVar
namespace Go.Proofs.Ytldhbcppnoldiaa
open Go.RowKit

theorem fixedB_snoc (n : Int) (s : Nat) : fixedB n (s + 1) = fixedB (n / 256) s ++ [n % 256] := by
  unfold fixedB
  rw [List.range_succ, List.map_append]
  congr 1
  · refine List.map_congr_left fun i hi => ?_
    have hi := List.mem_range.1 hi
    rw [show s + 1 - 1 - i = (s - 1 - i) + 1 by omega, Int.pow_succ, Int.mul_comm, ← Int.ediv_ediv_of_nonneg (by decide)]
  · simp
/-- What is read as a number of so many bytes is written so. -/
theorem fixedB_be : ∀ (s : Nat) (l : List Int), l.length = s → Octs l → fixedB (be l) s = l := by
  intro s
  induction s with
  | zero => intro l hl _; rw [List.eq_nil_of_length_eq_zero hl]; rfl
  | succ s ih =>
    intro l hl ho
    rcases List.eq_nil_or_concat l with rfl | ⟨l', x, rfl⟩
    · simp at hl
    · rw [List.concat_eq_append] at *
      have hx := ho x (by simp)
      have hl' : l'.length = s := by simpa using hl
      rw [fixedB_snoc, be_snoc, show (be l' * 256 + x) / 256 = be l' by omega, show (be l' * 256 + x) % 256 = x by omega, ih l' hl' (fun u hu => ho u (by simp [hu]))]

theorem pow_pos128 (k : Nat) : (0 : Int) < 128 ^ k := Int.pow_pos (by decide)
theorem pow_mono128 {a b : Nat} (h : a ≤ b) : (128 : Int) ^ a ≤ 128 ^ b := by
  rw [pow128, pow128]
  exact Int.ofNat_le.2 (Nat.pow_le_pow_right (by decide) (by omega))
theorem lastOf_is (n : Int) (k : Nat) (h0 : 0 ≤ n) (h1 : n ≤ 18446744073709551615) (hk1 : n < 128 ^ (k + 1)) (hk0 : 1 ≤ k → 128 ^ k ≤ n) : lastOf n = k := by
  obtain ⟨g1, g2, _⟩ := lastOf_spec n h0 h1
  rcases Nat.lt_trichotomy (lastOf n) k with h | h | h
  · have := pow_mono128 (show lastOf n + 1 ≤ k by omega)
    have := hk0 (by omega)
    omega
  · exact h
  · have := pow_mono128 (show k + 1 ≤ lastOf n by omega)
    have := g2 (by omega)
    omega
theorem add_div128 (n s : Int) (k : Nat) (h0 : 0 ≤ n) (h1 : n < 128 ^ k) : (n + s * 128 ^ k) / 128 ^ k = s := by
  have hp := pow_pos128 k
  rw [Int.add_mul_ediv_right _ _ (by omega), Int.ediv_eq_zero_of_lt h0 h1]
  omega

/-- While a number is gathered: what is gathered so far, whatever comes behind, is written as what was read. -/
def Gath (n : Int) (i : Nat) (pre : List Int) : Prop := ∀ t : Int, varHead (n + t * 128 ^ i) i = pre

theorem gath_step {n : Int} {i : Nat} {pre : List Int} (h : Gath n i pre) (h0 : 0 ≤ n) (h1 : n < 128 ^ i) (x : Int) (hx0 : 128 ≤ x) (hx1 : x ≤ 255) : Gath (n + (x - 128) * 128 ^ i) (i + 1) (pre ++ [x]) := by
  intro t
  have e : n + (x - 128) * 128 ^ i + t * 128 ^ (i + 1) = n + (x - 128 + t * 128) * 128 ^ i := by
    rw [Int.pow_succ, Int.add_mul, Int.mul_assoc t 128, Int.mul_comm 128 (128 ^ i), Int.add_assoc]
  rw [e, varHead_succ, h, add_div128 _ _ _ h0 h1]
  congr 2
  omega

theorem varFrom_one (most : Int) : ∀ (fuel i : Nat) (n : Int) (l pre : List Int), fuel + i = 10 → 0 ≤ n → n < 128 ^ i → Gath n i pre → Octs l → most ≤ 18446744073709551615 → pre.length = i →
    (varFrom most fuel i n l).f = 0 → varB (varFrom most fuel i n l).n = (pre ++ l).take (varFrom most fuel i n l).to := by
  intro fuel
  induction fuel with
  | zero => intro i n l pre _ _ _ _ _ _ _ hf; simp [varFrom] at hf
  | succ fuel ih =>
    intro i n l pre hfi hn0 hn1 hg ho hm hp hf
    match l with
    | [] => simp [varFrom] at hf
    | x :: r =>
      have hx := ho x (by simp)
      unfold varFrom at hf ⊢
      split at hf
      · simp at hf
      · rename_i h9
        rw [if_neg h9]
        split at hf
        · rename_i h128
          rw [if_pos h128]
          have := ih (i + 1) (n + (x - 128) * 128 ^ i) r (pre ++ [x]) (by omega) (var_ge i n _ hn0 (by omega)) (var_lt i n _ hn1 (by omega)) (gath_step hg hn0 hn1 x h128 hx.2) (fun u hu => ho u (by simp [hu])) hm (by simp [hp]) hf
          rw [this, List.append_assoc]
          rfl
        · rename_i h128
          rw [if_neg h128]
          split at hf
          · simp at hf
          · rename_i hz
            rw [if_neg hz]
            split at hf
            · simp at hf
            · rename_i hmx
              rw [if_neg hmx]
              dsimp only
              have hN0 := var_ge i n x hn0 hx.1
              have hN1 := var_lt i n x hn1 (by omega)
              have hlast : lastOf (n + x * 128 ^ i) = i := by
                refine lastOf_is _ i hN0 (by omega) hN1 fun hi => ?_
                have hx1 : 1 ≤ x := by omega
                have hpp := pow_pos128 i
                have := Int.mul_le_mul_of_nonneg_right hx1 (Int.le_of_lt hpp)
                omega
              unfold varB
              rw [hlast, hg x, add_div128 _ _ _ hn0 hn1, List.take_append, hp]
              rw [show i + 1 - i = 1 by omega, List.take_of_length_le (by omega)]
              rfl
/-- What is read as a number in its shortest form is written so. -/
theorem varL_one (ys : List Int) (most : Int) (ho : Octs ys) (hm : most ≤ 18446744073709551615) (hf : (varL ys most).f = 0) : varB (varL ys most).n = ys.take (varL ys most).to :=
  varFrom_one most 10 0 0 ys [] rfl (Int.le_refl _) (by decide) (fun t => by simp [varHead]) ho hm rfl hf

end Go.Proofs.Ytldhbcppnoldiaa
