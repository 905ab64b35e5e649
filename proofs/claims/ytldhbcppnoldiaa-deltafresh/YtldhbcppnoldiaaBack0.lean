/-
  PLAIN: what is written is read, item by item, under any bound that lets it be.
-/
import Derived.Test.YtldhbcppnoldiaaPlain3
import Derived.Test.YtldhbcppnoldiaaTake
namespace Go.Proofs.Ytldhbcppnoldiaa
open Go.RowKit

theorem takeL_ok (xs : List Int) (pl : Nat) (kind size most : Int) : takeL xs pl 0 kind size most =
    if (lookL (xs.drop pl) kind size most).f ≠ 0 then ⟨0, [], pl, (lookL (xs.drop pl) kind size most).f⟩
    else ⟨(lookL (xs.drop pl) kind size most).n, ((xs.drop pl).take (lookL (xs.drop pl) kind size most).to).drop (lookL (xs.drop pl) kind size most).frm, pl + (lookL (xs.drop pl) kind size most).to, 0⟩ := if_neg (by decide)


/-- What groups of seven bits, each with its high bit, come to from place i on. -/
def gather : List Int → Nat → Int
  | [], _ => 0
  | x :: r, i => (x - 128) * 128 ^ i + gather r (i + 1)
theorem gather_snoc : ∀ (l : List Int) (i : Nat) (x : Int), gather (l ++ [x]) i = gather l i + (x - 128) * 128 ^ (i + l.length) := by
  intro l
  induction l with
  | nil => intro i x; simp [gather]
  | cons y l ih =>
    intro i x
    rw [List.cons_append, gather, gather, ih, List.length_cons, show i + 1 + l.length = i + (l.length + 1) by omega, Int.add_assoc]
theorem emod_pow (n : Int) (k : Nat) : n % 128 ^ k + n / 128 ^ k % 128 * 128 ^ k = n % 128 ^ (k + 1) := by
  have hp := pow_pos128 k
  have h1 := Int.emod_add_mul_ediv n (128 ^ k)
  have h2 := Int.emod_add_mul_ediv (n / 128 ^ k) 128
  have h3 := Int.emod_add_mul_ediv n (128 ^ (k + 1))
  have h4 := div_succ n k
  rw [h4] at h2
  have h5 : n / (128 ^ k * 128) = n / 128 ^ (k + 1) := by rw [Int.pow_succ]
  rw [Int.pow_succ] at h3
  rw [h5] at h3
  rw [Int.pow_succ 128 k] at *
  generalize n / (128 ^ k * 128) = q at *
  have e1 : n = n % 128 ^ k + 128 ^ k * (n / 128 ^ k % 128 + 128 * q) := by rw [h2]; omega
  have e2 : 128 ^ k * (n / 128 ^ k % 128 + 128 * q) = n / 128 ^ k % 128 * 128 ^ k + 128 ^ k * 128 * q := by rw [Int.mul_add, Int.mul_comm (128 ^ k) (n / 128 ^ k % 128), Int.mul_assoc]
  rw [e2] at e1
  omega
theorem gather_head (n : Int) (k : Nat) : gather (varHead n k) 0 = n % 128 ^ k := by
  induction k with
  | zero => simp [varHead, gather]
  | succ k ih => rw [varHead_succ, gather_snoc, ih, varHead_len, Nat.zero_add, show n / 128 ^ k % 128 + 128 - 128 = n / 128 ^ k % 128 by omega]; exact emod_pow n k
theorem vf_head (most : Int) : ∀ (l : List Int) (i : Nat) (n0 : Int) (tl : List Int), (∀ x, x ∈ l → 128 ≤ x) → i + l.length ≤ 9 →
    varFrom most (10 - i) i n0 (l ++ tl) = varFrom most (10 - (i + l.length)) (i + l.length) (n0 + gather l i) tl := by
  intro l
  induction l with
  | nil => intro i n0 tl _ _; simp [gather]
  | cons x l ih =>
    intro i n0 tl hx hi
    simp only [List.length_cons] at hi
    have h1 := hx x (by simp)
    rw [List.cons_append, show 10 - i = (9 - i) + 1 by omega]
    conv => lhs; unfold varFrom
    rw [if_neg (by omega), if_pos h1]
    have := ih (i + 1) (n0 + (x - 128) * 128 ^ i) tl (fun y hy => hx y (by simp [hy])) (by omega)
    rw [show 10 - (i + 1) = 9 - i by omega] at this
    rw [this, List.length_cons, gather, show i + 1 + l.length = i + (l.length + 1) by omega, Int.add_assoc]
theorem head_ge (n : Int) (k : Nat) : ∀ x, x ∈ varHead n k → 128 ≤ x := by
  intro x hx
  simp only [varHead, List.mem_map] at hx
  obtain ⟨i, _, rfl⟩ := hx
  omega
/-- A number that was written is read, under every bound that lets it be. -/
theorem varL_back (n most : Int) (h0 : 0 ≤ n) (h1 : n ≤ 18446744073709551615) (hm : n ≤ most) (tl : List Int) : varL (varB n ++ tl) most = ⟨n, (varB n).length, (varB n).length, 0⟩ := by
  obtain ⟨g1, g2, g3⟩ := lastOf_spec n h0 h1
  have hlen : (varB n).length = lastOf n + 1 := by simp [varB, varHead_len]
  have hsm := last_small n h0 h1
  have h9 : ¬ (lastOf n = 9 ∧ 1 < n / 128 ^ lastOf n) := by
    rintro ⟨e, h⟩
    rw [e] at h
    have e9 : (128 : Int) ^ 9 = 9223372036854775808 := by decide
    rw [e9] at h
    omega
  have hz : ¬ (n / 128 ^ lastOf n = 0 ∧ 0 < lastOf n) := by
    rintro ⟨e, h⟩
    have := g2 h
    have h3 : 1 ≤ n / 128 ^ lastOf n := (Int.le_ediv_iff_mul_le (pow_pos128 _)).2 (by omega)
    omega
  have hsum : n % 128 ^ lastOf n + n / 128 ^ lastOf n * 128 ^ lastOf n = n := by
    have := Int.emod_add_mul_ediv n (128 ^ lastOf n)
    rw [Int.mul_comm] at this
    exact this
  unfold varL
  have := vf_head most (varHead n (lastOf n)) 0 0 ([n / 128 ^ lastOf n] ++ tl) (head_ge n _) (by rw [varHead_len]; omega)
  rw [show varB n ++ tl = varHead n (lastOf n) ++ ([n / 128 ^ lastOf n] ++ tl) by unfold varB; rw [List.append_assoc]]
  rw [show 10 - 0 = 10 by rfl] at this
  rw [this, gather_head n, varHead_len, Nat.zero_add, Int.zero_add, hlen, show 10 - lastOf n = (9 - lastOf n) + 1 by omega]
  simp only [List.cons_append, List.nil_append]
  unfold varFrom
  rw [if_neg h9, if_neg (by omega), if_neg hz, hsum, if_neg (by omega)]
/-- Without its last byte it is too short. -/
theorem varL_cut (n most : Int) (h0 : 0 ≤ n) (h1 : n ≤ 18446744073709551615) : varL ((varB n).take ((varB n).length - 1)) most = ⟨0, 0, 0, 1⟩ := by
  obtain ⟨_, _, g3⟩ := lastOf_spec n h0 h1
  have e : (varB n).take ((varB n).length - 1) = varHead n (lastOf n) ++ [] := by
    simp [varB, varHead_len]
  rw [e]
  have := vf_head most (varHead n (lastOf n)) 0 0 [] (head_ge n _) (by rw [varHead_len]; omega)
  unfold varL
  rw [show 10 - 0 = 10 by rfl] at this
  rw [this, varHead_len, show 10 - (0 + lastOf n) = (9 - lastOf n) + 1 by omega]
  rfl
theorem be_fixedB : ∀ (s : Nat) (n : Int), 0 ≤ n → n < 256 ^ s → be (fixedB n s) = n := by
  intro s
  induction s with
  | zero => intro n h0 h1; simp at h1; have : n = 0 := by omega
            subst this; rfl
  | succ s ih =>
    intro n h0 h1
    rw [fixedB_snoc, be_snoc, ih (n / 256) (by omega) (by rw [Int.pow_succ] at h1; omega)]
    omega

theorem back_fixed (xs : List Int) (pl size : Nat) (n : Int) (tl : List Int) (h0 : 0 ≤ n) (h1 : n < 256 ^ size) (hd : xs.drop pl = fixedB n size ++ tl) : takeL xs pl 0 0 size 0 = ⟨n, [], pl + size, 0⟩ := by
  rw [takeL_ok]
  have e : lookL (xs.drop pl) 0 size 0 = ⟨n, size, size, 0⟩ := by
    unfold lookL
    rw [if_pos rfl, Int.toNat_natCast, hd]
    unfold fixedL
    rw [if_neg (by simp [fixedB_len]), List.take_left' (fixedB_len n size), be_fixedB size n h0 h1]
  rw [e, if_neg (by simp)]
  simp
theorem back_var' (xs : List Int) (pl : Nat) (n most : Int) (tl : List Int) (h0 : 0 ≤ n) (h1 : n ≤ 18446744073709551615) (hm : n ≤ most) (hd : xs.drop pl = varB n ++ tl) : takeL xs pl 0 1 0 most = ⟨n, [], pl + (varB n).length, 0⟩ := by
  rw [takeL_ok]
  have e : lookL (xs.drop pl) 1 0 most = ⟨n, (varB n).length, (varB n).length, 0⟩ := by
    show varL (xs.drop pl) most = _
    rw [hd]; exact varL_back n most h0 h1 hm tl
  rw [e, if_neg (by simp)]
  simp
theorem back_bytes' (xs : List Int) (pl : Nat) (b tl : List Int) (most : Int) (h1 : b.length ≤ 140737488351232) (hm : (b.length : Int) ≤ most) (hd : xs.drop pl = varB b.length ++ b ++ tl) : takeL xs pl 0 2 0 most = ⟨b.length, b, pl + (varB b.length ++ b).length, 0⟩ := by
  rw [takeL_ok]
  have ev := varL_back (b.length : Int) most (by omega) (by omega) hm (b ++ tl)
  have e : lookL (xs.drop pl) 2 0 most = ⟨b.length, (varB b.length).length, (varB b.length).length + b.length, 0⟩ := by
    show bytesL (xs.drop pl) most = _
    unfold bytesL
    rw [hd, List.append_assoc, ev]
    dsimp only
    rw [if_neg (by simp), if_neg (by simp; omega)]
    simp
  rw [e, if_neg (by simp), hd, List.append_assoc]
  dsimp only
  congr 1
  · rw [List.take_append, List.drop_append]; simp
  · simp
theorem back_raw (xs : List Int) (pl : Nat) (b tl : List Int) (hd : xs.drop pl = b ++ tl) : takeL xs pl 0 3 b.length 0 = ⟨0, b, pl + b.length, 0⟩ := by
  rw [takeL_ok]
  have e : lookL (xs.drop pl) 3 b.length 0 = ⟨0, 0, b.length, 0⟩ := by
    show rawL (xs.drop pl) b.length = _
    unfold rawL
    rw [hd, if_neg (by omega), if_neg (by simp; omega), Int.toNat_natCast]
  rw [e, if_neg (by simp), hd]
  simp

end Go.Proofs.Ytldhbcppnoldiaa
