/-
  PLAIN MATHEMATICS, continued: what is written is read, item by item; without the last byte the last item is not. No Go text is named here.
-/
import Derived.Test.YtkhcofdcokngkaaAgain
namespace Go.Proofs.Ytkhcofdcokngkaa
open Go.RowKit

/-- What groups of seven bits, each with its high bit, come to from place i on. -/
def gather : List Int → Nat → Int
  | [], _ => 0
  | x :: r, i => (x - 128) * 128 ^ i + gather r (i + 1)
theorem gather_snoc : ∀ (l : List Int) (i : Nat) (x : Int), gather (l ++ [x]) i = gather l i + (x - 128) * 128 ^ (i + l.length) := by
  intro l
  induction l with
  | nil => intro i x; simp [gather]
  | cons y l ih =>
    intro i x
    rw [List.cons_append, gather, gather, ih, List.length_cons, show i + 1 + l.length = i + (l.length + 1) by omega, Int.add_assoc]
theorem emod_pow (n : Int) (k : Nat) : n % 128 ^ k + n / 128 ^ k % 128 * 128 ^ k = n % 128 ^ (k + 1) := by
  have hp := pow_pos128 k
  have h1 := Int.emod_add_mul_ediv n (128 ^ k)
  have h2 := Int.emod_add_mul_ediv (n / 128 ^ k) 128
  have h3 := Int.emod_add_mul_ediv n (128 ^ (k + 1))
  have h4 := div_succ n k
  rw [h4] at h2
  have h5 : n / (128 ^ k * 128) = n / 128 ^ (k + 1) := by rw [Int.pow_succ]
  rw [Int.pow_succ] at h3
  rw [h5] at h3
  rw [Int.pow_succ 128 k] at *
  generalize n / (128 ^ k * 128) = q at *
  have e1 : n = n % 128 ^ k + 128 ^ k * (n / 128 ^ k % 128 + 128 * q) := by rw [h2]; omega
  have e2 : 128 ^ k * (n / 128 ^ k % 128 + 128 * q) = n / 128 ^ k % 128 * 128 ^ k + 128 ^ k * 128 * q := by rw [Int.mul_add, Int.mul_comm (128 ^ k) (n / 128 ^ k % 128), Int.mul_assoc]
  rw [e2] at e1
  omega
theorem gather_head (n : Int) (k : Nat) : gather (varHead n k) 0 = n % 128 ^ k := by
  induction k with
  | zero => simp [varHead, gather]
  | succ k ih => rw [varHead_succ, gather_snoc, ih, varHead_len, Nat.zero_add, show n / 128 ^ k % 128 + 128 - 128 = n / 128 ^ k % 128 by omega]; exact emod_pow n k
theorem vf_head (most : Int) : ∀ (l : List Int) (i : Nat) (n0 : Int) (tl : List Int), (∀ x, x ∈ l → 128 ≤ x) → i + l.length ≤ 9 →
    varFrom most (10 - i) i n0 (l ++ tl) = varFrom most (10 - (i + l.length)) (i + l.length) (n0 + gather l i) tl := by
  intro l
  induction l with
  | nil => intro i n0 tl _ _; simp [gather]
  | cons x l ih =>
    intro i n0 tl hx hi
    simp only [List.length_cons] at hi
    have h1 := hx x (by simp)
    rw [List.cons_append, show 10 - i = (9 - i) + 1 by omega]
    conv => lhs; unfold varFrom
    rw [if_neg (by omega), if_pos h1]
    have := ih (i + 1) (n0 + (x - 128) * 128 ^ i) tl (fun y hy => hx y (by simp [hy])) (by omega)
    rw [show 10 - (i + 1) = 9 - i by omega] at this
    rw [this, List.length_cons, gather, show i + 1 + l.length = i + (l.length + 1) by omega, Int.add_assoc]
theorem head_ge (n : Int) (k : Nat) : ∀ x, x ∈ varHead n k → 128 ≤ x := by
  intro x hx
  simp only [varHead, List.mem_map] at hx
  obtain ⟨i, _, rfl⟩ := hx
  omega
/-- A number that was written is read, under every bound that lets it be. -/
theorem varL_back (n most : Int) (h0 : 0 ≤ n) (h1 : n ≤ 18446744073709551615) (hm : n ≤ most) (tl : List Int) : varL (varB n ++ tl) most = ⟨n, (varB n).length, (varB n).length, 0⟩ := by
  obtain ⟨g1, g2, g3⟩ := lastOf_spec n h0 h1
  have hlen : (varB n).length = lastOf n + 1 := by simp [varB, varHead_len]
  have hsm := last_small n h0 h1
  have h9 : ¬ (lastOf n = 9 ∧ 1 < n / 128 ^ lastOf n) := by
    rintro ⟨e, h⟩
    rw [e] at h
    have e9 : (128 : Int) ^ 9 = 9223372036854775808 := by decide
    rw [e9] at h
    omega
  have hz : ¬ (n / 128 ^ lastOf n = 0 ∧ 0 < lastOf n) := by
    rintro ⟨e, h⟩
    have := g2 h
    have h3 : 1 ≤ n / 128 ^ lastOf n := (Int.le_ediv_iff_mul_le (pow_pos128 _)).2 (by omega)
    omega
  have hsum : n % 128 ^ lastOf n + n / 128 ^ lastOf n * 128 ^ lastOf n = n := by
    have := Int.emod_add_mul_ediv n (128 ^ lastOf n)
    rw [Int.mul_comm] at this
    exact this
  unfold varL
  have := vf_head most (varHead n (lastOf n)) 0 0 ([n / 128 ^ lastOf n] ++ tl) (head_ge n _) (by rw [varHead_len]; omega)
  rw [show varB n ++ tl = varHead n (lastOf n) ++ ([n / 128 ^ lastOf n] ++ tl) by unfold varB; rw [List.append_assoc]]
  rw [show 10 - 0 = 10 by rfl] at this
  rw [this, gather_head n, varHead_len, Nat.zero_add, Int.zero_add, hlen, show 10 - lastOf n = (9 - lastOf n) + 1 by omega]
  simp only [List.cons_append, List.nil_append]
  unfold varFrom
  rw [if_neg h9, if_neg (by omega), if_neg hz, hsum, if_neg (by omega)]
/-- Without its last byte it is too short. -/
theorem varL_cut (n most : Int) (h0 : 0 ≤ n) (h1 : n ≤ 18446744073709551615) : varL ((varB n).take ((varB n).length - 1)) most = ⟨0, 0, 0, 1⟩ := by
  obtain ⟨_, _, g3⟩ := lastOf_spec n h0 h1
  have e : (varB n).take ((varB n).length - 1) = varHead n (lastOf n) ++ [] := by
    simp [varB, varHead_len]
  rw [e]
  have := vf_head most (varHead n (lastOf n)) 0 0 [] (head_ge n _) (by rw [varHead_len]; omega)
  unfold varL
  rw [show 10 - 0 = 10 by rfl] at this
  rw [this, varHead_len, show 10 - (0 + lastOf n) = (9 - lastOf n) + 1 by omega]
  rfl
theorem be_fixedB : ∀ (s : Nat) (n : Int), 0 ≤ n → n < 256 ^ s → be (fixedB n s) = n := by
  intro s
  induction s with
  | zero => intro n h0 h1; simp at h1; have : n = 0 := by omega
            subst this; rfl
  | succ s ih =>
    intro n h0 h1
    rw [fixedB_snoc, be_snoc, ih (n / 256) (by omega) (by rw [Int.pow_succ] at h1; omega)]
    omega

/-- What is written for one step. -/
def encW (o : COp) : List Int :=
  if o.kind = 1 then fixedB (o.n % 256) 1 else if o.kind = 2 then fixedB (o.n % 4294967296) 4 else if o.kind = 3 then fixedB o.n 8 else if o.kind = 4 then varB o.n
  else if o.kind = 5 then varB o.b.length ++ o.b else if o.kind = 6 then o.b else []
/-- What reading it back comes to, with the narrowest bound. -/
def backL (xs : List Int) (pl f : Nat) (o : COp) : Took :=
  if o.kind = 1 then takeL xs pl f 0 1 0 else if o.kind = 2 then takeL xs pl f 0 4 0 else if o.kind = 3 then takeL xs pl f 0 8 0 else if o.kind = 4 then takeL xs pl f 1 0 o.n
  else if o.kind = 5 then takeL xs pl f 2 0 o.b.length else if o.kind = 6 then takeL xs pl f 3 o.b.length 0 else ⟨0, [], pl, f⟩
/-- .. and what it should. -/
def wantN (o : COp) : Int := if o.kind = 1 then o.n % 256 else if o.kind = 2 then o.n % 4294967296 else if o.kind = 3 ∨ o.kind = 4 then o.n else if o.kind = 5 then o.b.length else 0
def wantT (o : COp) : List Int := if o.kind = 5 ∨ o.kind = 6 then o.b else []

theorem back_fixed (xs : List Int) (pl size : Nat) (n : Int) (tl : List Int) (h0 : 0 ≤ n) (h1 : n < 256 ^ size) (hd : xs.drop pl = fixedB n size ++ tl) : takeL xs pl 0 0 size 0 = ⟨n, [], pl + size, 0⟩ := by
  rw [takeL_ok]
  have e : lookL (xs.drop pl) 0 size 0 = ⟨n, size, size, 0⟩ := by
    unfold lookL
    rw [if_pos rfl, Int.toNat_natCast, hd]
    unfold fixedL
    rw [if_neg (by simp [fixedB_len]), List.take_left' (fixedB_len n size), be_fixedB size n h0 h1]
  rw [e, if_neg (by simp)]
  simp
theorem back_var (xs : List Int) (pl : Nat) (n : Int) (tl : List Int) (h0 : 0 ≤ n) (h1 : n ≤ 18446744073709551615) (hd : xs.drop pl = varB n ++ tl) : takeL xs pl 0 1 0 n = ⟨n, [], pl + (varB n).length, 0⟩ := by
  rw [takeL_ok]
  have e : lookL (xs.drop pl) 1 0 n = ⟨n, (varB n).length, (varB n).length, 0⟩ := by
    show varL (xs.drop pl) n = _
    rw [hd]; exact varL_back n n h0 h1 (Int.le_refl _) tl
  rw [e, if_neg (by simp)]
  simp
theorem back_bytes (xs : List Int) (pl : Nat) (b tl : List Int) (h1 : b.length ≤ 140737488351232) (hd : xs.drop pl = varB b.length ++ b ++ tl) : takeL xs pl 0 2 0 b.length = ⟨b.length, b, pl + (varB b.length ++ b).length, 0⟩ := by
  rw [takeL_ok]
  have ev := varL_back (b.length : Int) (b.length : Int) (by omega) (by omega) (Int.le_refl _) (b ++ tl)
  have e : lookL (xs.drop pl) 2 0 b.length = ⟨b.length, (varB b.length).length, (varB b.length).length + b.length, 0⟩ := by
    show bytesL (xs.drop pl) b.length = _
    unfold bytesL
    rw [hd, List.append_assoc, ev]
    dsimp only
    rw [if_neg (by simp), if_neg (by simp; omega)]
    simp
  rw [e, if_neg (by simp), hd, List.append_assoc]
  dsimp only
  congr 1
  · rw [List.take_append, List.drop_append]; simp
  · simp
theorem back_raw (xs : List Int) (pl : Nat) (b tl : List Int) (hd : xs.drop pl = b ++ tl) : takeL xs pl 0 3 b.length 0 = ⟨0, b, pl + b.length, 0⟩ := by
  rw [takeL_ok]
  have e : lookL (xs.drop pl) 3 b.length 0 = ⟨0, 0, b.length, 0⟩ := by
    show rawL (xs.drop pl) b.length = _
    unfold rawL
    rw [hd, if_neg (by omega), if_neg (by simp; omega), Int.toNat_natCast]
  rw [e, if_neg (by simp), hd]
  simp

/-- WHAT IS WRITTEN IS READ. -/
theorem read_back (xs : List Int) (pl : Nat) (o : COp) (tl : List Int) (h0 : 0 ≤ o.n) (h1 : o.n ≤ 18446744073709551615) (hb : o.b.length ≤ 140737488351232) (hd : xs.drop pl = encW o ++ tl) : backL xs pl 0 o = ⟨wantN o, wantT o, pl + (encW o).length, 0⟩ := by
  unfold backL wantN wantT
  unfold encW at hd ⊢
  have e8 : (256 : Int) ^ 8 = 18446744073709551616 := by decide
  have e4 : (256 : Int) ^ 4 = 4294967296 := by decide
  have e1 : (256 : Int) ^ 1 = 256 := by decide
  by_cases k1 : o.kind = 1
  · have k56 : ¬ (o.kind = 5 ∨ o.kind = 6) := by omega
    simp only [if_pos k1, if_neg k56, fixedB_len] at hd ⊢
    exact back_fixed xs pl 1 _ tl (by omega) (by rw [e1]; omega) hd
  by_cases k2 : o.kind = 2
  · have k56 : ¬ (o.kind = 5 ∨ o.kind = 6) := by omega
    simp only [if_neg k1, if_pos k2, if_neg k56, fixedB_len] at hd ⊢
    exact back_fixed xs pl 4 _ tl (by omega) (by rw [e4]; omega) hd
  by_cases k3 : o.kind = 3
  · have k56 : ¬ (o.kind = 5 ∨ o.kind = 6) := by omega
    have k34 : o.kind = 3 ∨ o.kind = 4 := Or.inl k3
    simp only [if_neg k1, if_neg k2, if_pos k3, if_pos k34, if_neg k56, fixedB_len] at hd ⊢
    exact back_fixed xs pl 8 _ tl h0 (by rw [e8]; omega) hd
  by_cases k4 : o.kind = 4
  · have k56 : ¬ (o.kind = 5 ∨ o.kind = 6) := by omega
    have k34 : o.kind = 3 ∨ o.kind = 4 := Or.inr k4
    simp only [if_neg k1, if_neg k2, if_neg k3, if_pos k4, if_pos k34, if_neg k56] at hd ⊢
    exact back_var xs pl o.n tl h0 h1 hd
  have k34 : ¬ (o.kind = 3 ∨ o.kind = 4) := by omega
  by_cases k5 : o.kind = 5
  · have k56 : o.kind = 5 ∨ o.kind = 6 := Or.inl k5
    simp only [if_neg k1, if_neg k2, if_neg k3, if_neg k4, if_pos k5, if_neg k34, if_pos k56] at hd ⊢
    exact back_bytes xs pl o.b tl hb hd
  by_cases k6 : o.kind = 6
  · have k56 : o.kind = 5 ∨ o.kind = 6 := Or.inr k6
    simp only [if_neg k1, if_neg k2, if_neg k3, if_neg k4, if_neg k5, if_pos k6, if_neg k34, if_pos k56] at hd ⊢
    exact back_raw xs pl o.b tl hd
  have k56 : ¬ (o.kind = 5 ∨ o.kind = 6) := by omega
  simp only [if_neg k1, if_neg k2, if_neg k3, if_neg k4, if_neg k5, if_neg k6, if_neg k34, if_neg k56, List.length_nil, Nat.add_zero]

theorem drop_cut (xs : List Int) (pl : Nat) (l : List Int) (hd : xs.drop pl = l.take (l.length - 1)) : (xs.drop pl).length = l.length - 1 := by rw [hd]; simp
theorem cut_fixed (xs : List Int) (pl size : Nat) (h : (xs.drop pl).length < size) : takeL xs pl 0 0 size 0 = ⟨0, [], pl, 1⟩ := by
  rw [takeL_ok]
  have e : lookL (xs.drop pl) 0 size 0 = ⟨0, 0, 0, 1⟩ := by
    unfold lookL
    rw [if_pos rfl, Int.toNat_natCast]
    exact if_pos h
  rw [e, if_pos (by simp)]
/-- WITHOUT THE LAST BYTE OF AN ITEM IT IS NOT READ. -/
theorem read_cut (xs : List Int) (pl : Nat) (o : COp) (h0 : 0 ≤ o.n) (h1 : o.n ≤ 18446744073709551615) (hb : o.b.length ≤ 140737488351232) (hl : 1 ≤ (encW o).length) (hd : xs.drop pl = (encW o).take ((encW o).length - 1)) :
    (backL xs pl 0 o).f = 1 ∧ (backL xs pl 0 o).pl = pl := by
  have hlen := drop_cut xs pl _ hd
  unfold backL
  unfold encW at hd hl hlen
  by_cases k1 : o.kind = 1
  · simp only [if_pos k1, fixedB_len] at hlen ⊢
    have e := cut_fixed xs pl 1 (by omega); exact ⟨congrArg Took.f e, congrArg Took.pl e⟩
  by_cases k2 : o.kind = 2
  · simp only [if_neg k1, if_pos k2, fixedB_len] at hlen ⊢
    have e := cut_fixed xs pl 4 (by omega); exact ⟨congrArg Took.f e, congrArg Took.pl e⟩
  by_cases k3 : o.kind = 3
  · simp only [if_neg k1, if_neg k2, if_pos k3, fixedB_len] at hlen ⊢
    have e := cut_fixed xs pl 8 (by omega); exact ⟨congrArg Took.f e, congrArg Took.pl e⟩
  by_cases k4 : o.kind = 4
  · simp only [if_neg k1, if_neg k2, if_neg k3, if_pos k4] at hd ⊢
    have e : lookL (xs.drop pl) 1 0 o.n = ⟨0, 0, 0, 1⟩ := by show varL (xs.drop pl) o.n = _; rw [hd]; exact varL_cut o.n o.n h0 h1
    rw [takeL_ok, e, if_pos (by simp)]
    exact ⟨rfl, rfl⟩
  by_cases k5 : o.kind = 5
  · simp only [if_neg k1, if_neg k2, if_neg k3, if_neg k4, if_pos k5] at hd hlen ⊢
    have e : (lookL (xs.drop pl) 2 0 o.b.length).f = 1 := by
      show (bytesL (xs.drop pl) o.b.length).f = 1
      by_cases hbe : o.b = []
      · rw [hbe, List.append_nil] at hd
        unfold bytesL
        rw [hbe, hd, varL_cut _ _ (by simp) (by simp)]
        simp
      · have hbp : 1 ≤ o.b.length := List.length_pos_iff.2 hbe
        have hd2 : xs.drop pl = varB o.b.length ++ o.b.take (o.b.length - 1) := by
          rw [hd, List.take_append, List.length_append, List.take_of_length_le (by omega)]
          congr 2
          omega
        have ev := varL_back (o.b.length : Int) (o.b.length : Int) (by omega) (by omega) (Int.le_refl _) (o.b.take (o.b.length - 1))
        unfold bytesL
        rw [hd2, ev]
        dsimp only
        rw [if_neg (by simp), if_pos (by simp; omega)]
    rw [takeL_ok, if_pos (by rw [e]; decide)]
    exact ⟨e, rfl⟩
  by_cases k6 : o.kind = 6
  · simp only [if_neg k1, if_neg k2, if_neg k3, if_neg k4, if_neg k5, if_pos k6] at hl hlen ⊢
    have e : lookL (xs.drop pl) 3 o.b.length 0 = ⟨0, 0, 0, 1⟩ := by
      show rawL (xs.drop pl) o.b.length = _
      unfold rawL
      rw [if_neg (by omega), if_pos (by omega)]
    rw [takeL_ok, e, if_pos (by simp)]
    exact ⟨rfl, rfl⟩
  simp only [if_neg k1, if_neg k2, if_neg k3, if_neg k4, if_neg k5, if_neg k6, List.length_nil] at hl
  omega

end Go.Proofs.Ytkhcofdcokngkaa
