/-
  PLAIN MATHEMATICS of package code's numbers: a number in so many bytes, the highest first. No Go text is named here.
-/
import Derived.WalkKit
namespace Go.Proofs.YtpdmlnimdbepaaaDoor
open Go.RowKit

/-- The number that these bytes are, the highest first. -/
def be (l : List Int) : Int := l.foldl (fun n x => n * 256 + x) 0
theorem be_snoc (l : List Int) (x : Int) : be (l ++ [x]) = be l * 256 + x := by simp [be]
theorem be_nil : be [] = 0 := rfl
def Octs (ys : List Int) : Prop := ∀ u, u ∈ ys → 0 ≤ u ∧ u ≤ 255
theorem be_from (l : List Int) (h : Octs l) : ∀ n : Int, 0 ≤ n → 0 ≤ l.foldl (fun n x => n * 256 + x) n ∧ l.foldl (fun n x => n * 256 + x) n < (n + 1) * 256 ^ l.length := by
  induction l with
  | nil => intro n hn; simp; omega
  | cons x l ih =>
    intro n hn
    have hx := h x (by simp)
    have h1 := ih (fun u hu => h u (by simp [hu])) (n * 256 + x) (by omega)
    have hp : (0 : Int) ≤ 256 ^ l.length := Int.pow_nonneg (by decide)
    have h2 := Int.mul_le_mul_of_nonneg_right (show n * 256 + x + 1 ≤ (n + 1) * 256 by omega) hp
    have h3 : (n + 1) * (256 : Int) ^ (l.length + 1) = (n + 1) * 256 * 256 ^ l.length := by rw [Int.pow_succ, Int.mul_assoc, Int.mul_comm (256 ^ l.length) 256]
    rw [List.foldl_cons, List.length_cons, h3]
    exact ⟨h1.1, Int.lt_of_lt_of_le h1.2 h2⟩
theorem pow_le8 : ∀ k : Nat, k ≤ 7 → (256 : Int) ^ k ≤ 72057594037927936 := by decide +kernel
theorem be_le8 (l : List Int) (h : Octs l) (hl : l.length ≤ 7) : 0 ≤ be l ∧ be l < 72057594037927936 := by
  have h1 := be_from l h 0 (by omega)
  have h2 := pow_le8 l.length hl
  have h3 : be l < (0 + 1) * 256 ^ l.length := h1.2
  have h4 : 0 ≤ be l := h1.1
  omega
theorem be_step (n x : Int) (h0 : 0 ≤ n) (h1 : n < 72057594037927936) (h2 : 0 ≤ x) (h3 : x ≤ 255) : bits .or .u64 (n * 256) x = n * 256 + x := by
  rw [u64_or _ _ (by omega) (by omega) h2 (by omega), nat_join 8 _ _ (by omega) (by omega)]
  omega
theorem take_snoc (l : List Int) (k : Nat) (h : k < l.length) : l.take (k + 1) = l.take k ++ [l.getD k 0] := by
  rw [List.take_succ_eq_append_getElem h]; simp [List.getD, h]
theorem octs_take {l : List Int} (h : Octs l) (k : Nat) : Octs (l.take k) := fun u hu => h u (List.mem_of_mem_take hu)
theorem octs_drop {l : List Int} (h : Octs l) (k : Nat) : Octs (l.drop k) := fun u hu => h u (List.mem_of_mem_drop hu)
theorem octs_getD {l : List Int} (h : Octs l) (k : Nat) : 0 ≤ l[k]?.getD 0 ∧ l[k]?.getD 0 ≤ 255 := by
  rcases Nat.lt_or_ge k l.length with hk | hk
  · rw [List.getElem?_eq_getElem hk]; exact h _ (List.getElem_mem hk)
  · rw [List.getElem?_eq_none hk]; simp

/-- What is found at the front of some bytes: a number, where its text begins and where the item ends; the fault, 0 for none. -/
structure Fnd where
  n : Int
  frm : Nat
  to : Nat
  f : Nat

/-- A number in its shortest form, from byte i on, n gathered so far. -/
def varFrom (most : Int) : Nat → Nat → Int → List Int → Fnd
  | 0, _, _, _ => ⟨0, 0, 0, 2⟩
  | _ + 1, _, _, [] => ⟨0, 0, 0, 1⟩
  | fuel + 1, i, n, x :: r =>
    if i = 9 ∧ 1 < x then ⟨0, 0, 0, 2⟩
    else if 128 ≤ x then varFrom most fuel (i + 1) (n + (x - 128) * 128 ^ i) r
    else if x = 0 ∧ 0 < i then ⟨0, 0, 0, 2⟩
    else if most < n + x * 128 ^ i then ⟨0, 0, 0, 3⟩
    else ⟨n + x * 128 ^ i, i + 1, i + 1, 0⟩
def varL (ys : List Int) (most : Int) : Fnd := varFrom most 10 0 0 ys
def fixedL (ys : List Int) (size : Nat) : Fnd := if ys.length < size then ⟨0, 0, 0, 1⟩ else ⟨be (ys.take size), size, size, 0⟩
def rawL (ys : List Int) (size : Int) : Fnd := if size < 0 then ⟨0, 0, 0, 4⟩ else if ys.length < size then ⟨0, 0, 0, 1⟩ else ⟨0, 0, size.toNat, 0⟩
def bytesL (ys : List Int) (most : Int) : Fnd :=
  if (varL ys most).f ≠ 0 then ⟨0, 0, 0, (varL ys most).f⟩
  else if (ys.length : Int) - (varL ys most).to < (varL ys most).n then ⟨0, 0, 0, 1⟩
  else ⟨(varL ys most).n, (varL ys most).frm, (varL ys most).to + (varL ys most).n.toNat, 0⟩
def lookL (ys : List Int) (kind size most : Int) : Fnd :=
  if kind = 0 then fixedL ys size.toNat else if kind = 1 then varL ys most else if kind = 2 then bytesL ys most else rawL ys size

theorem and128_lo (x : Int) (h0 : 0 ≤ x) (h1 : x < 128) : bits .and .u8 x 128 = 0 := by
  obtain ⟨n, rfl⟩ := Int.eq_ofNat_of_zero_le h0
  have : ∀ n : Nat, n < 128 → bits .and .u8 (n : Int) 128 = 0 := by decide +kernel
  exact this n (by omega)
theorem and128_hi (x : Int) (h0 : 128 ≤ x) (h1 : x ≤ 255) : bits .and .u8 x 128 = 128 := by
  obtain ⟨n, rfl⟩ := Int.eq_ofNat_of_zero_le (show 0 ≤ x by omega)
  have : ∀ n : Nat, n < 256 → 128 ≤ n → bits .and .u8 (n : Int) 128 = 128 := by decide +kernel
  exact this n (by omega) (by omega)
theorem andNot128_lo (x : Int) (h0 : 0 ≤ x) (h1 : x < 128) : bits .andNot .u8 x 128 = x := by
  obtain ⟨n, rfl⟩ := Int.eq_ofNat_of_zero_le h0
  have : ∀ n : Nat, n < 128 → bits .andNot .u8 (n : Int) 128 = n := by decide +kernel
  exact this n (by omega)
theorem andNot128_hi (x : Int) (h0 : 128 ≤ x) (h1 : x ≤ 255) : bits .andNot .u8 x 128 = x - 128 := by
  obtain ⟨n, rfl⟩ := Int.eq_ofNat_of_zero_le (show 0 ≤ x by omega)
  have : ∀ n : Nat, n < 256 → 128 ≤ n → bits .andNot .u8 (n : Int) 128 = (n : Int) - 128 := by decide +kernel
  exact this n (by omega) (by omega)

theorem drop_cons (ys : List Int) (k : Nat) (h : k < ys.length) : ys.drop k = ys[k]?.getD 0 :: ys.drop (k + 1) := by
  rw [List.drop_eq_getElem_cons h, List.getElem?_eq_getElem h]; rfl
theorem pow128 (k : Nat) : (128 : Int) ^ k = ((2 ^ (7 * k) : Nat) : Int) := by
  rw [Nat.pow_mul, Int.natCast_pow]; rfl
theorem var_or (k : Nat) (n y : Int) (hn0 : 0 ≤ n) (hn1 : n < 128 ^ k) (hy0 : 0 ≤ y) (hy1 : y < 128) (hk : k < 9 ∨ k = 9 ∧ y ≤ 1) :
    bits .or .u64 n (IntKind.u64.wrap (y * 2 ^ (7 * k))) = n + y * 128 ^ k := by
  obtain ⟨n, rfl⟩ := Int.eq_ofNat_of_zero_le hn0
  obtain ⟨y, rfl⟩ := Int.eq_ofNat_of_zero_le hy0
  rw [pow128] at hn1 ⊢
  have e : ((y : Int) * 2 ^ (7 * k)) = ((y * 2 ^ (7 * k) : Nat) : Int) := by rw [Int.natCast_mul, Int.natCast_pow]; rfl
  have hb : y * 2 ^ (7 * k) < 18446744073709551616 := by
    rcases hk with hk | ⟨rfl, hy⟩
    · have h1 : 2 ^ (7 * k) ≤ 2 ^ 56 := Nat.pow_le_pow_right (by decide) (by omega)
      have h2 : y * 2 ^ (7 * k) ≤ 127 * 2 ^ 56 := Nat.mul_le_mul (by omega) h1
      have h3 : 127 * 2 ^ 56 < 18446744073709551616 := by decide
      omega
    · have hy' : y ≤ 1 := by omega
      exact Nat.lt_of_le_of_lt (Nat.mul_le_mul hy' (Nat.le_refl (2 ^ (7 * 9)))) (by decide)
  have hp : 2 ^ (7 * k) ≤ 2 ^ 63 := Nat.pow_le_pow_right (by decide) (by omega)
  have hq : 2 ^ 63 < 18446744073709551616 := by decide
  rw [e, IntWalk.u64_in _ ⟨by omega, by omega⟩, u64_or_nat _ _ (by omega) hb, Nat.or_comm, nat_join (7 * k) _ _ (Nat.mul_mod_left _ _) (by omega)]
  rw [← Int.natCast_mul]
  omega
theorem var_lt (k : Nat) (n y : Int) (hn1 : n < 128 ^ k) (hy1 : y < 128) : n + y * 128 ^ k < 128 ^ (k + 1) := by
  have hp : (0 : Int) ≤ 128 ^ k := Int.pow_nonneg (by decide)
  have h := Int.mul_le_mul_of_nonneg_right (show y ≤ 127 by omega) hp
  rw [Int.pow_succ]
  omega
theorem var_ge (k : Nat) (n y : Int) (hn0 : 0 ≤ n) (hy0 : 0 ≤ y) : 0 ≤ n + y * 128 ^ k := by
  have hp : (0 : Int) ≤ 128 ^ k := Int.pow_nonneg (by decide)
  have := Int.mul_nonneg hy0 hp
  omega
section
variable {most n z : Int} {ys : List Int} {k : Nat}
theorem vf_end (h : 10 ≤ k) : varFrom most (10 - k) k n (ys.drop k) = ⟨0, 0, 0, 2⟩ := by rw [Nat.sub_eq_zero_of_le h]; rfl
theorem vf_short (h : k < 10) (hl : ys.length ≤ k) : varFrom most (10 - k) k n (ys.drop k) = ⟨0, 0, 0, 1⟩ := by
  rw [List.drop_eq_nil_of_le hl, show 10 - k = (9 - k) + 1 by omega]; rfl
theorem vf_open (h : k < 10) (hl : k < ys.length) (hz : z = ys[k]?.getD 0) : varFrom most (10 - k) k n (ys.drop k) =
    if k = 9 ∧ 1 < z then ⟨0, 0, 0, 2⟩ else if 128 ≤ z then varFrom most (10 - (k + 1)) (k + 1) (n + (z - 128) * 128 ^ k) (ys.drop (k + 1))
    else if z = 0 ∧ 0 < k then ⟨0, 0, 0, 2⟩ else if most < n + z * 128 ^ k then ⟨0, 0, 0, 3⟩ else ⟨n + z * 128 ^ k, k + 1, k + 1, 0⟩ := by
  rw [drop_cons ys k hl, ← hz, show 10 - k = (9 - k) + 1 by omega, show 10 - (k + 1) = 9 - k by omega]; rfl
end

/-- What is told of a number that is found. -/
structure Fnd.Good (x : Fnd) (len : Nat) (most : Int) : Prop where
  n0 : 0 ≤ x.n
  le : x.f = 0 → x.n ≤ most
  frm : x.frm ≤ x.to
  to : x.to ≤ len
  f : x.f ≤ 3
  bad : x.f ≠ 0 → x = ⟨0, 0, 0, x.f⟩
  one : x.f = 0 → 1 ≤ x.to ∧ x.to ≤ 10 ∧ x.frm = x.to
theorem good_bad (f len : Nat) (most : Int) (h : f ≤ 3) (h0 : f ≠ 0) : Fnd.Good ⟨0, 0, 0, f⟩ len most :=
  ⟨Int.le_refl _, fun e => absurd e h0, Nat.le_refl _, Nat.zero_le _, h, fun _ => rfl, fun e => absurd e h0⟩
theorem varFrom_good (most : Int) : ∀ (fuel i : Nat) (n : Int) (l : List Int), fuel + i ≤ 10 → 0 ≤ n → Octs l → Fnd.Good (varFrom most fuel i n l) (i + l.length) most := by
  intro fuel
  induction fuel with
  | zero => intro i n l _ _ _; exact good_bad 2 _ _ (by decide) (by decide)
  | succ fuel ih =>
    intro i n l hf hn ho
    match l with
    | [] => exact good_bad 1 _ _ (by decide) (by decide)
    | x :: r =>
      have hx := ho x (by simp)
      unfold varFrom
      split
      · exact good_bad 2 _ _ (by decide) (by decide)
      · split
        · have := ih (i + 1) (n + (x - 128) * 128 ^ i) r (by omega) (var_ge i n _ hn (by omega)) (fun u hu => ho u (by simp [hu]))
          rw [show i + (x :: r).length = i + 1 + r.length by simp; omega]
          exact this
        · split
          · exact good_bad 2 _ _ (by decide) (by decide)
          · split
            · exact good_bad 3 _ _ (by decide) (by decide)
            · refine ⟨var_ge i n x hn hx.1, fun _ => by dsimp only; omega, Nat.le_refl _, by simp, Nat.zero_le _, fun h => absurd rfl h, fun _ => ⟨by simp, by dsimp only; omega, rfl⟩⟩
theorem varL_good (ys : List Int) (most : Int) (ho : Octs ys) : Fnd.Good (varL ys most) ys.length most := by
  have := varFrom_good most 10 0 0 ys (by decide) (by decide) ho
  rwa [Nat.zero_add] at this

end Go.Proofs.YtpdmlnimdbepaaaDoor
