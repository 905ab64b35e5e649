/-
  PLAIN: the digest's turns on 32-bit words are those on natural numbers.
-/
import Derived.Test.YtdjfcackiclepaaDoorSha4
import Derived.Test.YtdjfcackiclepaaDoorNatA
namespace Go.Proofs.YtdjfcackiclepaaDoor
open Go.RowKit

theorem rotL_nat (x n : Nat) (hx : x < 4294967296) (hn : n ≤ 32) : rotL (x : Int) n = ((rotN x n : Nat) : Int) := by
  have hp : 2 ^ n * 2 ^ (32 - n) = 4294967296 := by rw [← Nat.pow_add, show n + (32 - n) = 32 by omega]
  have h1 : 0 < 2 ^ (32 - n) := Nat.two_pow_pos _
  have hq : x / 2 ^ n < 2 ^ (32 - n) := Nat.div_lt_of_lt_mul (by rw [hp]; exact hx)
  have hr : x % 2 ^ n < 2 ^ n := Nat.mod_lt _ (Nat.two_pow_pos n)
  have e3 : 2 ^ (32 - n) * (x % 2 ^ n) + 2 ^ (32 - n) ≤ 4294967296 := by
    rw [← hp, Nat.mul_comm (2 ^ n), ← Nat.mul_succ]
    exact Nat.mul_le_mul_left _ hr
  have e1 : IntKind.u32.wrap ((x : Int) * 2 ^ (32 - n)) = ((2 ^ (32 - n) * (x % 2 ^ n) : Nat) : Int) := by
    rw [IntKind.wrap_u32, show ((x : Int) * 2 ^ (32 - n)) = ((x * 2 ^ (32 - n) : Nat) : Int) by simp, show (4294967296 : Int) = ((4294967296 : Nat) : Int) from rfl, ← Int.natCast_emod, ← hp, Nat.mul_mod_mul_right, Nat.mul_comm]
  have e2 : (x : Int) / 2 ^ n = ((x / 2 ^ n : Nat) : Int) := by simp
  unfold rotL
  rw [e1, e2, or_u32 _ _ (by omega) (by omega), rotN_parts x n hx hn, Nat.two_pow_add_eq_or_of_lt hq]

/-- Letters as 32-bit words. -/
def castE (s : EightN) : Eight := ⟨s.a, s.b, s.c, s.d, s.e, s.f, s.g, s.h⟩

theorem up_nat (e : Nat) (h : e < 4294967296) : bits .xor .u32 (bits .xor .u32 (rotL e 6) (rotL e 11)) (rotL e 25) = ((upN e : Nat) : Int) := by
  rw [rotL_nat _ _ h (by decide), rotL_nat _ _ h (by decide), rotL_nat _ _ h (by decide), xor_u32 _ _ (rotN_lt _ _) (rotN_lt _ _), xor_u32 _ _ (xor_lt32 (rotN_lt _ _) (rotN_lt _ _)) (rotN_lt _ _)]
  rfl
theorem um_nat (e : Nat) (h : e < 4294967296) : bits .xor .u32 (bits .xor .u32 (rotL e 2) (rotL e 13)) (rotL e 22) = ((upM e : Nat) : Int) := by
  rw [rotL_nat _ _ h (by decide), rotL_nat _ _ h (by decide), rotL_nat _ _ h (by decide), xor_u32 _ _ (rotN_lt _ _) (rotN_lt _ _), xor_u32 _ _ (xor_lt32 (rotN_lt _ _) (rotN_lt _ _)) (rotN_lt _ _)]
  rfl
theorem ch_nat (e f g : Nat) (he : e < 4294967296) (hf : f < 4294967296) (hg : g < 4294967296) : bits .xor .u32 (bits .and .u32 e f) (bits .and .u32 (bits .xor .u32 4294967295 e) g) = ((chN e f g : Nat) : Int) := by
  rw [show (4294967295 : Int) = ((4294967295 : Nat) : Int) from rfl, xor_u32 _ _ (by decide) he, and_u32 _ _ he hf, and_u32 _ _ (xor_lt32 (by decide) he) hg, xor_u32 _ _ (and_lt32 he) (and_lt32 (xor_lt32 (by decide) he))]
  rfl
theorem maj_nat (a b c : Nat) (ha : a < 4294967296) (hb : b < 4294967296) (hc : c < 4294967296) : bits .xor .u32 (bits .xor .u32 (bits .and .u32 a b) (bits .and .u32 a c)) (bits .and .u32 b c) = ((majN a b c : Nat) : Int) := by
  rw [and_u32 _ _ ha hb, and_u32 _ _ ha hc, and_u32 _ _ hb hc, xor_u32 _ _ (and_lt32 ha) (and_lt32 ha), xor_u32 _ _ (xor_lt32 (and_lt32 ha) (and_lt32 ha)) (and_lt32 hb)]
  rfl

theorem eight_ext {s t : Eight} (ha : s.a = t.a) (hb : s.b = t.b) (hc : s.c = t.c) (hd : s.d = t.d) (he : s.e = t.e) (hf : s.f = t.f) (hg : s.g = t.g) (hh : s.h = t.h) : s = t := by
  cases s; cases t; simp_all

theorem turnL_nat (ws : List Int) (s : EightN) (hs : s.Ok) (t k w : Nat) (hk : at0 turnK t = (k : Int)) (hw : at0 ws t = (w : Int)) : turnL ws (castE s) t = castE (turnN k w s) := by
  have e1 := up_nat s.e hs.e
  have e2 := um_nat s.a hs.a
  have e3 := ch_nat s.e s.f s.g hs.e hs.f hs.g
  have e4 := maj_nat s.a s.b s.c hs.a hs.b hs.c
  refine eight_ext ?_ rfl rfl rfl ?_ rfl rfl rfl
  · show ((_ + _ + _ + _ + _) % 4294967296 + (_ + _) % 4294967296) % 4294967296 = (((_ : Nat) % 4294967296 : Nat) : Int)
    simp only [castE] at *
    rw [e1, e2, e3, e4, hk, hw]
    simp only [Int.natCast_emod, Int.natCast_add]
    omega
  · show (_ + (_ + _ + _ + _ + _) % 4294967296) % 4294967296 = (((_ : Nat) % 4294967296 : Nat) : Int)
    simp only [castE] at *
    rw [e1, e3, hk, hw]
    simp only [Int.natCast_emod, Int.natCast_add]
    omega

/-- The standard's words as natural numbers. -/
def turnKN : List Nat := turnK.map Int.toNat
theorem turnK_nat (t : Nat) (h : t < 64) : at0 turnK t = ((turnKN[t]?.getD 0 : Nat) : Int) := by
  have key : (List.range 64).all (fun t => decide (at0 turnK t = ((turnKN[t]?.getD 0 : Nat) : Int))) = true := by decide
  exact of_decide_eq_true (List.all_eq_true.1 key t (List.mem_range.2 h))

/-- All turns so far, on words. -/
def turnsN (w : Nat → Nat) (s : EightN) (k : Nat) : EightN := (List.range k).foldl (fun s t => turnN (turnKN[t]?.getD 0) (w t) s) s
theorem turnsN_zero (w : Nat → Nat) (s : EightN) : turnsN w s 0 = s := rfl
theorem turnsN_succ (w : Nat → Nat) (s : EightN) (k : Nat) : turnsN w s (k + 1) = turnN (turnKN[k]?.getD 0) (w k) (turnsN w s k) := by
  unfold turnsN; rw [List.range_succ, List.foldl_append]; rfl
theorem turnsN_ok {w : Nat → Nat} {s : EightN} (h : s.Ok) (k : Nat) : (turnsN w s k).Ok := by
  induction k with
  | zero => exact h
  | succ k ih => rw [turnsN_succ]; exact turnN_ok ih
theorem turnsL_nat (ws : List Int) (w : Nat → Nat) (hw : ∀ t, t < 64 → at0 ws t = (w t : Int)) (s : EightN) (hs : s.Ok) (k : Nat) (hk : k ≤ 64) : turnsL ws (castE s) k = castE (turnsN w s k) := by
  induction k with
  | zero => rfl
  | succ k ih => rw [turnsL_succ, ih (by omega), turnsN_succ, turnL_nat ws _ (turnsN_ok hs k) k _ _ (turnK_nat k (by omega)) (hw k (by omega))]

/-- The words behind a block. -/
def addN (s t : EightN) : EightN := ⟨(s.a + t.a) % 4294967296, (s.b + t.b) % 4294967296, (s.c + t.c) % 4294967296, (s.d + t.d) % 4294967296, (s.e + t.e) % 4294967296, (s.f + t.f) % 4294967296, (s.g + t.g) % 4294967296, (s.h + t.h) % 4294967296⟩
theorem addN_ok (s t : EightN) : (addN s t).Ok := by constructor <;> exact Nat.mod_lt _ (by decide)
def castL (s : EightN) : List Int := [(s.a : Int), s.b, s.c, s.d, s.e, s.f, s.g, s.h]
theorem addL_nat (s t : EightN) : addL (castL s) (eightL (castE t)) 8 = castL (addN s t) := by
  have e : addL (castL s) (eightL (castE t)) 8 = [((s.a : Int) + t.a) % 4294967296, ((s.b : Int) + t.b) % 4294967296, ((s.c : Int) + t.c) % 4294967296, ((s.d : Int) + t.d) % 4294967296, ((s.e : Int) + t.e) % 4294967296, ((s.f : Int) + t.f) % 4294967296, ((s.g : Int) + t.g) % 4294967296, ((s.h : Int) + t.h) % 4294967296] := rfl
  rw [e]
  simp [castL, addN]
theorem eightOf_nat (s : EightN) : eightOf (castL s) = castE s := rfl
def mixN (w : Nat → Nat) (s : EightN) : EightN := addN s (turnsN w s 64)
theorem mixN_ok (w : Nat → Nat) (s : EightN) : (mixN w s).Ok := addN_ok _ _
theorem mixL_nat (s : EightN) (hs : s.Ok) (blk : List Int) (w : Nat → Nat) (hw : ∀ t, t < 64 → at0 (stretchL blk 48) t = (w t : Int)) : mixL (castL s) blk = castL (mixN w s) := by
  unfold mixL mixN
  rw [eightOf_nat, turnsL_nat _ w hw s hs 64 (by decide), addL_nat]
end Go.Proofs.YtdjfcackiclepaaDoor
