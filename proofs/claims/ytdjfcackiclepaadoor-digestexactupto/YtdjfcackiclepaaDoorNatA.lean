/-
  PLAIN: the digest's words as natural numbers; the laws that bring 32-bit words and 64-bit words to them.
-/
import Derived.Test.YtdjfcackiclepaaDoorBase
import Derived.Laws.BitsLemmas
import Derived.Laws.Bits64
import Derived.Laws.Bits64b
namespace Go.Proofs.YtdjfcackiclepaaDoor

/-- A word turned to the right. -/
def rotN (x n : Nat) : Nat := x * 4294967297 / 2 ^ n % 4294967296

theorem rotN_lt (x n : Nat) : rotN x n < 4294967296 := Nat.mod_lt _ (by decide)

theorem rotN_parts (x n : Nat) (hx : x < 4294967296) (hn : n ≤ 32) : rotN x n = 2 ^ (32 - n) * (x % 2 ^ n) + x / 2 ^ n := by
  have hp : 2 ^ n * 2 ^ (32 - n) = 4294967296 := by rw [← Nat.pow_add, show n + (32 - n) = 32 by omega]
  have h0 : 0 < 2 ^ n := Nat.two_pow_pos n
  have h1 : 0 < 2 ^ (32 - n) := Nat.two_pow_pos _
  have hq : x / 2 ^ n < 2 ^ (32 - n) := Nat.div_lt_of_lt_mul (by rw [hp]; exact hx)
  have hr : x % 2 ^ n < 2 ^ n := Nat.mod_lt _ h0
  have hd := Nat.div_add_mod x (2 ^ n)
  unfold rotN
  have e1 : x * 4294967297 = x + 2 ^ n * (2 ^ (32 - n) * x) := by
    rw [← Nat.mul_assoc, hp]; omega
  rw [e1, Nat.add_mul_div_left _ _ h0]
  have e2 : x / 2 ^ n + 2 ^ (32 - n) * x = (2 ^ (32 - n) * (x % 2 ^ n) + x / 2 ^ n) + 4294967296 * (x / 2 ^ n) := by
    have e4 : 2 ^ (32 - n) * x = 2 ^ (32 - n) * (2 ^ n * (x / 2 ^ n)) + 2 ^ (32 - n) * (x % 2 ^ n) := by rw [← Nat.mul_add, hd]
    have e5 : 2 ^ (32 - n) * (2 ^ n * (x / 2 ^ n)) = 4294967296 * (x / 2 ^ n) := by rw [← Nat.mul_assoc, Nat.mul_comm (2 ^ (32 - n)), hp]
    omega
  rw [e2, Nat.add_mul_mod_self_left]
  refine Nat.mod_eq_of_lt ?_
  have e3 : 2 ^ (32 - n) * (x % 2 ^ n) + 2 ^ (32 - n) ≤ 4294967296 := by
    rw [← hp, Nat.mul_comm (2 ^ n), ← Nat.mul_succ]
    exact Nat.mul_le_mul_left _ hr
  omega

theorem wraps_u32 (n : Int) (h₀ : 0 ≤ n) (h₁ : n < 2 ^ 32) : IntKind.u32.wrap n = n := by rw [IntKind.wrap_u32]; omega

theorem xor_u32 (a b : Nat) (ha : a < 4294967296) (hb : b < 4294967296) : bits .xor .u32 (a : Int) (b : Int) = ((a ^^^ b : Nat) : Int) := by
  have hx : a ^^^ b < 2 ^ 32 := Nat.xor_lt_two_pow (by omega) (by omega)
  have h1 : (BitVec.ofInt 32 (a : Int)).toNat = a := by
    rw [BitVec.ofInt_natCast, BitVec.toNat_ofNat]; exact Nat.mod_eq_of_lt (by omega)
  have h2 : (BitVec.ofInt 32 (b : Int)).toNat = b := by
    rw [BitVec.ofInt_natCast, BitVec.toNat_ofNat]; exact Nat.mod_eq_of_lt (by omega)
  show IntKind.u32.wrap ((BitVec.ofInt 32 (a : Int) ^^^ BitVec.ofInt 32 (b : Int)).toNat : Int) = _
  rw [BitVec.toNat_xor, h1, h2, IntKind.wrap_u32]
  omega
theorem and_u32 (a b : Nat) (ha : a < 4294967296) (hb : b < 4294967296) : bits .and .u32 (a : Int) (b : Int) = ((a &&& b : Nat) : Int) :=
  (bits_nat .u32 32 (by decide) wraps_u32 a b ha hb).1
theorem or_u32 (a b : Nat) (ha : a < 4294967296) (hb : b < 4294967296) : bits .or .u32 (a : Int) (b : Int) = ((a ||| b : Nat) : Int) :=
  (bits_nat .u32 32 (by decide) wraps_u32 a b ha hb).2
theorem xor_lt32 {a b : Nat} (ha : a < 4294967296) (hb : b < 4294967296) : a ^^^ b < 4294967296 := Nat.xor_lt_two_pow (n := 32) ha hb
theorem and_lt32 {a b : Nat} (ha : a < 4294967296) : a &&& b < 4294967296 := Nat.lt_of_le_of_lt Nat.and_le_left ha

/-- The rounds' words. -/
structure EightN where
  a : Nat
  b : Nat
  c : Nat
  d : Nat
  e : Nat
  f : Nat
  g : Nat
  h : Nat
structure EightN.Ok (s : EightN) : Prop where
  a : s.a < 4294967296
  b : s.b < 4294967296
  c : s.c < 4294967296
  d : s.d < 4294967296
  e : s.e < 4294967296
  f : s.f < 4294967296
  g : s.g < 4294967296
  h : s.h < 4294967296

def upN (e : Nat) : Nat := rotN e 6 ^^^ rotN e 11 ^^^ rotN e 25
def upM (a : Nat) : Nat := rotN a 2 ^^^ rotN a 13 ^^^ rotN a 22
def chN (e f g : Nat) : Nat := (e &&& f) ^^^ ((4294967295 ^^^ e) &&& g)
def majN (a b c : Nat) : Nat := (a &&& b) ^^^ (a &&& c) ^^^ (b &&& c)
theorem upN_lt (e : Nat) : upN e < 4294967296 := xor_lt32 (xor_lt32 (rotN_lt _ _) (rotN_lt _ _)) (rotN_lt _ _)
theorem upM_lt (e : Nat) : upM e < 4294967296 := xor_lt32 (xor_lt32 (rotN_lt _ _) (rotN_lt _ _)) (rotN_lt _ _)
theorem chN_lt {e f g : Nat} (he : e < 4294967296) : chN e f g < 4294967296 := xor_lt32 (and_lt32 he) (and_lt32 (xor_lt32 (by decide) he))
theorem majN_lt {a b c : Nat} (ha : a < 4294967296) (hb : b < 4294967296) : majN a b c < 4294967296 := xor_lt32 (xor_lt32 (and_lt32 ha) (and_lt32 ha)) (and_lt32 hb)

/-- One turn. -/
def turnN (k w : Nat) (s : EightN) : EightN :=
  ⟨(s.h + upN s.e + chN s.e s.f s.g + k + w + (upM s.a + majN s.a s.b s.c)) % 4294967296, s.a, s.b, s.c, (s.d + (s.h + upN s.e + chN s.e s.f s.g + k + w)) % 4294967296, s.e, s.f, s.g⟩
theorem turnN_ok {k w : Nat} {s : EightN} (h : s.Ok) : (turnN k w s).Ok :=
  ⟨Nat.mod_lt _ (by decide), h.a, h.b, h.c, Nat.mod_lt _ (by decide), h.e, h.f, h.g⟩

/-- One word more of the sixty-four. -/
def lowN (x : Nat) : Nat := rotN x 7 ^^^ rotN x 18 ^^^ (x / 8)
def highN (y : Nat) : Nat := rotN y 17 ^^^ rotN y 19 ^^^ (y / 1024)
theorem lowN_lt {x : Nat} (h : x < 4294967296) : lowN x < 4294967296 := xor_lt32 (xor_lt32 (rotN_lt _ _) (rotN_lt _ _)) (by omega)
theorem highN_lt {x : Nat} (h : x < 4294967296) : highN x < 4294967296 := xor_lt32 (xor_lt32 (rotN_lt _ _) (rotN_lt _ _)) (by omega)
end Go.Proofs.YtdjfcackiclepaaDoor
