/-
  WALKS: digest.half, digest.value, satchellaw2.small, for every id and letter.
-/
import Derived.Test.YtnnbfdnkpohnfaaTake
import Derived.Laws.BytesArg
namespace Go.Proofs.Ytnnbfdnkpohnfaa
open Go.RowKit

/-- An id as a value. -/
def idC (bs : List Int) : Array Value := (bs.map (Value.int .u8)).toArray
/-- The number of the digit at place k. -/
def halfL (bs : List Int) (k : Nat) : Int := if k % 2 = 0 then (bs[k / 2]?.getD 0) / 16 else (bs[k / 2]?.getD 0) % 16

theorem idC_get {bs : List Int} {j : Nat} (h : j < bs.length) : (idC bs)[j]? = some (.int .u8 (bs[j]?.getD 0)) := by
  unfold idC
  rw [← Array.getElem?_toList]
  simp [List.getElem?_eq_getElem h]
theorem and15 (m : Int) (h0 : 0 ≤ m) (h1 : m ≤ 255) : bits .and .u8 m 15 = m % 16 := by
  obtain ⟨n, rfl⟩ : ∃ n : Nat, m = (n : Int) := ⟨m.toNat, by omega⟩
  have h := u8_and_nat n 15 (by omega) (by decide)
  rw [show ((15 : Nat) : Int) = 15 from rfl] at h
  rw [h, show (15 : Nat) = 2 ^ 4 - 1 from rfl, Nat.and_two_pow_sub_one_eq_mod]
  omega

set_option maxHeartbeats 1000000 in
theorem half_any (bs : List Int) (w : World) (hl : bs.length = 32) (ho : Octs bs) (k : Nat) (hk : k < 64) :
    Calls Try.prog 59 #[.agg (idC bs), .int .i64 k] w fun e w' => e = .returned (.int .u8 (halfL bs k)) ∧ Kept [] w w' := by
  have g1 := idC_get (bs := bs) (j := k / 2) (by omega)
  have hz := octs_getD ho (k / 2)
  have r1 : Int.tmod (k : Int) 2 = ((k % 2 : Nat) : Int) := by rw [Int.tmod_eq_emod_of_nonneg (by omega)]; omega
  have r2 : Int.tdiv (k : Int) 2 = ((k / 2 : Nat) : Int) := by rw [Int.tdiv_eq_ediv_of_nonneg (by omega)]; omega
  have hv : halfL bs k = if k % 2 = 0 then (bs[k / 2]?.getD 0) / 16 else (bs[k / 2]?.getD 0) % 16 := rfl
  rw [hv]
  have j0 : k / 2 < 32 := by omega
  generalize bs[k / 2]?.getD 0 = z at *
  have a15 := and15 z hz.1 hz.2
  generalize k / 2 = j at *
  have i1 : (0 : Int) ≤ (j : Int) := by omega
  have i2 : (j : Int) < 32 := by omega
  generalize idC bs = cs at *
  by_cases hp : k % 2 = 0
  · rw [if_pos hp]
    rw [hp] at r1
    go_enter Try.func59, Try.ntmps59
    go_wp2
    go_ret
    exact ⟨rfl, (Kept.refl _ _).alloc _⟩
  · rw [if_neg hp]
    rw [show k % 2 = 1 by omega] at r1
    go_enter Try.func59, Try.ntmps59
    go_wp2
    go_ret
    exact ⟨rfl, (Kept.refl _ _).alloc _⟩

/-- The value of a digit, and whether it is one. -/
def valL (c : Int) : Int := if 48 ≤ c ∧ c ≤ 57 then c - 48 else if 97 ≤ c ∧ c ≤ 102 then c - 87 else 0
def isDigit (c : Int) : Prop := 48 ≤ c ∧ c ≤ 57 ∨ 97 ≤ c ∧ c ≤ 102
instance (c : Int) : Decidable (isDigit c) := inferInstanceAs (Decidable (48 ≤ c ∧ c ≤ 57 ∨ 97 ≤ c ∧ c ≤ 102))

set_option maxHeartbeats 1000000 in
theorem small_any (c : Int) (w : World) (h0 : 0 ≤ c) (h1 : c ≤ 255) :
    Calls Try.prog 32 #[.int .u8 c] w fun e w' => e = .returned (.bool (decide (isDigit c))) ∧ w' = w := by
  by_cases a1 : 48 ≤ c
  · by_cases a2 : c ≤ 57
    · rw [decide_eq_true (show isDigit c by unfold isDigit; omega)]
      go_enter Try.func32, Try.ntmps32
      go_wp2
      go_ret
      exact ⟨rfl, rfl⟩
    · by_cases a3 : 97 ≤ c
      · by_cases a4 : c ≤ 102
        · rw [decide_eq_true (show isDigit c by unfold isDigit; omega)]
          go_enter Try.func32, Try.ntmps32
          go_wp2
          go_ret
          exact ⟨rfl, rfl⟩
        · rw [decide_eq_false (show ¬ isDigit c by unfold isDigit; omega)]
          go_enter Try.func32, Try.ntmps32
          go_wp2
          go_ret
          exact ⟨rfl, rfl⟩
      · rw [decide_eq_false (show ¬ isDigit c by unfold isDigit; omega)]
        go_enter Try.func32, Try.ntmps32
        go_wp2
        go_ret
        exact ⟨rfl, rfl⟩
  · have a3 : ¬ 97 ≤ c := by omega
    rw [decide_eq_false (show ¬ isDigit c by unfold isDigit; omega)]
    go_enter Try.func32, Try.ntmps32
    go_wp2
    go_ret
    exact ⟨rfl, rfl⟩

set_option maxHeartbeats 1000000 in
theorem value_any (c : Int) (w : World) (h0 : 0 ≤ c) (h1 : c ≤ 255) :
    Calls Try.prog 84 #[.int .u8 c] w fun e w' => e = .returned (.tuple #[.int .u8 (valL c), .bool (decide (isDigit c))]) ∧ w' = w := by
  by_cases a1 : 48 ≤ c ∧ c ≤ 57
  · rw [show valL c = c - 48 from if_pos a1, decide_eq_true (show isDigit c from Or.inl a1)]
    obtain ⟨a1, a2⟩ := a1
    have r1 : IntKind.u8.wrap (c - 48) = c - 48 := by rw [IntKind.wrap_u8']; omega
    go_enter Try.func84, Try.ntmps84
    go_wp2
    exact bodyPost_ret (v := .tuple #[.int .u8 (c - 48), .bool true]) (by simp [results, Try.results84, go_sem]) rfl ⟨rfl, rfl⟩
  · by_cases a3 : 97 ≤ c ∧ c ≤ 102
    · rw [show valL c = c - 87 from (if_neg a1).trans (if_pos a3), decide_eq_true (show isDigit c from Or.inr a3)]
      obtain ⟨a3, a4⟩ := a3
      have a2 : ¬ c ≤ 57 := by omega
      have a5 : 48 ≤ c := by omega
      have r1 : IntKind.u8.wrap (c - 97) = c - 97 := by rw [IntKind.wrap_u8']; omega
      have r2 : IntKind.u8.wrap (c - 97 + 10) = c - 87 := by rw [IntKind.wrap_u8']; omega
      clear a1
      go_enter Try.func84, Try.ntmps84
      go_wp2
      exact bodyPost_ret (v := .tuple #[.int .u8 (c - 87), .bool true]) (by simp [results, Try.results84, go_sem]) rfl ⟨rfl, rfl⟩
    · rw [show valL c = 0 from (if_neg a1).trans (if_neg a3), decide_eq_false (show ¬ isDigit c by unfold isDigit; omega)]
      by_cases a5 : 48 ≤ c
      · have a2 : ¬ c ≤ 57 := fun h => a1 ⟨a5, h⟩
        by_cases a6 : 97 ≤ c
        · have a4 : ¬ c ≤ 102 := fun h => a3 ⟨a6, h⟩
          clear a1 a3
          go_enter Try.func84, Try.ntmps84
          go_wp2
          exact bodyPost_ret (v := .tuple #[.int .u8 (0), .bool false]) (by simp [results, Try.results84, go_sem]) rfl ⟨rfl, rfl⟩
        · clear a1 a3
          go_enter Try.func84, Try.ntmps84
          go_wp2
          exact bodyPost_ret (v := .tuple #[.int .u8 (0), .bool false]) (by simp [results, Try.results84, go_sem]) rfl ⟨rfl, rfl⟩
      · have a6 : ¬ 97 ≤ c := by omega
        clear a1 a3
        go_enter Try.func84, Try.ntmps84
        go_wp2
        exact bodyPost_ret (v := .tuple #[.int .u8 (0), .bool false]) (by simp [results, Try.results84, go_sem]) rfl ⟨rfl, rfl⟩
end Go.Proofs.Ytnnbfdnkpohnfaa
