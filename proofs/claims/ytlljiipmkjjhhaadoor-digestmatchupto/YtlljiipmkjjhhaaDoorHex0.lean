/-
  PLAIN: digits there and back.
  WALKS: digest.half, digest.value, satchellaw2.small, for every id and letter.
-/
import Derived.Test.YtlljiipmkjjhhaaDoorHex1
namespace Go.Proofs.YtlljiipmkjjhhaaDoor
open Go.RowKit

/-- The value of a digit, and whether it is one. -/
def valL (c : Int) : Int := if 48 ≤ c ∧ c ≤ 57 then c - 48 else if 97 ≤ c ∧ c ≤ 102 then c - 87 else 0
def isDigit (c : Int) : Prop := 48 ≤ c ∧ c ≤ 57 ∨ 97 ≤ c ∧ c ≤ 102
instance (c : Int) : Decidable (isDigit c) := inferInstanceAs (Decidable (48 ≤ c ∧ c ≤ 57 ∨ 97 ≤ c ∧ c ≤ 102))

/-- What the digit at place i of the first k adds; the id that the first k digits begin. -/
def vAt (ds : List Int) (k i : Nat) : Int := if i < k then valL (ds[i]?.getD 0) else 0
def begL (ds : List Int) (k : Nat) : List Int := (List.range 32).map fun j => 16 * vAt ds k (2 * j) + vAt ds k (2 * j + 1)

theorem begL_len (ds : List Int) (k : Nat) : (begL ds k).length = 32 := by simp [begL]
theorem begL_get (ds : List Int) (k j : Nat) (h : j < 32) : (begL ds k)[j]?.getD 0 = 16 * vAt ds k (2 * j) + vAt ds k (2 * j + 1) := by
  unfold begL
  rw [List.getElem?_map, List.getElem?_range h]
  rfl
theorem valL_fits (c : Int) : 0 ≤ valL c ∧ valL c < 16 := by unfold valL; split <;> (try split) <;> omega
theorem vAt_fits (ds : List Int) (k i : Nat) : 0 ≤ vAt ds k i ∧ vAt ds k i < 16 := by
  unfold vAt
  split
  · exact valL_fits _
  · omega
theorem begL_zero (ds : List Int) : begL ds 0 = zero32 := by
  unfold begL vAt zero32
  simp
  rfl
theorem begL_succ (ds : List Int) (k : Nat) (h : k < 64) :
    begL ds (k + 1) = (begL ds k).set (k / 2) ((begL ds k)[k / 2]?.getD 0 + (if k % 2 = 0 then 16 * valL (ds[k]?.getD 0) else valL (ds[k]?.getD 0))) := by
  apply List.ext_getElem?
  intro j
  by_cases hj : j < 32
  · have e1 : (begL ds (k + 1))[j]? = some (16 * vAt ds (k + 1) (2 * j) + vAt ds (k + 1) (2 * j + 1)) := by
      unfold begL; rw [List.getElem?_map, List.getElem?_range hj]; rfl
    have e2 : (begL ds k)[j]? = some (16 * vAt ds k (2 * j) + vAt ds k (2 * j + 1)) := by
      unfold begL; rw [List.getElem?_map, List.getElem?_range hj]; rfl
    rw [e1, List.getElem?_set, begL_len, begL_get ds k (k / 2) (by omega), e2]
    by_cases hk : k / 2 = j
    · subst hk
      rw [if_pos rfl, if_pos (by omega)]
      congr 1
      by_cases hp : k % 2 = 0
      · rw [if_pos hp]
        have a : 2 * (k / 2) = k := by omega
        unfold vAt
        rw [a, if_pos (by omega), if_neg (by omega), if_neg (by omega), if_neg (by omega)]
        omega
      · rw [if_neg hp]
        have a : 2 * (k / 2) + 1 = k := by omega
        unfold vAt
        rw [a, if_pos (by omega), if_pos (by omega), if_pos (by omega), if_neg (by omega)]
        omega
    · rw [if_neg hk]
      congr 1
      unfold vAt
      have a1 : (2 * j < k + 1) = (2 * j < k) := by apply propext; omega
      have a2 : (2 * j + 1 < k + 1) = (2 * j + 1 < k) := by apply propext; omega
      simp only [a1, a2]
  · rw [List.getElem?_eq_none (by rw [begL_len]; omega), List.getElem?_eq_none (by rw [List.length_set, begL_len]; omega)]
theorem begL_octs (ds : List Int) (k : Nat) : Octs (begL ds k) := by
  intro u hu
  unfold begL at hu
  obtain ⟨j, _, rfl⟩ := List.mem_map.1 hu
  have h1 := vAt_fits ds k (2 * j)
  have h2 := vAt_fits ds k (2 * j + 1)
  constructor <;> omega
theorem digit_is (n : Int) (h0 : 0 ≤ n) (h1 : n < 16) : isDigit (digitL n) ∧ valL (digitL n) = n ∧ 0 ≤ digitL n ∧ digitL n ≤ 255 := by
  unfold digitL
  split
  · refine ⟨Or.inl (by omega), ?_, by omega, by omega⟩
    unfold valL
    rw [if_pos (by omega)]
    omega
  · refine ⟨Or.inr (by omega), ?_, by omega, by omega⟩
    unfold valL
    rw [if_neg (by omega), if_pos (by omega)]
    omega
theorem hexL_mem (bs : List Int) (ho : Octs bs) : ∀ c ∈ hexL bs, isDigit c ∧ 0 ≤ c ∧ c ≤ 255 := by
  intro c hc
  unfold hexL at hc
  obtain ⟨k, _, rfl⟩ := List.mem_map.1 hc
  have h := halfL_fits bs ho k
  have h2 := digit_is _ h.1 h.2
  exact ⟨h2.1, h2.2.2⟩
end Go.Proofs.YtlljiipmkjjhhaaDoor

namespace Go.Proofs.YtlljiipmkjjhhaaDoor
open Go.RowKit

set_option maxHeartbeats 1000000 in
theorem small_any (c : Int) (w : World) (h0 : 0 ≤ c) (h1 : c ≤ 255) :
    Calls Tryd.prog 8 #[.int .u8 c] w fun e w' => e = .returned (.bool (decide (isDigit c))) ∧ w' = w := by
  by_cases a1 : 48 ≤ c
  · by_cases a2 : c ≤ 57
    · rw [decide_eq_true (show isDigit c by unfold isDigit; omega)]
      go_enter Tryd.func8, Tryd.ntmps8
      go_wp2
      go_ret
      exact ⟨rfl, rfl⟩
    · by_cases a3 : 97 ≤ c
      · by_cases a4 : c ≤ 102
        · rw [decide_eq_true (show isDigit c by unfold isDigit; omega)]
          go_enter Tryd.func8, Tryd.ntmps8
          go_wp2
          go_ret
          exact ⟨rfl, rfl⟩
        · rw [decide_eq_false (show ¬ isDigit c by unfold isDigit; omega)]
          go_enter Tryd.func8, Tryd.ntmps8
          go_wp2
          go_ret
          exact ⟨rfl, rfl⟩
      · rw [decide_eq_false (show ¬ isDigit c by unfold isDigit; omega)]
        go_enter Tryd.func8, Tryd.ntmps8
        go_wp2
        go_ret
        exact ⟨rfl, rfl⟩
  · have a3 : ¬ 97 ≤ c := by omega
    rw [decide_eq_false (show ¬ isDigit c by unfold isDigit; omega)]
    go_enter Tryd.func8, Tryd.ntmps8
    go_wp2
    go_ret
    exact ⟨rfl, rfl⟩

set_option maxHeartbeats 1000000 in
theorem value_any (c : Int) (w : World) (h0 : 0 ≤ c) (h1 : c ≤ 255) :
    Calls Tryd.prog 32 #[.int .u8 c] w fun e w' => e = .returned (.tuple #[.int .u8 (valL c), .bool (decide (isDigit c))]) ∧ w' = w := by
  by_cases a1 : 48 ≤ c ∧ c ≤ 57
  · rw [show valL c = c - 48 from if_pos a1, decide_eq_true (show isDigit c from Or.inl a1)]
    obtain ⟨a1, a2⟩ := a1
    have r1 : IntKind.u8.wrap (c - 48) = c - 48 := by rw [IntKind.wrap_u8']; omega
    go_enter Tryd.func32, Tryd.ntmps32
    go_wp2
    exact bodyPost_ret (v := .tuple #[.int .u8 (c - 48), .bool true]) (by simp [results, Tryd.results32, go_sem]) rfl ⟨rfl, rfl⟩
  · by_cases a3 : 97 ≤ c ∧ c ≤ 102
    · rw [show valL c = c - 87 from (if_neg a1).trans (if_pos a3), decide_eq_true (show isDigit c from Or.inr a3)]
      obtain ⟨a3, a4⟩ := a3
      have a2 : ¬ c ≤ 57 := by omega
      have a5 : 48 ≤ c := by omega
      have r1 : IntKind.u8.wrap (c - 97) = c - 97 := by rw [IntKind.wrap_u8']; omega
      have r2 : IntKind.u8.wrap (c - 97 + 10) = c - 87 := by rw [IntKind.wrap_u8']; omega
      clear a1
      go_enter Tryd.func32, Tryd.ntmps32
      go_wp2
      exact bodyPost_ret (v := .tuple #[.int .u8 (c - 87), .bool true]) (by simp [results, Tryd.results32, go_sem]) rfl ⟨rfl, rfl⟩
    · rw [show valL c = 0 from (if_neg a1).trans (if_neg a3), decide_eq_false (show ¬ isDigit c by unfold isDigit; omega)]
      by_cases a5 : 48 ≤ c
      · have a2 : ¬ c ≤ 57 := fun h => a1 ⟨a5, h⟩
        by_cases a6 : 97 ≤ c
        · have a4 : ¬ c ≤ 102 := fun h => a3 ⟨a6, h⟩
          clear a1 a3
          go_enter Tryd.func32, Tryd.ntmps32
          go_wp2
          exact bodyPost_ret (v := .tuple #[.int .u8 (0), .bool false]) (by simp [results, Tryd.results32, go_sem]) rfl ⟨rfl, rfl⟩
        · clear a1 a3
          go_enter Tryd.func32, Tryd.ntmps32
          go_wp2
          exact bodyPost_ret (v := .tuple #[.int .u8 (0), .bool false]) (by simp [results, Tryd.results32, go_sem]) rfl ⟨rfl, rfl⟩
      · have a6 : ¬ 97 ≤ c := by omega
        clear a1 a3
        go_enter Tryd.func32, Tryd.ntmps32
        go_wp2
        exact bodyPost_ret (v := .tuple #[.int .u8 (0), .bool false]) (by simp [results, Tryd.results32, go_sem]) rfl ⟨rfl, rfl⟩
end Go.Proofs.YtlljiipmkjjhhaaDoor
