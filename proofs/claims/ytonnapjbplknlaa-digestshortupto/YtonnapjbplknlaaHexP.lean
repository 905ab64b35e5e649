/-
  PLAIN: digits there and back.
-/
import Derived.Test.YtonnapjbplknlaaHex1
namespace Go.Proofs.Ytonnapjbplknlaa
open Go.RowKit

/-- The value of a digit, and whether it is one. -/
def valL (c : Int) : Int := if 48 ≤ c ∧ c ≤ 57 then c - 48 else if 97 ≤ c ∧ c ≤ 102 then c - 87 else 0
def isDigit (c : Int) : Prop := 48 ≤ c ∧ c ≤ 57 ∨ 97 ≤ c ∧ c ≤ 102
instance (c : Int) : Decidable (isDigit c) := inferInstanceAs (Decidable (48 ≤ c ∧ c ≤ 57 ∨ 97 ≤ c ∧ c ≤ 102))

/-- The zero id's bytes. -/
def zero32 : List Int := List.replicate 32 0
/-- What the digit at place i of the first k adds; the id that the first k digits begin. -/
def vAt (ds : List Int) (k i : Nat) : Int := if i < k then valL (ds[i]?.getD 0) else 0
def begL (ds : List Int) (k : Nat) : List Int := (List.range 32).map fun j => 16 * vAt ds k (2 * j) + vAt ds k (2 * j + 1)

theorem begL_len (ds : List Int) (k : Nat) : (begL ds k).length = 32 := by simp [begL]
theorem begL_get (ds : List Int) (k j : Nat) (h : j < 32) : (begL ds k)[j]?.getD 0 = 16 * vAt ds k (2 * j) + vAt ds k (2 * j + 1) := by
  unfold begL
  rw [List.getElem?_map, List.getElem?_range h]
  rfl
theorem valL_fits (c : Int) : 0 ≤ valL c ∧ valL c < 16 := by unfold valL; split <;> (try split) <;> omega
theorem vAt_fits (ds : List Int) (k i : Nat) : 0 ≤ vAt ds k i ∧ vAt ds k i < 16 := by
  unfold vAt
  split
  · exact valL_fits _
  · omega
theorem begL_zero (ds : List Int) : begL ds 0 = zero32 := by
  unfold begL vAt zero32
  simp
  rfl
theorem begL_succ (ds : List Int) (k : Nat) (h : k < 64) :
    begL ds (k + 1) = (begL ds k).set (k / 2) ((begL ds k)[k / 2]?.getD 0 + (if k % 2 = 0 then 16 * valL (ds[k]?.getD 0) else valL (ds[k]?.getD 0))) := by
  apply List.ext_getElem?
  intro j
  by_cases hj : j < 32
  · have e1 : (begL ds (k + 1))[j]? = some (16 * vAt ds (k + 1) (2 * j) + vAt ds (k + 1) (2 * j + 1)) := by
      unfold begL; rw [List.getElem?_map, List.getElem?_range hj]; rfl
    have e2 : (begL ds k)[j]? = some (16 * vAt ds k (2 * j) + vAt ds k (2 * j + 1)) := by
      unfold begL; rw [List.getElem?_map, List.getElem?_range hj]; rfl
    rw [e1, List.getElem?_set, begL_len, begL_get ds k (k / 2) (by omega), e2]
    by_cases hk : k / 2 = j
    · subst hk
      rw [if_pos rfl, if_pos (by omega)]
      congr 1
      by_cases hp : k % 2 = 0
      · rw [if_pos hp]
        have a : 2 * (k / 2) = k := by omega
        unfold vAt
        rw [a, if_pos (by omega), if_neg (by omega), if_neg (by omega), if_neg (by omega)]
        omega
      · rw [if_neg hp]
        have a : 2 * (k / 2) + 1 = k := by omega
        unfold vAt
        rw [a, if_pos (by omega), if_pos (by omega), if_pos (by omega), if_neg (by omega)]
        omega
    · rw [if_neg hk]
      congr 1
      unfold vAt
      have a1 : (2 * j < k + 1) = (2 * j < k) := by apply propext; omega
      have a2 : (2 * j + 1 < k + 1) = (2 * j + 1 < k) := by apply propext; omega
      simp only [a1, a2]
  · rw [List.getElem?_eq_none (by rw [begL_len]; omega), List.getElem?_eq_none (by rw [List.length_set, begL_len]; omega)]
theorem begL_octs (ds : List Int) (k : Nat) : Octs (begL ds k) := by
  intro u hu
  unfold begL at hu
  obtain ⟨j, _, rfl⟩ := List.mem_map.1 hu
  have h1 := vAt_fits ds k (2 * j)
  have h2 := vAt_fits ds k (2 * j + 1)
  constructor <;> omega
theorem digit_is (n : Int) (h0 : 0 ≤ n) (h1 : n < 16) : isDigit (digitL n) ∧ valL (digitL n) = n ∧ 0 ≤ digitL n ∧ digitL n ≤ 255 := by
  unfold digitL
  split
  · refine ⟨Or.inl (by omega), ?_, by omega, by omega⟩
    unfold valL
    rw [if_pos (by omega)]
    omega
  · refine ⟨Or.inr (by omega), ?_, by omega, by omega⟩
    unfold valL
    rw [if_neg (by omega), if_pos (by omega)]
    omega
theorem digit_back (c : Int) (h : isDigit c) : digitL (valL c) = c := by
  rcases h with h | h
  · unfold valL digitL
    rw [if_pos h, if_pos (by omega)]
    omega
  · unfold valL digitL
    rw [if_neg (by omega), if_pos h, if_neg (by omega)]
    omega
theorem hexL_mem (bs : List Int) (ho : Octs bs) : ∀ c ∈ hexL bs, isDigit c ∧ 0 ≤ c ∧ c ≤ 255 := by
  intro c hc
  unfold hexL at hc
  obtain ⟨k, _, rfl⟩ := List.mem_map.1 hc
  have h := halfL_fits bs ho k
  have h2 := digit_is _ h.1 h.2
  exact ⟨h2.1, h2.2.2⟩
theorem beg_hex (bs : List Int) (hl : bs.length = 32) (ho : Octs bs) : begL (hexL bs) 64 = bs := by
  apply List.ext_getElem?
  intro j
  by_cases hj : j < 32
  · unfold begL
    rw [List.getElem?_map, List.getElem?_range hj, List.getElem?_eq_getElem (show j < bs.length by omega)]
    simp only [Option.map_some]
    congr 1
    unfold vAt
    rw [if_pos (by omega), if_pos (by omega), hexL_get bs (2 * j) (by omega), hexL_get bs (2 * j + 1) (by omega)]
    have h1 := halfL_fits bs ho (2 * j)
    have h2 := halfL_fits bs ho (2 * j + 1)
    rw [(digit_is _ h1.1 h1.2).2.1, (digit_is _ h2.1 h2.2).2.1]
    unfold halfL
    rw [if_pos (by omega), if_neg (by omega), show 2 * j / 2 = j by omega, show (2 * j + 1) / 2 = j by omega, List.getElem?_eq_getElem (show j < bs.length by omega)]
    have := ho bs[j] (List.getElem_mem _)
    simp only [Option.getD_some]
    omega
  · rw [List.getElem?_eq_none (by rw [begL_len]; omega), List.getElem?_eq_none (by omega)]
theorem hex_beg (ds : List Int) (hl : ds.length = 64) (hd : ∀ c ∈ ds, isDigit c) : hexL (begL ds 64) = ds := by
  apply List.ext_getElem?
  intro k
  by_cases hk : k < 64
  · have e1 : (hexL (begL ds 64))[k]? = some (digitL (halfL (begL ds 64) k)) := by
      unfold hexL; rw [List.getElem?_map, List.getElem?_range hk]; rfl
    rw [e1, List.getElem?_eq_getElem (show k < ds.length by omega)]
    congr 1
    have h1 := vAt_fits ds 64 (2 * (k / 2))
    have h2 := vAt_fits ds 64 (2 * (k / 2) + 1)
    have hg := begL_get ds 64 (k / 2) (by omega)
    have e2 : halfL (begL ds 64) k = vAt ds 64 k := by
      unfold halfL
      rw [hg]
      by_cases hp : k % 2 = 0
      · rw [if_pos hp, show 2 * (k / 2) = k by omega]
        rw [show 2 * (k / 2) = k by omega] at h1 h2
        omega
      · rw [if_neg hp]
        have a : 2 * (k / 2) + 1 = k := by omega
        rw [a] at h2 ⊢
        omega
    rw [e2]
    unfold vAt
    rw [if_pos hk, List.getElem?_eq_getElem (show k < ds.length by omega)]
    exact digit_back _ (hd _ (List.getElem_mem _))
  · rw [List.getElem?_eq_none (by rw [hexL_len]; omega), List.getElem?_eq_none (by omega)]
end Go.Proofs.Ytonnapjbplknlaa
