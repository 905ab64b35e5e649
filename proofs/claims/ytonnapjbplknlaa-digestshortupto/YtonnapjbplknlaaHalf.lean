/-
  WALK: digest.half, for every id.
-/
import Derived.Test.YtonnapjbplknlaaU8
import Derived.Test.YtonnapjbplknlaaPlain
import Derived.Laws.BytesArg
namespace Go.Proofs.Ytonnapjbplknlaa
open Go.RowKit

/-- An id as a value. -/
def idC (bs : List Int) : Array Value := (bs.map (Value.int .u8)).toArray
/-- The number of the digit at place k. -/
def halfL (bs : List Int) (k : Nat) : Int := if k % 2 = 0 then (bs[k / 2]?.getD 0) / 16 else (bs[k / 2]?.getD 0) % 16

theorem idC_get {bs : List Int} {j : Nat} (h : j < bs.length) : (idC bs)[j]? = some (.int .u8 (bs[j]?.getD 0)) := by
  unfold idC
  rw [← Array.getElem?_toList]
  simp [List.getElem?_eq_getElem h]
theorem and15 (m : Int) (h0 : 0 ≤ m) (h1 : m ≤ 255) : bits .and .u8 m 15 = m % 16 := by
  obtain ⟨n, rfl⟩ : ∃ n : Nat, m = (n : Int) := ⟨m.toNat, by omega⟩
  have h := u8_and_nat n 15 (by omega) (by decide)
  rw [show ((15 : Nat) : Int) = 15 from rfl] at h
  rw [h, show (15 : Nat) = 2 ^ 4 - 1 from rfl, Nat.and_two_pow_sub_one_eq_mod]
  omega

set_option maxHeartbeats 1000000 in
theorem half_any (bs : List Int) (w : World) (hl : bs.length = 32) (ho : Octs bs) (k : Nat) (hk : k < 64) :
    Calls Try.prog 11 #[.agg (idC bs), .int .i64 k] w fun e w' => e = .returned (.int .u8 (halfL bs k)) ∧ Kept [] w w' := by
  have g1 := idC_get (bs := bs) (j := k / 2) (by omega)
  have hz := octs_getD ho (k / 2)
  have r1 : Int.tmod (k : Int) 2 = ((k % 2 : Nat) : Int) := by rw [Int.tmod_eq_emod_of_nonneg (by omega)]; omega
  have r2 : Int.tdiv (k : Int) 2 = ((k / 2 : Nat) : Int) := by rw [Int.tdiv_eq_ediv_of_nonneg (by omega)]; omega
  have hv : halfL bs k = if k % 2 = 0 then (bs[k / 2]?.getD 0) / 16 else (bs[k / 2]?.getD 0) % 16 := rfl
  rw [hv]
  have j0 : k / 2 < 32 := by omega
  generalize bs[k / 2]?.getD 0 = z at *
  have a15 := and15 z hz.1 hz.2
  generalize k / 2 = j at *
  have i1 : (0 : Int) ≤ (j : Int) := by omega
  have i2 : (j : Int) < 32 := by omega
  generalize idC bs = cs at *
  by_cases hp : k % 2 = 0
  · rw [if_pos hp]
    rw [hp] at r1
    go_enter Try.func11, Try.ntmps11
    go_wp2
    go_ret
    exact ⟨rfl, (Kept.refl _ _).alloc _⟩
  · rw [if_neg hp]
    rw [show k % 2 = 1 by omega] at r1
    go_enter Try.func11, Try.ntmps11
    go_wp2
    go_ret
    exact ⟨rfl, (Kept.refl _ _).alloc _⟩
end Go.Proofs.Ytonnapjbplknlaa
