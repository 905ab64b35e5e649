/-
  WALKS: satchelref14's signs, part: what a part of a ref's name may be.
-/
import Derived.Test.YtmjbaficdoehfaaDoorSg2
import Derived.Test.YtmjbaficdoehfaaDoorRn0
namespace Go.Proofs.YtmjbaficdoehfaaDoor
open Go.RowKit

set_option maxRecDepth 100000 in
set_option maxHeartbeats 2000000 in
theorem signs_any (c : Int) (h0 : 0 ≤ c) (h1 : c ≤ 255) (w : World) : Calls Tryd.prog 75 #[.int .u8 c] w fun e w' => e = .returned (.bool (charB c)) ∧ w' = w := by
  obtain ⟨r, hr⟩ : ∃ r, r = charB c := ⟨_, rfl⟩
  rw [← hr]
  rcases (by omega : c ≤ 44 ∨ c = 45 ∨ c = 46 ∨ c = 47 ∨ (48 ≤ c ∧ c ≤ 57) ∨ (58 ≤ c ∧ c ≤ 64) ∨ (65 ≤ c ∧ c ≤ 90) ∨ (91 ≤ c ∧ c ≤ 94) ∨ c = 95 ∨ c = 96 ∨ (97 ≤ c ∧ c ≤ 122) ∨ (123 ≤ c ∧ c ≤ 127) ∨ 128 ≤ c) with h | h | h | h | h | h | h | h | h | h | h | h | h
  all_goals
    first | (have f1 : decide ((97 : Int) ≤ c) = true := decide_eq_true (by omega)) | (have f1 : decide ((97 : Int) ≤ c) = false := decide_eq_false (by omega))
    first | (have f2 : decide (c ≤ (122 : Int)) = true := decide_eq_true (by omega)) | (have f2 : decide (c ≤ (122 : Int)) = false := decide_eq_false (by omega))
    first | (have f3 : decide ((65 : Int) ≤ c) = true := decide_eq_true (by omega)) | (have f3 : decide ((65 : Int) ≤ c) = false := decide_eq_false (by omega))
    first | (have f4 : decide (c ≤ (90 : Int)) = true := decide_eq_true (by omega)) | (have f4 : decide (c ≤ (90 : Int)) = false := decide_eq_false (by omega))
    first | (have f5 : decide ((48 : Int) ≤ c) = true := decide_eq_true (by omega)) | (have f5 : decide ((48 : Int) ≤ c) = false := decide_eq_false (by omega))
    first | (have f6 : decide (c ≤ (57 : Int)) = true := decide_eq_true (by omega)) | (have f6 : decide (c ≤ (57 : Int)) = false := decide_eq_false (by omega))
    first | (have f7 : (c == (46 : Int)) = true := beq_iff_eq.2 (by omega)) | (have f7 : (c == (46 : Int)) = false := beq_eq_false_iff_ne.2 (by omega))
    first | (have f8 : (c == (95 : Int)) = true := beq_iff_eq.2 (by omega)) | (have f8 : (c == (95 : Int)) = false := beq_eq_false_iff_ne.2 (by omega))
    first | (have f9 : (c == (45 : Int)) = true := beq_iff_eq.2 (by omega)) | (have f9 : (c == (45 : Int)) = false := beq_eq_false_iff_ne.2 (by omega))
    first | (have f0 : decide ((128 : Int) ≤ c) = true := decide_eq_true (by omega)) | (have f0 : decide ((128 : Int) ≤ c) = false := decide_eq_false (by omega))
    first
      | (have HR : r = true := by
           rw [hr]; unfold charB alnumB; simp only [Bool.or_eq_true, Bool.and_eq_true, decide_eq_true_eq]; omega)
      | (have HR : r = false := by
           rw [hr]; unfold charB alnumB; simp only [Bool.or_eq_false_iff, Bool.and_eq_false_iff, decide_eq_false_iff_not]; omega)
    subst HR
    clear h h0 h1 hr
    go_enter Tryd.func75, Tryd.ntmps75
    go_wp2
    go_ret
    exact ⟨rfl, rfl⟩
end Go.Proofs.YtmjbaficdoehfaaDoor
