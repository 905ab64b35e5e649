/-
  WALKS: satchelref3.tail, sign, Line, Name: for every text.
-/
import Derived.Test.YtbdkalicgpdbkaaDoorSg0
namespace Go.Proofs.YtbdkalicgpdbkaaDoor
open Go.RowKit

theorem str_ix (ds : List Int) (ho : Octs ds) (k : Nat) (h : k < ds.length) (w : World) :
    (Instr.index 9 (.string (strOfNums ds)) (.int .i64 k)).run Tryd.prog w = .ok (.int .u8 (ds.getD k 0)) w := by
  have hu := ho ds[k] (List.getElem_mem h)
  rw [run_index_string w _ _ _ _ Tryd.underlying9, dif_pos ⟨by omega, by rw [strOfNums_size]; omega⟩]
  have e := str_at ds ho k h
  have e2 : ds.getD k 0 = ds[k] := by simp [List.getD_eq_getElem?_getD, List.getElem?_eq_getElem h]
  rw [e2]
  simp only [Int.toNat_natCast, e]
  congr 2
  omega

set_option maxHeartbeats 1000000 in
theorem tail_any (xs : List Int) (ho : Octs xs) (k : Nat) (lo hi : Int) (w : World) :
    Calls Tryd.prog 91 #[.string (strOfNums xs), .int .i64 k, .int .i64 lo, .int .i64 hi] w fun e w' => e = .returned (.bool (tlB xs k lo hi)) ∧ w' = w := by
  have hsz := strOfNums_size xs
  by_cases hk : k < xs.length
  · have hix := str_ix xs ho k hk
    have d0 : decide ((k : Int) < (xs.length : Int)) = true := by simp; omega
    have hx : 0 ≤ xs.getD k 0 ∧ xs.getD k 0 ≤ 255 := by
      rw [List.getD_eq_getElem?_getD]
      exact octs_getD ho k
    have HB : Hid (tlB xs k lo hi = (decide (lo ≤ xs.getD k 0) && decide (xs.getD k 0 ≤ hi))) := by
      have e : tlB xs k lo hi = (decide (lo ≤ xs.getD k 0) && decide (xs.getD k 0 ≤ hi)) := by unfold tlB; rw [decide_eq_true hk, Bool.true_and]
      exact e
    generalize xs.getD k 0 = x at *
    generalize strOfNums xs = S at *
    by_cases h1 : lo ≤ x
    · have d1 : decide (lo ≤ x) = true := by simpa using h1
      by_cases h2 : x ≤ hi
      · have d2 : decide (x ≤ hi) = true := by simpa using h2
        have HF : Hid (tlB xs k lo hi = true) := by rw [HB.out, d1, d2]; exact rfl
        go_enter Tryd.func91, Tryd.ntmps91
        go_wp2
        go_ret
        exact ⟨by rw [HF.out]; exact rfl, rfl⟩
      · have d2 : decide (x ≤ hi) = false := by simpa using h2
        have HF : Hid (tlB xs k lo hi = false) := by rw [HB.out, d1, d2]; exact rfl
        go_enter Tryd.func91, Tryd.ntmps91
        go_wp2
        go_ret
        exact ⟨by rw [HF.out]; exact rfl, rfl⟩
    · have d1 : decide (lo ≤ x) = false := by simpa using h1
      have HF : Hid (tlB xs k lo hi = false) := by rw [HB.out, d1]; exact rfl
      go_enter Tryd.func91, Tryd.ntmps91
      go_wp2
      go_ret
      exact ⟨by rw [HF.out]; exact rfl, rfl⟩
  · have d0 : decide ((k : Int) < (xs.length : Int)) = false := by simp; omega
    have HF : Hid (tlB xs k lo hi = false) := by
      have e : tlB xs k lo hi = false := by unfold tlB; rw [decide_eq_false hk]; rfl
      exact e
    generalize strOfNums xs = S at *
    go_enter Tryd.func91, Tryd.ntmps91
    go_wp2
    go_ret
    exact ⟨by rw [HF.out]; exact rfl, rfl⟩

/-- A sign's width by its first byte and what stands behind it. -/
def sgX (x : Int) (T1 T2 T3 : Int → Int → Bool) : Nat :=
  if x < 128 then 1
  else if 194 ≤ x ∧ x ≤ 223 then (if T1 128 191 = true then 2 else 0)
  else if 224 ≤ x ∧ x ≤ 239 then (if T1 (if x = 224 then 160 else 128) (if x = 237 then 159 else 191) = true ∧ T2 128 191 = true then 3 else 0)
  else if 240 ≤ x ∧ x ≤ 244 then (if T1 (if x = 240 then 144 else 128) (if x = 244 then 143 else 191) = true ∧ T2 128 191 = true ∧ T3 128 191 = true then 4 else 0)
  else 0
theorem getD_drop (xs : List Int) (k j : Nat) : (xs.drop k).getD j 0 = xs.getD (k + j) 0 := by
  rw [List.getD_eq_getElem?_getD, List.getD_eq_getElem?_getD, List.getElem?_drop]
theorem tl_drop (xs : List Int) (k j : Nat) (lo hi : Int) : tlB (xs.drop k) j lo hi = tlB xs (k + j) lo hi := by
  unfold tlB
  rw [getD_drop, List.length_drop]
  congr 2
  exact decide_eq_decide.2 (by omega)
theorem sgX_is (xs : List Int) (k : Nat) : signN (xs.drop k) = sgX (xs.getD k 0) (tlB xs (k + 1)) (tlB xs (k + 2)) (tlB xs (k + 3)) := by
  unfold signN sgX
  simp only [getD_drop, tl_drop, Nat.add_zero]

set_option maxRecDepth 100000 in
set_option maxHeartbeats 4000000 in
theorem sign_any (xs : List Int) (ho : Octs xs) (hs : xs.length ≤ 140737488355328) (k : Nat) (hk : k < xs.length) (w : World) :
    Calls Tryd.prog 74 #[.string (strOfNums xs), .int .i64 k] w fun e w' => e = .returned (.int .i64 (signN (xs.drop k))) ∧ w' = w := by
  have hix := str_ix xs ho k hk
  have hx : 0 ≤ xs.getD k 0 ∧ xs.getD k 0 ≤ 255 := by
    rw [List.getD_eq_getElem?_getD]
    exact octs_getD ho k
  rw [sgX_is]
  have ht1 := fun lo hi W => tail_any xs ho (k + 1) lo hi W
  have ht2 := fun lo hi W => tail_any xs ho (k + 2) lo hi W
  have ht3 := fun lo hi W => tail_any xs ho (k + 3) lo hi W
  have w1 : IntKind.i64.wrap ((k : Int) + 1) = ((k + 1 : Nat) : Int) := by rw [IntKind.wrap_i64]; omega
  have w2 : IntKind.i64.wrap ((k : Int) + 2) = ((k + 2 : Nat) : Int) := by rw [IntKind.wrap_i64]; omega
  have w3 : IntKind.i64.wrap ((k : Int) + 3) = ((k + 3 : Nat) : Int) := by rw [IntKind.wrap_i64]; omega
  generalize tlB xs (k + 1) = T1 at *
  generalize tlB xs (k + 2) = T2 at *
  generalize tlB xs (k + 3) = T3 at *
  generalize k + 1 = k1 at *
  generalize k + 2 = k2 at *
  generalize k + 3 = k3 at *
  generalize xs.getD k 0 = x at *
  generalize strOfNums xs = S at *
  clear hs hk ho
  by_cases c0 : x < 128
  · skip
    have q0 : decide (x < 128) = true := by simp; omega
    have HS : Hid (sgX x T1 T2 T3 = 1) := by
      have e : sgX x T1 T2 T3 = 1 := by unfold sgX; rw [if_pos c0]
      exact e
    go_enter Tryd.func74, Tryd.ntmps74
    go_wp2
    go_ret
    exact ⟨by rw [HS.out]; exact rfl, rfl⟩
  by_cases c1 : 194 ≤ x ∧ x ≤ 223
  · cases hb1 : T1 128 191
    · skip
      have q0 : decide (x < 128) = false := by simp; omega
      have q1 : decide (194 ≤ x) = true := by simp; omega
      have q2 : decide (x ≤ 223) = true := by simp; omega
      have HS : Hid (sgX x T1 T2 T3 = 0) := by
        have e : sgX x T1 T2 T3 = 0 := by unfold sgX; rw [if_neg c0, if_pos c1, if_neg (by simp [hb1])]
        exact e
      go_enter Tryd.func74, Tryd.ntmps74
      go_wp2_with fail
      go_at_call 91
      refine (ht1 128 191 _).mono ?_
      rintro e w9 ⟨he, hw9⟩
      rw [hb1] at he
      subst he hw9
      go_wp2
      go_ret
      exact ⟨by rw [HS.out]; exact rfl, rfl⟩
    · skip
      have q0 : decide (x < 128) = false := by simp; omega
      have q1 : decide (194 ≤ x) = true := by simp; omega
      have q2 : decide (x ≤ 223) = true := by simp; omega
      have HS : Hid (sgX x T1 T2 T3 = 2) := by
        have e : sgX x T1 T2 T3 = 2 := by unfold sgX; rw [if_neg c0, if_pos c1, if_pos hb1]
        exact e
      go_enter Tryd.func74, Tryd.ntmps74
      go_wp2_with fail
      go_at_call 91
      refine (ht1 128 191 _).mono ?_
      rintro e w9 ⟨he, hw9⟩
      rw [hb1] at he
      subst he hw9
      go_wp2
      go_ret
      exact ⟨by rw [HS.out]; exact rfl, rfl⟩
  by_cases c2 : 224 ≤ x ∧ x ≤ 239
  · by_cases m1 : x = 224
    · have m2 : ¬ x = 237 := by omega
      cases hb1 : T1 160 191
      · skip
        have q0 : decide (x < 128) = false := by simp; omega
        have q1 : decide (194 ≤ x) = true := by simp; omega
        have q2 : decide (x ≤ 223) = false := by simp; omega
        have q3 : decide (224 ≤ x) = true := by simp; omega
        have q4 : decide (x ≤ 239) = true := by simp; omega
        have q5 : (x == 224) = true := by simp; omega
        have q6 : (x == 237) = false := by simp; omega
        have HS : Hid (sgX x T1 T2 T3 = 0) := by
          have e : sgX x T1 T2 T3 = 0 := by unfold sgX; rw [if_neg c0, if_neg c1, if_pos c2, if_pos m1, if_neg m2, if_neg (by simp [hb1])]
          exact e
        go_enter Tryd.func74, Tryd.ntmps74
        go_wp2_with fail
        go_at_call 91
        refine (ht1 160 191 _).mono ?_
        rintro e w9 ⟨he, hw9⟩
        rw [hb1] at he
        subst he hw9
        go_wp2
        go_ret
        exact ⟨by rw [HS.out]; exact rfl, rfl⟩
      · cases hb2 : T2 128 191
        · skip
          have q0 : decide (x < 128) = false := by simp; omega
          have q1 : decide (194 ≤ x) = true := by simp; omega
          have q2 : decide (x ≤ 223) = false := by simp; omega
          have q3 : decide (224 ≤ x) = true := by simp; omega
          have q4 : decide (x ≤ 239) = true := by simp; omega
          have q5 : (x == 224) = true := by simp; omega
          have q6 : (x == 237) = false := by simp; omega
          have HS : Hid (sgX x T1 T2 T3 = 0) := by
            have e : sgX x T1 T2 T3 = 0 := by unfold sgX; rw [if_neg c0, if_neg c1, if_pos c2, if_pos m1, if_neg m2, if_neg (by simp [hb2])]
            exact e
          go_enter Tryd.func74, Tryd.ntmps74
          go_wp2_with fail
          go_at_call 91
          refine (ht1 160 191 _).mono ?_
          rintro e w9 ⟨he, hw9⟩
          rw [hb1] at he
          subst he hw9
          go_wp2_with fail
          go_at_call 91
          refine (ht2 128 191 _).mono ?_
          rintro e w9 ⟨he, hw9⟩
          rw [hb2] at he
          subst he hw9
          go_wp2
          go_ret
          exact ⟨by rw [HS.out]; exact rfl, rfl⟩
        · skip
          have q0 : decide (x < 128) = false := by simp; omega
          have q1 : decide (194 ≤ x) = true := by simp; omega
          have q2 : decide (x ≤ 223) = false := by simp; omega
          have q3 : decide (224 ≤ x) = true := by simp; omega
          have q4 : decide (x ≤ 239) = true := by simp; omega
          have q5 : (x == 224) = true := by simp; omega
          have q6 : (x == 237) = false := by simp; omega
          have HS : Hid (sgX x T1 T2 T3 = 3) := by
            have e : sgX x T1 T2 T3 = 3 := by unfold sgX; rw [if_neg c0, if_neg c1, if_pos c2, if_pos m1, if_neg m2, if_pos ⟨hb1, hb2⟩]
            exact e
          go_enter Tryd.func74, Tryd.ntmps74
          go_wp2_with fail
          go_at_call 91
          refine (ht1 160 191 _).mono ?_
          rintro e w9 ⟨he, hw9⟩
          rw [hb1] at he
          subst he hw9
          go_wp2_with fail
          go_at_call 91
          refine (ht2 128 191 _).mono ?_
          rintro e w9 ⟨he, hw9⟩
          rw [hb2] at he
          subst he hw9
          go_wp2
          go_ret
          exact ⟨by rw [HS.out]; exact rfl, rfl⟩
    · by_cases m2 : x = 237
      · skip
        cases hb1 : T1 128 159
        · skip
          have q0 : decide (x < 128) = false := by simp; omega
          have q1 : decide (194 ≤ x) = true := by simp; omega
          have q2 : decide (x ≤ 223) = false := by simp; omega
          have q3 : decide (224 ≤ x) = true := by simp; omega
          have q4 : decide (x ≤ 239) = true := by simp; omega
          have q5 : (x == 224) = false := by simp; omega
          have q6 : (x == 237) = true := by simp; omega
          have HS : Hid (sgX x T1 T2 T3 = 0) := by
            have e : sgX x T1 T2 T3 = 0 := by unfold sgX; rw [if_neg c0, if_neg c1, if_pos c2, if_neg m1, if_pos m2, if_neg (by simp [hb1])]
            exact e
          go_enter Tryd.func74, Tryd.ntmps74
          go_wp2_with fail
          go_at_call 91
          refine (ht1 128 159 _).mono ?_
          rintro e w9 ⟨he, hw9⟩
          rw [hb1] at he
          subst he hw9
          go_wp2
          go_ret
          exact ⟨by rw [HS.out]; exact rfl, rfl⟩
        · cases hb2 : T2 128 191
          · skip
            have q0 : decide (x < 128) = false := by simp; omega
            have q1 : decide (194 ≤ x) = true := by simp; omega
            have q2 : decide (x ≤ 223) = false := by simp; omega
            have q3 : decide (224 ≤ x) = true := by simp; omega
            have q4 : decide (x ≤ 239) = true := by simp; omega
            have q5 : (x == 224) = false := by simp; omega
            have q6 : (x == 237) = true := by simp; omega
            have HS : Hid (sgX x T1 T2 T3 = 0) := by
              have e : sgX x T1 T2 T3 = 0 := by unfold sgX; rw [if_neg c0, if_neg c1, if_pos c2, if_neg m1, if_pos m2, if_neg (by simp [hb2])]
              exact e
            go_enter Tryd.func74, Tryd.ntmps74
            go_wp2_with fail
            go_at_call 91
            refine (ht1 128 159 _).mono ?_
            rintro e w9 ⟨he, hw9⟩
            rw [hb1] at he
            subst he hw9
            go_wp2_with fail
            go_at_call 91
            refine (ht2 128 191 _).mono ?_
            rintro e w9 ⟨he, hw9⟩
            rw [hb2] at he
            subst he hw9
            go_wp2
            go_ret
            exact ⟨by rw [HS.out]; exact rfl, rfl⟩
          · skip
            have q0 : decide (x < 128) = false := by simp; omega
            have q1 : decide (194 ≤ x) = true := by simp; omega
            have q2 : decide (x ≤ 223) = false := by simp; omega
            have q3 : decide (224 ≤ x) = true := by simp; omega
            have q4 : decide (x ≤ 239) = true := by simp; omega
            have q5 : (x == 224) = false := by simp; omega
            have q6 : (x == 237) = true := by simp; omega
            have HS : Hid (sgX x T1 T2 T3 = 3) := by
              have e : sgX x T1 T2 T3 = 3 := by unfold sgX; rw [if_neg c0, if_neg c1, if_pos c2, if_neg m1, if_pos m2, if_pos ⟨hb1, hb2⟩]
              exact e
            go_enter Tryd.func74, Tryd.ntmps74
            go_wp2_with fail
            go_at_call 91
            refine (ht1 128 159 _).mono ?_
            rintro e w9 ⟨he, hw9⟩
            rw [hb1] at he
            subst he hw9
            go_wp2_with fail
            go_at_call 91
            refine (ht2 128 191 _).mono ?_
            rintro e w9 ⟨he, hw9⟩
            rw [hb2] at he
            subst he hw9
            go_wp2
            go_ret
            exact ⟨by rw [HS.out]; exact rfl, rfl⟩
      · skip
        cases hb1 : T1 128 191
        · skip
          have q0 : decide (x < 128) = false := by simp; omega
          have q1 : decide (194 ≤ x) = true := by simp; omega
          have q2 : decide (x ≤ 223) = false := by simp; omega
          have q3 : decide (224 ≤ x) = true := by simp; omega
          have q4 : decide (x ≤ 239) = true := by simp; omega
          have q5 : (x == 224) = false := by simp; omega
          have q6 : (x == 237) = false := by simp; omega
          have HS : Hid (sgX x T1 T2 T3 = 0) := by
            have e : sgX x T1 T2 T3 = 0 := by unfold sgX; rw [if_neg c0, if_neg c1, if_pos c2, if_neg m1, if_neg m2, if_neg (by simp [hb1])]
            exact e
          go_enter Tryd.func74, Tryd.ntmps74
          go_wp2_with fail
          go_at_call 91
          refine (ht1 128 191 _).mono ?_
          rintro e w9 ⟨he, hw9⟩
          rw [hb1] at he
          subst he hw9
          go_wp2
          go_ret
          exact ⟨by rw [HS.out]; exact rfl, rfl⟩
        · cases hb2 : T2 128 191
          · skip
            have q0 : decide (x < 128) = false := by simp; omega
            have q1 : decide (194 ≤ x) = true := by simp; omega
            have q2 : decide (x ≤ 223) = false := by simp; omega
            have q3 : decide (224 ≤ x) = true := by simp; omega
            have q4 : decide (x ≤ 239) = true := by simp; omega
            have q5 : (x == 224) = false := by simp; omega
            have q6 : (x == 237) = false := by simp; omega
            have HS : Hid (sgX x T1 T2 T3 = 0) := by
              have e : sgX x T1 T2 T3 = 0 := by unfold sgX; rw [if_neg c0, if_neg c1, if_pos c2, if_neg m1, if_neg m2, if_neg (by simp [hb2])]
              exact e
            go_enter Tryd.func74, Tryd.ntmps74
            go_wp2_with fail
            go_at_call 91
            refine (ht1 128 191 _).mono ?_
            rintro e w9 ⟨he, hw9⟩
            rw [hb1] at he
            subst he hw9
            go_wp2_with fail
            go_at_call 91
            refine (ht2 128 191 _).mono ?_
            rintro e w9 ⟨he, hw9⟩
            rw [hb2] at he
            subst he hw9
            go_wp2
            go_ret
            exact ⟨by rw [HS.out]; exact rfl, rfl⟩
          · skip
            have q0 : decide (x < 128) = false := by simp; omega
            have q1 : decide (194 ≤ x) = true := by simp; omega
            have q2 : decide (x ≤ 223) = false := by simp; omega
            have q3 : decide (224 ≤ x) = true := by simp; omega
            have q4 : decide (x ≤ 239) = true := by simp; omega
            have q5 : (x == 224) = false := by simp; omega
            have q6 : (x == 237) = false := by simp; omega
            have HS : Hid (sgX x T1 T2 T3 = 3) := by
              have e : sgX x T1 T2 T3 = 3 := by unfold sgX; rw [if_neg c0, if_neg c1, if_pos c2, if_neg m1, if_neg m2, if_pos ⟨hb1, hb2⟩]
              exact e
            go_enter Tryd.func74, Tryd.ntmps74
            go_wp2_with fail
            go_at_call 91
            refine (ht1 128 191 _).mono ?_
            rintro e w9 ⟨he, hw9⟩
            rw [hb1] at he
            subst he hw9
            go_wp2_with fail
            go_at_call 91
            refine (ht2 128 191 _).mono ?_
            rintro e w9 ⟨he, hw9⟩
            rw [hb2] at he
            subst he hw9
            go_wp2
            go_ret
            exact ⟨by rw [HS.out]; exact rfl, rfl⟩
  by_cases c3 : 240 ≤ x ∧ x ≤ 244
  · by_cases m1 : x = 240
    · have m2 : ¬ x = 244 := by omega
      cases hb1 : T1 144 191
      · skip
        have q0 : decide (x < 128) = false := by simp; omega
        have q1 : decide (194 ≤ x) = true := by simp; omega
        have q2 : decide (x ≤ 223) = false := by simp; omega
        have q3 : decide (224 ≤ x) = true := by simp; omega
        have q4 : decide (x ≤ 239) = false := by simp; omega
        have q5 : decide (240 ≤ x) = true := by simp; omega
        have q6 : decide (x ≤ 244) = true := by simp; omega
        have q7 : (x == 240) = true := by simp; omega
        have q8 : (x == 244) = false := by simp; omega
        have HS : Hid (sgX x T1 T2 T3 = 0) := by
          have e : sgX x T1 T2 T3 = 0 := by unfold sgX; rw [if_neg c0, if_neg c1, if_neg c2, if_pos c3, if_pos m1, if_neg m2, if_neg (by simp [hb1])]
          exact e
        go_enter Tryd.func74, Tryd.ntmps74
        go_wp2_with fail
        go_at_call 91
        refine (ht1 144 191 _).mono ?_
        rintro e w9 ⟨he, hw9⟩
        rw [hb1] at he
        subst he hw9
        go_wp2
        go_ret
        exact ⟨by rw [HS.out]; exact rfl, rfl⟩
      · cases hb2 : T2 128 191
        · skip
          have q0 : decide (x < 128) = false := by simp; omega
          have q1 : decide (194 ≤ x) = true := by simp; omega
          have q2 : decide (x ≤ 223) = false := by simp; omega
          have q3 : decide (224 ≤ x) = true := by simp; omega
          have q4 : decide (x ≤ 239) = false := by simp; omega
          have q5 : decide (240 ≤ x) = true := by simp; omega
          have q6 : decide (x ≤ 244) = true := by simp; omega
          have q7 : (x == 240) = true := by simp; omega
          have q8 : (x == 244) = false := by simp; omega
          have HS : Hid (sgX x T1 T2 T3 = 0) := by
            have e : sgX x T1 T2 T3 = 0 := by unfold sgX; rw [if_neg c0, if_neg c1, if_neg c2, if_pos c3, if_pos m1, if_neg m2, if_neg (by simp [hb2])]
            exact e
          go_enter Tryd.func74, Tryd.ntmps74
          go_wp2_with fail
          go_at_call 91
          refine (ht1 144 191 _).mono ?_
          rintro e w9 ⟨he, hw9⟩
          rw [hb1] at he
          subst he hw9
          go_wp2_with fail
          go_at_call 91
          refine (ht2 128 191 _).mono ?_
          rintro e w9 ⟨he, hw9⟩
          rw [hb2] at he
          subst he hw9
          go_wp2
          go_ret
          exact ⟨by rw [HS.out]; exact rfl, rfl⟩
        · cases hb3 : T3 128 191
          · skip
            have q0 : decide (x < 128) = false := by simp; omega
            have q1 : decide (194 ≤ x) = true := by simp; omega
            have q2 : decide (x ≤ 223) = false := by simp; omega
            have q3 : decide (224 ≤ x) = true := by simp; omega
            have q4 : decide (x ≤ 239) = false := by simp; omega
            have q5 : decide (240 ≤ x) = true := by simp; omega
            have q6 : decide (x ≤ 244) = true := by simp; omega
            have q7 : (x == 240) = true := by simp; omega
            have q8 : (x == 244) = false := by simp; omega
            have HS : Hid (sgX x T1 T2 T3 = 0) := by
              have e : sgX x T1 T2 T3 = 0 := by unfold sgX; rw [if_neg c0, if_neg c1, if_neg c2, if_pos c3, if_pos m1, if_neg m2, if_neg (by simp [hb3])]
              exact e
            go_enter Tryd.func74, Tryd.ntmps74
            go_wp2_with fail
            go_at_call 91
            refine (ht1 144 191 _).mono ?_
            rintro e w9 ⟨he, hw9⟩
            rw [hb1] at he
            subst he hw9
            go_wp2_with fail
            go_at_call 91
            refine (ht2 128 191 _).mono ?_
            rintro e w9 ⟨he, hw9⟩
            rw [hb2] at he
            subst he hw9
            go_wp2_with fail
            go_at_call 91
            refine (ht3 128 191 _).mono ?_
            rintro e w9 ⟨he, hw9⟩
            rw [hb3] at he
            subst he hw9
            go_wp2
            go_ret
            exact ⟨by rw [HS.out]; exact rfl, rfl⟩
          · skip
            have q0 : decide (x < 128) = false := by simp; omega
            have q1 : decide (194 ≤ x) = true := by simp; omega
            have q2 : decide (x ≤ 223) = false := by simp; omega
            have q3 : decide (224 ≤ x) = true := by simp; omega
            have q4 : decide (x ≤ 239) = false := by simp; omega
            have q5 : decide (240 ≤ x) = true := by simp; omega
            have q6 : decide (x ≤ 244) = true := by simp; omega
            have q7 : (x == 240) = true := by simp; omega
            have q8 : (x == 244) = false := by simp; omega
            have HS : Hid (sgX x T1 T2 T3 = 4) := by
              have e : sgX x T1 T2 T3 = 4 := by unfold sgX; rw [if_neg c0, if_neg c1, if_neg c2, if_pos c3, if_pos m1, if_neg m2, if_pos ⟨hb1, hb2, hb3⟩]
              exact e
            go_enter Tryd.func74, Tryd.ntmps74
            go_wp2_with fail
            go_at_call 91
            refine (ht1 144 191 _).mono ?_
            rintro e w9 ⟨he, hw9⟩
            rw [hb1] at he
            subst he hw9
            go_wp2_with fail
            go_at_call 91
            refine (ht2 128 191 _).mono ?_
            rintro e w9 ⟨he, hw9⟩
            rw [hb2] at he
            subst he hw9
            go_wp2_with fail
            go_at_call 91
            refine (ht3 128 191 _).mono ?_
            rintro e w9 ⟨he, hw9⟩
            rw [hb3] at he
            subst he hw9
            go_wp2
            go_ret
            exact ⟨by rw [HS.out]; exact rfl, rfl⟩
    · by_cases m2 : x = 244
      · skip
        cases hb1 : T1 128 143
        · skip
          have q0 : decide (x < 128) = false := by simp; omega
          have q1 : decide (194 ≤ x) = true := by simp; omega
          have q2 : decide (x ≤ 223) = false := by simp; omega
          have q3 : decide (224 ≤ x) = true := by simp; omega
          have q4 : decide (x ≤ 239) = false := by simp; omega
          have q5 : decide (240 ≤ x) = true := by simp; omega
          have q6 : decide (x ≤ 244) = true := by simp; omega
          have q7 : (x == 240) = false := by simp; omega
          have q8 : (x == 244) = true := by simp; omega
          have HS : Hid (sgX x T1 T2 T3 = 0) := by
            have e : sgX x T1 T2 T3 = 0 := by unfold sgX; rw [if_neg c0, if_neg c1, if_neg c2, if_pos c3, if_neg m1, if_pos m2, if_neg (by simp [hb1])]
            exact e
          go_enter Tryd.func74, Tryd.ntmps74
          go_wp2_with fail
          go_at_call 91
          refine (ht1 128 143 _).mono ?_
          rintro e w9 ⟨he, hw9⟩
          rw [hb1] at he
          subst he hw9
          go_wp2
          go_ret
          exact ⟨by rw [HS.out]; exact rfl, rfl⟩
        · cases hb2 : T2 128 191
          · skip
            have q0 : decide (x < 128) = false := by simp; omega
            have q1 : decide (194 ≤ x) = true := by simp; omega
            have q2 : decide (x ≤ 223) = false := by simp; omega
            have q3 : decide (224 ≤ x) = true := by simp; omega
            have q4 : decide (x ≤ 239) = false := by simp; omega
            have q5 : decide (240 ≤ x) = true := by simp; omega
            have q6 : decide (x ≤ 244) = true := by simp; omega
            have q7 : (x == 240) = false := by simp; omega
            have q8 : (x == 244) = true := by simp; omega
            have HS : Hid (sgX x T1 T2 T3 = 0) := by
              have e : sgX x T1 T2 T3 = 0 := by unfold sgX; rw [if_neg c0, if_neg c1, if_neg c2, if_pos c3, if_neg m1, if_pos m2, if_neg (by simp [hb2])]
              exact e
            go_enter Tryd.func74, Tryd.ntmps74
            go_wp2_with fail
            go_at_call 91
            refine (ht1 128 143 _).mono ?_
            rintro e w9 ⟨he, hw9⟩
            rw [hb1] at he
            subst he hw9
            go_wp2_with fail
            go_at_call 91
            refine (ht2 128 191 _).mono ?_
            rintro e w9 ⟨he, hw9⟩
            rw [hb2] at he
            subst he hw9
            go_wp2
            go_ret
            exact ⟨by rw [HS.out]; exact rfl, rfl⟩
          · cases hb3 : T3 128 191
            · skip
              have q0 : decide (x < 128) = false := by simp; omega
              have q1 : decide (194 ≤ x) = true := by simp; omega
              have q2 : decide (x ≤ 223) = false := by simp; omega
              have q3 : decide (224 ≤ x) = true := by simp; omega
              have q4 : decide (x ≤ 239) = false := by simp; omega
              have q5 : decide (240 ≤ x) = true := by simp; omega
              have q6 : decide (x ≤ 244) = true := by simp; omega
              have q7 : (x == 240) = false := by simp; omega
              have q8 : (x == 244) = true := by simp; omega
              have HS : Hid (sgX x T1 T2 T3 = 0) := by
                have e : sgX x T1 T2 T3 = 0 := by unfold sgX; rw [if_neg c0, if_neg c1, if_neg c2, if_pos c3, if_neg m1, if_pos m2, if_neg (by simp [hb3])]
                exact e
              go_enter Tryd.func74, Tryd.ntmps74
              go_wp2_with fail
              go_at_call 91
              refine (ht1 128 143 _).mono ?_
              rintro e w9 ⟨he, hw9⟩
              rw [hb1] at he
              subst he hw9
              go_wp2_with fail
              go_at_call 91
              refine (ht2 128 191 _).mono ?_
              rintro e w9 ⟨he, hw9⟩
              rw [hb2] at he
              subst he hw9
              go_wp2_with fail
              go_at_call 91
              refine (ht3 128 191 _).mono ?_
              rintro e w9 ⟨he, hw9⟩
              rw [hb3] at he
              subst he hw9
              go_wp2
              go_ret
              exact ⟨by rw [HS.out]; exact rfl, rfl⟩
            · skip
              have q0 : decide (x < 128) = false := by simp; omega
              have q1 : decide (194 ≤ x) = true := by simp; omega
              have q2 : decide (x ≤ 223) = false := by simp; omega
              have q3 : decide (224 ≤ x) = true := by simp; omega
              have q4 : decide (x ≤ 239) = false := by simp; omega
              have q5 : decide (240 ≤ x) = true := by simp; omega
              have q6 : decide (x ≤ 244) = true := by simp; omega
              have q7 : (x == 240) = false := by simp; omega
              have q8 : (x == 244) = true := by simp; omega
              have HS : Hid (sgX x T1 T2 T3 = 4) := by
                have e : sgX x T1 T2 T3 = 4 := by unfold sgX; rw [if_neg c0, if_neg c1, if_neg c2, if_pos c3, if_neg m1, if_pos m2, if_pos ⟨hb1, hb2, hb3⟩]
                exact e
              go_enter Tryd.func74, Tryd.ntmps74
              go_wp2_with fail
              go_at_call 91
              refine (ht1 128 143 _).mono ?_
              rintro e w9 ⟨he, hw9⟩
              rw [hb1] at he
              subst he hw9
              go_wp2_with fail
              go_at_call 91
              refine (ht2 128 191 _).mono ?_
              rintro e w9 ⟨he, hw9⟩
              rw [hb2] at he
              subst he hw9
              go_wp2_with fail
              go_at_call 91
              refine (ht3 128 191 _).mono ?_
              rintro e w9 ⟨he, hw9⟩
              rw [hb3] at he
              subst he hw9
              go_wp2
              go_ret
              exact ⟨by rw [HS.out]; exact rfl, rfl⟩
      · skip
        cases hb1 : T1 128 191
        · skip
          have q0 : decide (x < 128) = false := by simp; omega
          have q1 : decide (194 ≤ x) = true := by simp; omega
          have q2 : decide (x ≤ 223) = false := by simp; omega
          have q3 : decide (224 ≤ x) = true := by simp; omega
          have q4 : decide (x ≤ 239) = false := by simp; omega
          have q5 : decide (240 ≤ x) = true := by simp; omega
          have q6 : decide (x ≤ 244) = true := by simp; omega
          have q7 : (x == 240) = false := by simp; omega
          have q8 : (x == 244) = false := by simp; omega
          have HS : Hid (sgX x T1 T2 T3 = 0) := by
            have e : sgX x T1 T2 T3 = 0 := by unfold sgX; rw [if_neg c0, if_neg c1, if_neg c2, if_pos c3, if_neg m1, if_neg m2, if_neg (by simp [hb1])]
            exact e
          go_enter Tryd.func74, Tryd.ntmps74
          go_wp2_with fail
          go_at_call 91
          refine (ht1 128 191 _).mono ?_
          rintro e w9 ⟨he, hw9⟩
          rw [hb1] at he
          subst he hw9
          go_wp2
          go_ret
          exact ⟨by rw [HS.out]; exact rfl, rfl⟩
        · cases hb2 : T2 128 191
          · skip
            have q0 : decide (x < 128) = false := by simp; omega
            have q1 : decide (194 ≤ x) = true := by simp; omega
            have q2 : decide (x ≤ 223) = false := by simp; omega
            have q3 : decide (224 ≤ x) = true := by simp; omega
            have q4 : decide (x ≤ 239) = false := by simp; omega
            have q5 : decide (240 ≤ x) = true := by simp; omega
            have q6 : decide (x ≤ 244) = true := by simp; omega
            have q7 : (x == 240) = false := by simp; omega
            have q8 : (x == 244) = false := by simp; omega
            have HS : Hid (sgX x T1 T2 T3 = 0) := by
              have e : sgX x T1 T2 T3 = 0 := by unfold sgX; rw [if_neg c0, if_neg c1, if_neg c2, if_pos c3, if_neg m1, if_neg m2, if_neg (by simp [hb2])]
              exact e
            go_enter Tryd.func74, Tryd.ntmps74
            go_wp2_with fail
            go_at_call 91
            refine (ht1 128 191 _).mono ?_
            rintro e w9 ⟨he, hw9⟩
            rw [hb1] at he
            subst he hw9
            go_wp2_with fail
            go_at_call 91
            refine (ht2 128 191 _).mono ?_
            rintro e w9 ⟨he, hw9⟩
            rw [hb2] at he
            subst he hw9
            go_wp2
            go_ret
            exact ⟨by rw [HS.out]; exact rfl, rfl⟩
          · cases hb3 : T3 128 191
            · skip
              have q0 : decide (x < 128) = false := by simp; omega
              have q1 : decide (194 ≤ x) = true := by simp; omega
              have q2 : decide (x ≤ 223) = false := by simp; omega
              have q3 : decide (224 ≤ x) = true := by simp; omega
              have q4 : decide (x ≤ 239) = false := by simp; omega
              have q5 : decide (240 ≤ x) = true := by simp; omega
              have q6 : decide (x ≤ 244) = true := by simp; omega
              have q7 : (x == 240) = false := by simp; omega
              have q8 : (x == 244) = false := by simp; omega
              have HS : Hid (sgX x T1 T2 T3 = 0) := by
                have e : sgX x T1 T2 T3 = 0 := by unfold sgX; rw [if_neg c0, if_neg c1, if_neg c2, if_pos c3, if_neg m1, if_neg m2, if_neg (by simp [hb3])]
                exact e
              go_enter Tryd.func74, Tryd.ntmps74
              go_wp2_with fail
              go_at_call 91
              refine (ht1 128 191 _).mono ?_
              rintro e w9 ⟨he, hw9⟩
              rw [hb1] at he
              subst he hw9
              go_wp2_with fail
              go_at_call 91
              refine (ht2 128 191 _).mono ?_
              rintro e w9 ⟨he, hw9⟩
              rw [hb2] at he
              subst he hw9
              go_wp2_with fail
              go_at_call 91
              refine (ht3 128 191 _).mono ?_
              rintro e w9 ⟨he, hw9⟩
              rw [hb3] at he
              subst he hw9
              go_wp2
              go_ret
              exact ⟨by rw [HS.out]; exact rfl, rfl⟩
            · skip
              have q0 : decide (x < 128) = false := by simp; omega
              have q1 : decide (194 ≤ x) = true := by simp; omega
              have q2 : decide (x ≤ 223) = false := by simp; omega
              have q3 : decide (224 ≤ x) = true := by simp; omega
              have q4 : decide (x ≤ 239) = false := by simp; omega
              have q5 : decide (240 ≤ x) = true := by simp; omega
              have q6 : decide (x ≤ 244) = true := by simp; omega
              have q7 : (x == 240) = false := by simp; omega
              have q8 : (x == 244) = false := by simp; omega
              have HS : Hid (sgX x T1 T2 T3 = 4) := by
                have e : sgX x T1 T2 T3 = 4 := by unfold sgX; rw [if_neg c0, if_neg c1, if_neg c2, if_pos c3, if_neg m1, if_neg m2, if_pos ⟨hb1, hb2, hb3⟩]
                exact e
              go_enter Tryd.func74, Tryd.ntmps74
              go_wp2_with fail
              go_at_call 91
              refine (ht1 128 191 _).mono ?_
              rintro e w9 ⟨he, hw9⟩
              rw [hb1] at he
              subst he hw9
              go_wp2_with fail
              go_at_call 91
              refine (ht2 128 191 _).mono ?_
              rintro e w9 ⟨he, hw9⟩
              rw [hb2] at he
              subst he hw9
              go_wp2_with fail
              go_at_call 91
              refine (ht3 128 191 _).mono ?_
              rintro e w9 ⟨he, hw9⟩
              rw [hb3] at he
              subst he hw9
              go_wp2
              go_ret
              exact ⟨by rw [HS.out]; exact rfl, rfl⟩
  by_cases c4 : x < 194
  · skip
    have q0 : decide (x < 128) = false := by simp; omega
    have q1 : decide (194 ≤ x) = false := by simp; omega
    have q2 : decide (224 ≤ x) = false := by simp; omega
    have q3 : decide (240 ≤ x) = false := by simp; omega
    have HS : Hid (sgX x T1 T2 T3 = 0) := by
      have e : sgX x T1 T2 T3 = 0 := by unfold sgX; rw [if_neg c0, if_neg c1, if_neg c2, if_neg c3]
      exact e
    go_enter Tryd.func74, Tryd.ntmps74
    go_wp2
    go_ret
    exact ⟨by rw [HS.out]; exact rfl, rfl⟩
  · skip
    have q0 : decide (x < 128) = false := by simp; omega
    have q1 : decide (194 ≤ x) = true := by simp; omega
    have q2 : decide (x ≤ 223) = false := by simp; omega
    have q3 : decide (224 ≤ x) = true := by simp; omega
    have q4 : decide (x ≤ 239) = false := by simp; omega
    have q5 : decide (240 ≤ x) = true := by simp; omega
    have q6 : decide (x ≤ 244) = false := by simp; omega
    have HS : Hid (sgX x T1 T2 T3 = 0) := by
      have e : sgX x T1 T2 T3 = 0 := by unfold sgX; rw [if_neg c0, if_neg c1, if_neg c2, if_neg c3]
      exact e
    go_enter Tryd.func74, Tryd.ntmps74
    go_wp2
    go_ret
    exact ⟨by rw [HS.out]; exact rfl, rfl⟩
end Go.Proofs.YtbdkalicgpdbkaaDoor
