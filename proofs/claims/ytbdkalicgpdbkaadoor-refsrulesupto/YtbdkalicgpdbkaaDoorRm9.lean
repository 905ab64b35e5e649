/-
  WALKS: satchelref14's star, Put, Fits, pair.
-/
import Derived.Test.YtbdkalicgpdbkaaDoorRm5
namespace Go.Proofs.YtbdkalicgpdbkaaDoor
open Go.RowKit

theorem str_cat (a b : List Int) : strOfNums a ++ strOfNums b = strOfNums (a ++ b) := by
  rw [str_of_bytes, str_of_bytes, str_of_bytes, bytesU_append]
  apply ByteArray.ext
  simp
theorem first_star {xs : List Int} {k : Nat} (hk : k < xs.length) (hn : ∀ i, i < k → xs.getD i 0 ≠ 42) (hx : xs.getD k 0 = 42) : starB xs = true ∧ (aheadL xs).length = k := by
  have hxk : xs[k] = 42 := by rw [← hx, List.getD_eq_getElem?_getD, List.getElem?_eq_getElem hk]; rfl
  have hm : (42 : Int) ∈ xs := hxk ▸ List.getElem_mem hk
  have hs : starB xs = true := decide_eq_true hm
  refine ⟨hs, ?_⟩
  obtain ⟨e, hna⟩ := star_split hs
  generalize aheadL xs = A at *
  generalize behindL xs = B at *
  subst e
  rcases Nat.lt_trichotomy A.length k with h | h | h
  · refine absurd ?_ (hn A.length h)
    rw [List.getD_eq_getElem?_getD, List.getElem?_append_right (Nat.le_refl _), Nat.sub_self]
    rfl
  · exact h
  · rw [List.getElem_append_left h] at hxk
    exact absurd (hxk ▸ List.getElem_mem h) hna
theorem no_star {xs : List Int} (hn : ∀ i, i < xs.length → xs.getD i 0 ≠ 42) : starB xs = false := by
  refine decide_eq_false fun hm => ?_
  obtain ⟨i, hi, e⟩ := List.getElem_of_mem hm
  refine hn i hi ?_
  rw [List.getD_eq_getElem?_getD, List.getElem?_eq_getElem hi]
  exact e
theorem Good_wide (xs : List Int) (ho : Octs xs) (hs : xs.length ≤ 1000000000000000000) (w : World) : Calls Tryd.prog 35 #[.string (strOfNums xs)] w fun e w' => e = .returned (.bool (checkB xs)) ∧ Kept [] w w' := by
  by_cases hc : xs.length ≤ 140737488355328
  · exact Good_any xs ho hc w
  have hsz := strOfNums_size xs
  obtain ⟨r, hr⟩ : ∃ r, r = checkB xs := ⟨_, rfl⟩
  have hg : r = goodB xs := by rw [hr, good_check]
  rw [← hr]
  clear hr
  have t1 : decide ((xs.length : Int) < 1) = false := by simp; omega
  have t2 : decide ((255 : Int) < (xs.length : Int)) = true := by simp; omega
  have HR : Hid (r = false) := by
    have : r = false := by
      rw [hg]; unfold goodB
      rw [show decide (xs.length ≤ 255) = false from decide_eq_false (by omega)]
      simp
    exact this
  clear hg ho
  generalize strOfNums xs = S at *
  go_enter Tryd.func35, Tryd.ntmps35
  go_wp2
  go_ret
  exact ⟨by rw [HR.out]; rfl, Kept.refl _ _⟩
def starI (xs : List Int) : Int := if starB xs = true then ((aheadL xs).length : Int) else -1
set_option maxHeartbeats 1000000 in
theorem star_any (xs : List Int) (ho : Octs xs) (hs : xs.length ≤ 100000000000000000) (w : World) : Calls Tryd.prog 53 #[.string (strOfNums xs)] w fun e w' => e = .returned (.int .i64 (starI xs)) ∧ w' = w := by
  have hsz := strOfNums_size xs
  have HIX : Hid (∀ k, k < xs.length → ∀ W, (Instr.index 9 (.string (strOfNums xs)) (.int .i64 k)).run Tryd.prog W = .ok (.int .u8 (xs.getD k 0)) W) := fun k hk W => str_ix xs ho k hk W
  clear ho
  obtain ⟨r, hr⟩ : ∃ r, r = starI xs := ⟨_, rfl⟩
  have HR : Hid (r = starI xs) := hr
  rw [← hr]
  clear hr
  generalize strOfNums xs = S at *
  go_enter Tryd.func53, Tryd.ntmps53
  go_wp2
  go_loop [3] (fun s3 => ∃ k : Nat, k ≤ xs.length ∧ s3 = .int .i64 k ∧ Hid (∀ i, i < k → xs.getD i 0 ≠ 42)) (fun s3 => xs.length - (intOf s3).toNat)
  case atStart => exact ⟨0, Nat.zero_le _, rfl, fun i h => absurd h (by omega)⟩
  case round =>
    obtain ⟨k, hk, rfl, HN⟩ := hrel
    by_cases hlt : k < xs.length
    · have t0 : decide ((k : Int) < (xs.length : Int)) = true := by simp; omega
      have hix := HIX.out k hlt
      by_cases hx : xs.getD k 0 = 42
      · have HF : Hid (r = (k : Int)) := by
          have h : r = (k : Int) := by
            obtain ⟨h1, h2⟩ := first_star hlt HN.out hx
            rw [HR.out]; unfold starI; rw [if_pos h1, h2]
          exact h
        have t1 : (xs.getD k 0 == 42) = true := by simpa using hx
        clear hx
        generalize xs.getD k 0 = x at *
        go_wp2
        go_ret
        exact ⟨by rw [HF.out]; rfl, rfl⟩
      · have HN2 : Hid (∀ i, i < k + 1 → xs.getD i 0 ≠ 42) := fun i hi => by
          by_cases e : i = k
          · rw [e]; exact hx
          · exact HN.out i (by omega)
        have t1 : (xs.getD k 0 == 42) = false := by simpa using hx
        clear hx
        generalize xs.getD k 0 = x at *
        go_wp2
        go_round
        case rel => exact ⟨k + 1, by omega, by go_num, HN2⟩
        case measure => simp [intOf]; omega
    · have t0 : decide ((k : Int) < (xs.length : Int)) = false := by simp; omega
      have HF : Hid (r = -1) := by
        have h : r = -1 := by rw [HR.out]; unfold starI; rw [no_star (fun i hi => HN.out i (by omega))]; rfl
        exact h
      go_wp2
      go_ret
      exact ⟨by rw [HF.out]; rfl, rfl⟩

set_option maxRecDepth 100000 in
set_option maxHeartbeats 1000000 in
theorem Put_any (side m : List Int) (hs : Octs side) (hl : side.length ≤ 100000000000000000) (hl2 : m.length ≤ 100000000000000000) (w : World) : Calls Tryd.prog 38 #[.string (strOfNums side), .string (strOfNums m)] w fun e w' => e = .returned (.string (strOfNums (fillL side m))) ∧ ∃ n, w' = w.drewN n := by
  have hst := star_any side hs hl
  have hz1 := strOfNums_size side
  have hz2 := strOfNums_size m
  cases h : starB side with
  | false =>
    have e : starI side = -1 := by unfold starI; rw [h]; rfl
    rw [put_no side m h]
    rw [e] at hst
    clear h e hs
    generalize strOfNums side = S at *
    generalize strOfNums m = M at *
    go_enter Tryd.func38, Tryd.ntmps38
    go_wp2_with (go_at_call 53; with_reducible refine (hst _).mono ?_; rintro e w9 ⟨rfl, hw9⟩; subst w9)
    go_ret
    exact ⟨rfl, 0, rfl⟩
  | true =>
    have e : starI side = ((aheadL side).length : Int) := by unfold starI; rw [h]; rfl
    have hp := put_len side m h
    have hP : fillL side m = aheadL side ++ m ++ behindL side := by unfold fillL; rw [h]; rfl
    have hL := star_len h
    obtain ⟨h1, h2⟩ := ahead_take h
    rw [e] at hst
    have hx1 : (strOfNums side).extract 0 (aheadL side).length = strOfNums (aheadL side) := by rw [str_sub, List.drop_zero, h1]
    have hx2 : (strOfNums side).extract ((aheadL side).length + 1) side.length = strOfNums (behindL side) := by rw [str_sub, List.take_length, h2]
    have hx3 : (strOfNums side).extract ((aheadL side).length + 1) ((aheadL side).length + 1 + (behindL side).length) = strOfNums (behindL side) := by rw [← hL]; exact hx2
    have hza := strOfNums_size (aheadL side)
    have hzb := strOfNums_size (behindL side)
    have HCAT : Hid (strOfNums (aheadL side) ++ strOfNums m ++ strOfNums (behindL side) = strOfNums (fillL side m)) := by
      have h : strOfNums (aheadL side) ++ strOfNums m ++ strOfNums (behindL side) = strOfNums (fillL side m) := by rw [str_cat, str_cat, hP]
      exact h
    clear h e hs hP h1 h2
    obtain ⟨SP, hSP⟩ : ∃ SP, SP = strOfNums (fillL side m) := ⟨_, rfl⟩
    rw [← hSP] at HCAT ⊢
    clear hSP hp
    generalize strOfNums (aheadL side) = SA at *
    generalize strOfNums (behindL side) = SB at *
    generalize (behindL side).length = j at *
    generalize (aheadL side).length = i at *
    generalize strOfNums side = S at *
    generalize strOfNums m = M at *
    have c1 : (0 : Int) ≤ ↑i := by omega
    have c2 : (↑i : Int) ≤ ↑S.size := by omega
    have c3 : (0 : Int) ≤ ↑i + 1 := by omega
    have c4 : (↑i + 1 : Int) ≤ ↑S.size := by omega
    go_enter Tryd.func38, Tryd.ntmps38
    go_wp2_with (go_at_call 53; with_reducible refine (hst _).mono ?_; rintro e w9 ⟨rfl, hw9⟩; subst w9)
    go_quiet (fail)
    go_wp2
    go_ret
    exact ⟨by rw [← HCAT.out]; rfl, _, rfl⟩

end Go.Proofs.YtbdkalicgpdbkaaDoor
