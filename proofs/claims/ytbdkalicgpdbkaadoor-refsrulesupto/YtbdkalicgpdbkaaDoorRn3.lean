/-
  WALK: satchelref14.part: what a part of a ref's name may be.
-/
import Derived.Test.YtbdkalicgpdbkaaDoorRn2
namespace Go.Proofs.YtbdkalicgpdbkaaDoor
open Go.RowKit

theorem dotsB_pre : ∀ (a b : List Int) (l : Int), dotsB l (a ++ b) = true → dotsB l a = true
  | [], _, _, _ => rfl
  | x :: a, b, l, h => by
    rw [List.cons_append, dotsB, Bool.and_eq_true] at h
    rw [dotsB, h.1, dotsB_pre a b x h.2]
    rfl
theorem last_getD {xs : List Int} (h : xs ≠ []) : xs.getLast? = some (xs.getD (xs.length - 1) 0) := by
  have hp := List.length_pos_iff.2 h
  rw [List.getLast?_eq_getElem?, List.getD_eq_getElem?_getD, List.getElem?_eq_getElem (by omega)]
  rfl
theorem head_getD {xs : List Int} (h : xs ≠ []) : xs.head? = some (xs.getD 0 0) := by
  cases xs with
  | nil => exact absurd rfl h
  | cons a t => rfl
theorem take_last {xs : List Int} {k : Nat} (h0 : 0 < k) (hk : k ≤ xs.length) : (xs.take k).getLast? = some (xs.getD (k - 1) 0) := by
  have hne : xs.take k ≠ [] := by
    intro e
    have := congrArg List.length e
    rw [List.length_take, List.length_nil] at this
    omega
  rw [last_getD hne, List.length_take, Nat.min_eq_left hk, List.getD_eq_getElem?_getD, List.getD_eq_getElem?_getD, List.getElem?_take_of_lt (by omega)]
theorem take_succ_getD {xs : List Int} {k : Nat} (hk : k < xs.length) : xs.take (k + 1) = xs.take k ++ [xs.getD k 0] := by
  rw [List.take_succ_eq_append_getElem hk, List.getD_eq_getElem?_getD, List.getElem?_eq_getElem hk]
  rfl
/-- One byte more of a part. -/
theorem dots_step {xs : List Int} {k : Nat} (hk : k < xs.length) (h : dotsB 0 (xs.take k) = true) (hs : charB (xs.getD k 0) = true) (hd : k = 0 ∨ xs.getD k 0 ≠ 46 ∨ xs.getD (k - 1) 0 ≠ 46) : dotsB 0 (xs.take (k + 1)) = true := by
  rw [take_succ_getD hk, dotsB_snoc, h, hs]
  by_cases h0 : k = 0
  · subst h0
    simp
  · rw [take_last (by omega) (by omega), Option.getD_some]
    rcases hd with hd | hd | hd
    · exact absurd hd h0
    · rw [decide_eq_false hd]; rfl
    · rw [decide_eq_false hd, Bool.and_false]; rfl
theorem dots_bad {xs : List Int} {k : Nat} (hk : k < xs.length) (hd : charB (xs.getD k 0) = false ∨ (0 < k ∧ xs.getD k 0 = 46 ∧ xs.getD (k - 1) 0 = 46)) : dotsB 0 xs = false := by
  cases h : dotsB 0 xs with
  | false => rfl
  | true =>
    have e : xs = xs.take (k + 1) ++ xs.drop (k + 1) := (List.take_append_drop _ _).symm
    rw [e] at h
    have h2 := dotsB_pre _ _ _ h
    rw [take_succ_getD hk, dotsB_snoc, Bool.and_eq_true, Bool.and_eq_true] at h2
    rcases hd with hd | ⟨h0, h3, h4⟩
    · rw [hd] at h2
      simp at h2
    · rw [take_last h0 (by omega), Option.getD_some, h3, h4] at h2
      simp at h2

set_option maxRecDepth 100000 in
set_option maxHeartbeats 4000000 in
theorem part_any (xs : List Int) (ho : Octs xs) (hs : xs.length ≤ 1000000) (w : World) : Calls Tryd.prog 55 #[.string (strOfNums xs)] w fun e w' => e = .returned (.bool (partB xs)) ∧ w' = w := by
  have hsz := strOfNums_size xs
  have HIX : Hid (∀ k, k < xs.length → ∀ W, (Instr.index 9 (.string (strOfNums xs)) (.int .i64 k)).run Tryd.prog W = .ok (.int .u8 (xs.getD k 0)) W) := fun k hk W => str_ix xs ho k hk W
  have h0 := str_list xs [] [] ho (fun u hu => by simp at hu) rfl
  have HOc : Hid (∀ k, 0 ≤ xs.getD k 0 ∧ xs.getD k 0 ≤ 255) := fun k => by
    rw [List.getD_eq_getElem?_getD]
    exact octs_getD ho k
  clear ho
  generalize strOfNums xs = S at *
  by_cases c0 : xs = []
  · have HN : Hid (partB xs = false) := by
      have : partB xs = false := by rw [c0]; rfl
      exact this
    have p0 := h0.2 c0
    clear h0 c0
    go_enter Tryd.func55, Tryd.ntmps55
    go_wp2
    go_ret
    exact ⟨by rw [HN.out]; rfl, rfl⟩
  have p0 : ¬ S.toList = [] := fun e => c0 (h0.1 e)
  have q0 : S.toList.isEmpty = false := by simpa using p0
  have hp : 0 < xs.length := List.length_pos_iff.2 c0
  have hix0 : ∀ W, (Instr.index 9 (.string S) (.int .i64 0)).run Tryd.prog W = .ok (.int .u8 (xs.getD 0 0)) W := HIX.out 0 hp
  have hixl := HIX.out (xs.length - 1) (by omega)
  have hcl : ((xs.length - 1 : Nat) : Int) = (xs.length : Int) - 1 := by omega
  rw [hcl] at hixl
  have HPB : Hid (partB xs = (!decide (xs.getD 0 0 = 46) && !decide (xs.getD 0 0 = 45) && !decide (xs.getD (xs.length - 1) 0 = 46) && dotsB 0 xs)) := by
    have : partB xs = (!decide (xs.getD 0 0 = 46) && !decide (xs.getD 0 0 = 45) && !decide (xs.getD (xs.length - 1) 0 = 46) && dotsB 0 xs) := by
      unfold partB
      rw [head_getD c0, last_getD c0]
      simp [c0]
    exact this
  clear h0 p0 hcl
  by_cases c1 : xs.getD 0 0 = 46
  · have HN : Hid (partB xs = false) := by
      have : partB xs = false := by rw [HPB.out, decide_eq_true c1]; rfl
      exact this
    have d1 : (xs.getD 0 0 == 46) = true := by simpa using c1
    clear c0 c1 HIX HOc HPB hixl
    generalize xs.getD 0 0 = x0 at *
    go_enter Tryd.func55, Tryd.ntmps55
    go_wp2
    go_ret
    exact ⟨by rw [HN.out]; rfl, rfl⟩
  have d1 : (xs.getD 0 0 == 46) = false := by simpa using c1
  by_cases c2 : xs.getD 0 0 = 45
  · have HN : Hid (partB xs = false) := by
      have : partB xs = false := by rw [HPB.out, decide_eq_true c2]; simp
      exact this
    have d2 : (xs.getD 0 0 == 45) = true := by simpa using c2
    clear c0 c1 c2 HIX HOc HPB hixl
    generalize xs.getD 0 0 = x0 at *
    go_enter Tryd.func55, Tryd.ntmps55
    go_wp2
    go_ret
    exact ⟨by rw [HN.out]; rfl, rfl⟩
  have d2 : (xs.getD 0 0 == 45) = false := by simpa using c2
  by_cases c3 : xs.getD (xs.length - 1) 0 = 46
  · have HN : Hid (partB xs = false) := by
      have : partB xs = false := by rw [HPB.out, decide_eq_true c3]; simp
      exact this
    have d3 : (xs.getD (xs.length - 1) 0 == 46) = true := by simpa using c3
    clear c0 c1 c2 c3 HIX HOc HPB
    generalize xs.getD 0 0 = x0 at *
    generalize xs.getD (xs.length - 1) 0 = xl at *
    go_enter Tryd.func55, Tryd.ntmps55
    go_wp2
    go_ret
    exact ⟨by rw [HN.out]; rfl, rfl⟩
  have d3 : (xs.getD (xs.length - 1) 0 == 46) = false := by simpa using c3
  have HD : Hid (partB xs = dotsB 0 xs) := by
    have : partB xs = dotsB 0 xs := by rw [HPB.out, decide_eq_false c1, decide_eq_false c2, decide_eq_false c3]; rfl
    exact this
  have HSG : Hid (∀ k W, Calls Tryd.prog 75 #[.int .u8 (xs.getD k 0)] W fun e w' => e = .returned (.bool (charB (xs.getD k 0))) ∧ w' = W) := fun k W => signs_any _ (HOc.out k).1 (HOc.out k).2 W
  obtain ⟨x0, hx0⟩ : ∃ x, x = xs.getD 0 0 := ⟨_, rfl⟩
  obtain ⟨xl, hxl⟩ : ∃ x, x = xs.getD (xs.length - 1) 0 := ⟨_, rfl⟩
  rw [← hx0] at hix0 d1 d2
  rw [← hxl] at hixl d3
  clear c0 c1 c2 c3 HPB hx0 hxl
  go_enter Tryd.func55, Tryd.ntmps55
  go_wp2
  go_loop [3] (fun s3 => ∃ k : Nat, k ≤ xs.length ∧ s3 = .int .i64 k ∧ Hid (dotsB 0 (xs.take k) = true)) (fun s3 => xs.length - (intOf s3).toNat)
  case atStart => exact ⟨0, Nat.zero_le _, rfl, rfl⟩
  case round =>
    obtain ⟨k, hk, rfl, HK⟩ := hrel
    clear hix0 hixl d1 d2 d3 q0
    by_cases hlt : k < xs.length
    · have t0 : decide ((k : Int) < (xs.length : Int)) = true := by simp; omega
      have hix := HIX.out k hlt
      have hsg := HSG.out k
      have HST : Hid (charB (xs.getD k 0) = true → (k = 0 ∨ xs.getD k 0 ≠ 46 ∨ xs.getD (k - 1) 0 ≠ 46) → dotsB 0 (xs.take (k + 1)) = true) := fun a b => dots_step hlt HK.out a b
      have HBD : Hid ((charB (xs.getD k 0) = false ∨ (0 < k ∧ xs.getD k 0 = 46 ∧ xs.getD (k - 1) 0 = 46)) → dotsB 0 xs = false) := fun h => dots_bad hlt h
      by_cases e1 : charB (xs.getD k 0) = true
      · rw [e1] at hsg
        by_cases e2 : k = 0
        · have HN : Hid (dotsB 0 (xs.take (k + 1)) = true) := HST.out e1 (Or.inl e2)
          have t1 : decide ((0 : Int) < (k : Int)) = false := by simp; omega
          have t1' : ¬ 0 < k := by omega
          clear e1 e2 HST HBD
          generalize xs.getD k 0 = x at *
          go_wp2_with (go_at_call 75; with_reducible refine (hsg _).mono ?_; rintro e w9 ⟨rfl, hw9⟩; subst w9)
          go_round
          case rel => exact ⟨k + 1, by omega, by go_num, HN⟩
          case measure => simp [intOf]; omega
        · have t1 : decide ((0 : Int) < (k : Int)) = true := by simp; omega
          have t1' : 0 < k := by omega
          by_cases e3 : xs.getD k 0 = 46
          · have t2 : (xs.getD k 0 == 46) = true := by simpa using e3
            have hix2 := HIX.out (k - 1) (by omega)
            have hck : ((k - 1 : Nat) : Int) = (k : Int) - 1 := by omega
            rw [hck] at hix2
            clear hck
            by_cases e4 : xs.getD (k - 1) 0 = 46
            · have t3 : (xs.getD (k - 1) 0 == 46) = true := by simpa using e4
              have HF : Hid (partB xs = false) := HD.out.trans (HBD.out (Or.inr ⟨by omega, e3, e4⟩))
              clear e1 e3 e4 HST HBD
              generalize xs.getD k 0 = x at *
              generalize xs.getD (k - 1) 0 = y at *
              go_wp2_with (go_at_call 75; with_reducible refine (hsg _).mono ?_; rintro e w9 ⟨rfl, hw9⟩; subst w9)
              go_ret
              exact ⟨by rw [HF.out]; rfl, rfl⟩
            · have t3 : (xs.getD (k - 1) 0 == 46) = false := by simpa using e4
              have HN : Hid (dotsB 0 (xs.take (k + 1)) = true) := HST.out e1 (Or.inr (Or.inr e4))
              clear e1 e3 e4 HST HBD
              generalize xs.getD k 0 = x at *
              generalize xs.getD (k - 1) 0 = y at *
              go_wp2_with (go_at_call 75; with_reducible refine (hsg _).mono ?_; rintro e w9 ⟨rfl, hw9⟩; subst w9)
              go_round
              case rel => exact ⟨k + 1, by omega, by go_num, HN⟩
              case measure => simp [intOf]; omega
          · have t2 : (xs.getD k 0 == 46) = false := by simpa using e3
            have HN : Hid (dotsB 0 (xs.take (k + 1)) = true) := HST.out e1 (Or.inr (Or.inl e3))
            clear e1 e3 HST HBD
            generalize xs.getD k 0 = x at *
            go_wp2_with (go_at_call 75; with_reducible refine (hsg _).mono ?_; rintro e w9 ⟨rfl, hw9⟩; subst w9)
            go_round
            case rel => exact ⟨k + 1, by omega, by go_num, HN⟩
            case measure => simp [intOf]; omega
      · have e1' : charB (xs.getD k 0) = false := by simpa using e1
        rw [e1'] at hsg
        have HF : Hid (partB xs = false) := HD.out.trans (HBD.out (Or.inl e1'))
        clear e1 e1' HST HBD
        generalize xs.getD k 0 = x at *
        go_wp2_with (go_at_call 75; with_reducible refine (hsg _).mono ?_; rintro e w9 ⟨rfl, hw9⟩; subst w9)
        go_ret
        exact ⟨by rw [HF.out]; rfl, rfl⟩
    · have t0 : decide ((k : Int) < (xs.length : Int)) = false := by simp; omega
      have HF : Hid (partB xs = true) := by
        have h := HK.out
        rw [List.take_of_length_le (by omega)] at h
        exact HD.out.trans h
      go_wp2
      go_ret
      exact ⟨by rw [HF.out]; rfl, rfl⟩
end Go.Proofs.YtbdkalicgpdbkaaDoor
