/-
  WALKS: satchelref3.Line, Name: for every text.
  WALKS: satchelref14's signs, part: what a part of a ref's name may be.
-/
import Derived.Test.YtbdkalicgpdbkaaDoorSg1
import Derived.Test.YtbdkalicgpdbkaaDoorRn0
namespace Go.Proofs.YtbdkalicgpdbkaaDoor
open Go.RowKit

/-- What is left of a line to be read, behind k bytes. -/
def LRun (xs : List Int) (k : Nat) : Prop := ∃ f, (xs.drop k).length ≤ f ∧ lineW xs.length xs = lineW f (xs.drop k)
theorem LRun.start (xs : List Int) : LRun xs 0 := ⟨xs.length, by simp, by simp⟩
theorem LRun.bad {xs : List Int} {k : Nat} (h : LRun xs k) (hk : k < xs.length) (hb : signN (xs.drop k) = 0 ∨ okByte (xs.getD k 0) = false) : lineW xs.length xs = false := by
  obtain ⟨f, hf, e⟩ := h
  rw [List.length_drop] at hf
  rw [e]
  cases f with
  | zero => omega
  | succ f =>
    have hne : xs.drop k ≠ [] := by
      intro h0
      have := congrArg List.length h0
      rw [List.length_drop] at this
      simp at this
      omega
    unfold lineW
    rw [if_neg hne, getD_drop, Nat.add_zero, if_pos hb]
theorem LRun.on {xs : List Int} {k : Nat} (h : LRun xs k) (hk : k < xs.length) (hs : signN (xs.drop k) ≠ 0) (hb : okByte (xs.getD k 0) = true) : LRun xs (k + signN (xs.drop k)) ∧ k + signN (xs.drop k) ≤ xs.length := by
  obtain ⟨f, hf, e⟩ := h
  rw [List.length_drop] at hf
  have hp : 0 < (xs.drop k).length := by rw [List.length_drop]; omega
  have h3 := (sign_high (xs.drop k) hs hp).1
  rw [List.length_drop] at h3
  cases f with
  | zero => omega
  | succ f =>
    have hne : xs.drop k ≠ [] := List.length_pos_iff.1 hp
    refine ⟨⟨f, by rw [List.length_drop]; omega, ?_⟩, by omega⟩
    rw [e]
    conv => lhs; unfold lineW
    rw [if_neg hne, getD_drop, Nat.add_zero, if_neg (by rintro (h | h); · exact hs h
                                                        · rw [hb] at h; cases h), List.drop_drop]
theorem LRun.ends {xs : List Int} {k : Nat} (h : LRun xs k) (hk : xs.length ≤ k) : lineW xs.length xs = true := by
  obtain ⟨f, hf, e⟩ := h
  rw [e, List.drop_eq_nil_of_le hk]
  cases f <;> simp [lineW]

set_option maxRecDepth 100000 in
set_option maxHeartbeats 4000000 in
theorem RLine_any (xs : List Int) (ho : Octs xs) (hs : xs.length ≤ 140737488355328) (most : Int) (w : World) :
    Calls Tryd.prog 54 #[.string (strOfNums xs), .int .i64 most] w fun e w' => e = .returned (.bool (lineB xs most)) ∧ w' = w := by
  have hsz := strOfNums_size xs
  rw [line_is xs ho most]
  by_cases hm : (xs.length : Int) ≤ most
  · have hgt : decide (most < (xs.length : Int)) = false := decide_eq_false (by omega)
    rw [decide_eq_true hm, Bool.true_and]
    have HSG : Hid (∀ k, k < xs.length → ∀ W, Calls Tryd.prog 74 #[.string (strOfNums xs), .int .i64 k] W fun e w' => e = .returned (.int .i64 (signN (xs.drop k))) ∧ w' = W) := fun k hk W => sign_any xs ho hs k hk W
    have HIX : Hid (∀ k, k < xs.length → ∀ W, (Instr.index 9 (.string (strOfNums xs)) (.int .i64 k)).run Tryd.prog W = .ok (.int .u8 (xs.getD k 0)) W) := fun k hk W => str_ix xs ho k hk W
    have HOc : Hid (∀ k, 0 ≤ xs.getD k 0 ∧ xs.getD k 0 ≤ 255) := fun k => by
      rw [List.getD_eq_getElem?_getD]
      exact octs_getD ho k
    clear ho hm
    generalize strOfNums xs = S at *
    go_enter Tryd.func54, Tryd.ntmps54
    go_wp2
    go_loopw [5, 6] (fun s5 _ wr => ∃ k : Nat, k ≤ xs.length ∧ s5 = .int .i64 k ∧ wr = w ∧ Hid (LRun xs k)) (fun s5 _ _ => xs.length - (intOf s5).toNat)
    case atStart => exact ⟨0, Nat.zero_le _, rfl, rfl, LRun.start xs⟩
    case round =>
      obtain ⟨k, hk, rfl, hw, HR⟩ := hrel
      subst hw
      by_cases hlt : k < xs.length
      · have d0 : decide ((k : Int) < (xs.length : Int)) = true := by simp; omega
        have hix := HIX.out k hlt
        have hsg := HSG.out k hlt wr
        have hx := HOc.out k
        have HBad : Hid ((signN (xs.drop k) = 0 ∨ okByte (xs.getD k 0) = false) → lineW xs.length xs = false) := fun h => HR.out.bad hlt h
        have HOn : Hid (signN (xs.drop k) ≠ 0 → okByte (xs.getD k 0) = true → LRun xs (k + signN (xs.drop k)) ∧ k + signN (xs.drop k) ≤ xs.length) := fun a b => HR.out.on hlt a b
        generalize xs.getD k 0 = x at *
        generalize signN (xs.drop k) = n at *
        clear HR
        by_cases hn : n = 0
        · subst hn
          have HF : Hid (lineW xs.length xs = false) := HBad.out (Or.inl rfl)
          go_wp2_with fail
          go_at_call 74
          refine hsg.mono ?_
          rintro e w9 ⟨rfl, hw9⟩
          subst w9
          go_wp2
          go_ret
          exact ⟨by rw [HF.out]; exact rfl, rfl⟩
        · have e0 : ((n : Int) == 0) = false := by simp; omega
          by_cases h1 : x < 32
          · have d1 : decide (x < 32) = true := by simpa using h1
            have HF : Hid (lineW xs.length xs = false) := HBad.out (Or.inr (by unfold okByte; simp; omega))
            go_wp2_with fail
            go_at_call 74
            refine hsg.mono ?_
            rintro e w9 ⟨rfl, hw9⟩
            subst w9
            go_wp2
            go_ret
            exact ⟨by rw [HF.out]; exact rfl, rfl⟩
          · have d1 : decide (x < 32) = false := by simpa using h1
            by_cases h2 : x = 127
            · have d2 : (x == 127) = true := by simpa using h2
              have HF : Hid (lineW xs.length xs = false) := HBad.out (Or.inr (by unfold okByte; simp; omega))
              clear h2
              go_wp2_with fail
              go_at_call 74
              refine hsg.mono ?_
              rintro e w9 ⟨rfl, hw9⟩
              subst w9
              go_wp2
              go_ret
              exact ⟨by rw [HF.out]; exact rfl, rfl⟩
            · have d2 : (x == 127) = false := by simpa using h2
              obtain ⟨hL, hle⟩ := HOn.out hn (by unfold okByte; simp; omega)
              have HL : Hid (LRun xs (k + n)) := hL
              have hw1 : IntKind.i64.wrap ((k : Int) + n) = ((k + n : Nat) : Int) := by rw [IntKind.wrap_i64]; omega
              clear hL h2 HBad HOn
              generalize hkn : k + n = kn at *
              have HKN : Hid (k + n = kn) := hkn
              clear hkn
              go_wp2_with fail
              go_at_call 74
              refine hsg.mono ?_
              rintro e w9 ⟨rfl, hw9⟩
              subst w9
              go_wp2
              go_roundw
              case rel => exact ⟨kn, hle, rfl, by first | exact rfl | trivial, HL.out⟩
              case measure => have := HKN.out; simp [intOf]; omega
      · have d0 : decide ((k : Int) < (xs.length : Int)) = false := by simp; omega
        have HF : Hid (lineW xs.length xs = true) := HR.out.ends (by omega)
        go_wp2
        go_ret
        exact ⟨by rw [HF.out]; exact rfl, rfl⟩
  · have hgt : decide (most < (xs.length : Int)) = true := decide_eq_true (by omega)
    rw [decide_eq_false hm, Bool.false_and]
    clear hm
    generalize strOfNums xs = S at *
    go_enter Tryd.func54, Tryd.ntmps54
    go_wp2
    go_ret
    exact ⟨rfl, rfl⟩

end Go.Proofs.YtbdkalicgpdbkaaDoor

namespace Go.Proofs.YtbdkalicgpdbkaaDoor
open Go.RowKit

set_option maxRecDepth 100000 in
set_option maxHeartbeats 2000000 in
theorem signs_any (c : Int) (h0 : 0 ≤ c) (h1 : c ≤ 255) (w : World) : Calls Tryd.prog 75 #[.int .u8 c] w fun e w' => e = .returned (.bool (charB c)) ∧ w' = w := by
  obtain ⟨r, hr⟩ : ∃ r, r = charB c := ⟨_, rfl⟩
  rw [← hr]
  rcases (by omega : c ≤ 44 ∨ c = 45 ∨ c = 46 ∨ c = 47 ∨ (48 ≤ c ∧ c ≤ 57) ∨ (58 ≤ c ∧ c ≤ 64) ∨ (65 ≤ c ∧ c ≤ 90) ∨ (91 ≤ c ∧ c ≤ 94) ∨ c = 95 ∨ c = 96 ∨ (97 ≤ c ∧ c ≤ 122) ∨ (123 ≤ c ∧ c ≤ 127) ∨ 128 ≤ c) with h | h | h | h | h | h | h | h | h | h | h | h | h
  all_goals
    first | (have f1 : decide ((97 : Int) ≤ c) = true := decide_eq_true (by omega)) | (have f1 : decide ((97 : Int) ≤ c) = false := decide_eq_false (by omega))
    first | (have f2 : decide (c ≤ (122 : Int)) = true := decide_eq_true (by omega)) | (have f2 : decide (c ≤ (122 : Int)) = false := decide_eq_false (by omega))
    first | (have f3 : decide ((65 : Int) ≤ c) = true := decide_eq_true (by omega)) | (have f3 : decide ((65 : Int) ≤ c) = false := decide_eq_false (by omega))
    first | (have f4 : decide (c ≤ (90 : Int)) = true := decide_eq_true (by omega)) | (have f4 : decide (c ≤ (90 : Int)) = false := decide_eq_false (by omega))
    first | (have f5 : decide ((48 : Int) ≤ c) = true := decide_eq_true (by omega)) | (have f5 : decide ((48 : Int) ≤ c) = false := decide_eq_false (by omega))
    first | (have f6 : decide (c ≤ (57 : Int)) = true := decide_eq_true (by omega)) | (have f6 : decide (c ≤ (57 : Int)) = false := decide_eq_false (by omega))
    first | (have f7 : (c == (46 : Int)) = true := beq_iff_eq.2 (by omega)) | (have f7 : (c == (46 : Int)) = false := beq_eq_false_iff_ne.2 (by omega))
    first | (have f8 : (c == (95 : Int)) = true := beq_iff_eq.2 (by omega)) | (have f8 : (c == (95 : Int)) = false := beq_eq_false_iff_ne.2 (by omega))
    first | (have f9 : (c == (45 : Int)) = true := beq_iff_eq.2 (by omega)) | (have f9 : (c == (45 : Int)) = false := beq_eq_false_iff_ne.2 (by omega))
    first | (have f0 : decide ((128 : Int) ≤ c) = true := decide_eq_true (by omega)) | (have f0 : decide ((128 : Int) ≤ c) = false := decide_eq_false (by omega))
    first
      | (have HR : r = true := by
           rw [hr]; unfold charB alnumB; simp only [Bool.or_eq_true, Bool.and_eq_true, decide_eq_true_eq]; omega)
      | (have HR : r = false := by
           rw [hr]; unfold charB alnumB; simp only [Bool.or_eq_false_iff, Bool.and_eq_false_iff, decide_eq_false_iff_not]; omega)
    subst HR
    clear h h0 h1 hr
    go_enter Tryd.func75, Tryd.ntmps75
    go_wp2
    go_ret
    exact ⟨rfl, rfl⟩
end Go.Proofs.YtbdkalicgpdbkaaDoor
