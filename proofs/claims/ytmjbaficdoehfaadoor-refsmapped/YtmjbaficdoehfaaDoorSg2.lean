/-
  WALKS: satchelref3.Line, Name: for every text.
-/
import Derived.Test.YtmjbaficdoehfaaDoorSg1
namespace Go.Proofs.YtmjbaficdoehfaaDoor
open Go.RowKit

/-- What is left of a line to be read, behind k bytes. -/
def LRun (xs : List Int) (k : Nat) : Prop := ∃ f, (xs.drop k).length ≤ f ∧ lineW xs.length xs = lineW f (xs.drop k)
theorem LRun.start (xs : List Int) : LRun xs 0 := ⟨xs.length, by simp, by simp⟩
theorem LRun.bad {xs : List Int} {k : Nat} (h : LRun xs k) (hk : k < xs.length) (hb : signN (xs.drop k) = 0 ∨ okByte (xs.getD k 0) = false) : lineW xs.length xs = false := by
  obtain ⟨f, hf, e⟩ := h
  rw [List.length_drop] at hf
  rw [e]
  cases f with
  | zero => omega
  | succ f =>
    have hne : xs.drop k ≠ [] := by
      intro h0
      have := congrArg List.length h0
      rw [List.length_drop] at this
      simp at this
      omega
    unfold lineW
    rw [if_neg hne, getD_drop, Nat.add_zero, if_pos hb]
theorem LRun.on {xs : List Int} {k : Nat} (h : LRun xs k) (hk : k < xs.length) (hs : signN (xs.drop k) ≠ 0) (hb : okByte (xs.getD k 0) = true) : LRun xs (k + signN (xs.drop k)) ∧ k + signN (xs.drop k) ≤ xs.length := by
  obtain ⟨f, hf, e⟩ := h
  rw [List.length_drop] at hf
  have hp : 0 < (xs.drop k).length := by rw [List.length_drop]; omega
  have h3 := (sign_high (xs.drop k) hs hp).1
  rw [List.length_drop] at h3
  cases f with
  | zero => omega
  | succ f =>
    have hne : xs.drop k ≠ [] := List.length_pos_iff.1 hp
    refine ⟨⟨f, by rw [List.length_drop]; omega, ?_⟩, by omega⟩
    rw [e]
    conv => lhs; unfold lineW
    rw [if_neg hne, getD_drop, Nat.add_zero, if_neg (by rintro (h | h); · exact hs h
                                                        · rw [hb] at h; cases h), List.drop_drop]
theorem LRun.ends {xs : List Int} {k : Nat} (h : LRun xs k) (hk : xs.length ≤ k) : lineW xs.length xs = true := by
  obtain ⟨f, hf, e⟩ := h
  rw [e, List.drop_eq_nil_of_le hk]
  cases f <;> simp [lineW]

set_option maxRecDepth 100000 in
set_option maxHeartbeats 4000000 in
theorem RLine_any (xs : List Int) (ho : Octs xs) (hs : xs.length ≤ 140737488355328) (most : Int) (w : World) :
    Calls Tryd.prog 54 #[.string (strOfNums xs), .int .i64 most] w fun e w' => e = .returned (.bool (lineB xs most)) ∧ w' = w := by
  have hsz := strOfNums_size xs
  rw [line_is xs ho most]
  by_cases hm : (xs.length : Int) ≤ most
  · have hgt : decide (most < (xs.length : Int)) = false := decide_eq_false (by omega)
    rw [decide_eq_true hm, Bool.true_and]
    have HSG : Hid (∀ k, k < xs.length → ∀ W, Calls Tryd.prog 74 #[.string (strOfNums xs), .int .i64 k] W fun e w' => e = .returned (.int .i64 (signN (xs.drop k))) ∧ w' = W) := fun k hk W => sign_any xs ho hs k hk W
    have HIX : Hid (∀ k, k < xs.length → ∀ W, (Instr.index 9 (.string (strOfNums xs)) (.int .i64 k)).run Tryd.prog W = .ok (.int .u8 (xs.getD k 0)) W) := fun k hk W => str_ix xs ho k hk W
    have HOc : Hid (∀ k, 0 ≤ xs.getD k 0 ∧ xs.getD k 0 ≤ 255) := fun k => by
      rw [List.getD_eq_getElem?_getD]
      exact octs_getD ho k
    clear ho hm
    generalize strOfNums xs = S at *
    go_enter Tryd.func54, Tryd.ntmps54
    go_wp2
    go_loopw [5, 6] (fun s5 _ wr => ∃ k : Nat, k ≤ xs.length ∧ s5 = .int .i64 k ∧ wr = w ∧ Hid (LRun xs k)) (fun s5 _ _ => xs.length - (intOf s5).toNat)
    case atStart => exact ⟨0, Nat.zero_le _, rfl, rfl, LRun.start xs⟩
    case round =>
      obtain ⟨k, hk, rfl, hw, HR⟩ := hrel
      subst hw
      by_cases hlt : k < xs.length
      · have d0 : decide ((k : Int) < (xs.length : Int)) = true := by simp; omega
        have hix := HIX.out k hlt
        have hsg := HSG.out k hlt wr
        have hx := HOc.out k
        have HBad : Hid ((signN (xs.drop k) = 0 ∨ okByte (xs.getD k 0) = false) → lineW xs.length xs = false) := fun h => HR.out.bad hlt h
        have HOn : Hid (signN (xs.drop k) ≠ 0 → okByte (xs.getD k 0) = true → LRun xs (k + signN (xs.drop k)) ∧ k + signN (xs.drop k) ≤ xs.length) := fun a b => HR.out.on hlt a b
        generalize xs.getD k 0 = x at *
        generalize signN (xs.drop k) = n at *
        clear HR
        by_cases hn : n = 0
        · subst hn
          have HF : Hid (lineW xs.length xs = false) := HBad.out (Or.inl rfl)
          go_wp2_with fail
          go_at_call 74
          refine hsg.mono ?_
          rintro e w9 ⟨rfl, hw9⟩
          subst w9
          go_wp2
          go_ret
          exact ⟨by rw [HF.out]; exact rfl, rfl⟩
        · have e0 : ((n : Int) == 0) = false := by simp; omega
          by_cases h1 : x < 32
          · have d1 : decide (x < 32) = true := by simpa using h1
            have HF : Hid (lineW xs.length xs = false) := HBad.out (Or.inr (by unfold okByte; simp; omega))
            go_wp2_with fail
            go_at_call 74
            refine hsg.mono ?_
            rintro e w9 ⟨rfl, hw9⟩
            subst w9
            go_wp2
            go_ret
            exact ⟨by rw [HF.out]; exact rfl, rfl⟩
          · have d1 : decide (x < 32) = false := by simpa using h1
            by_cases h2 : x = 127
            · have d2 : (x == 127) = true := by simpa using h2
              have HF : Hid (lineW xs.length xs = false) := HBad.out (Or.inr (by unfold okByte; simp; omega))
              clear h2
              go_wp2_with fail
              go_at_call 74
              refine hsg.mono ?_
              rintro e w9 ⟨rfl, hw9⟩
              subst w9
              go_wp2
              go_ret
              exact ⟨by rw [HF.out]; exact rfl, rfl⟩
            · have d2 : (x == 127) = false := by simpa using h2
              obtain ⟨hL, hle⟩ := HOn.out hn (by unfold okByte; simp; omega)
              have HL : Hid (LRun xs (k + n)) := hL
              have hw1 : IntKind.i64.wrap ((k : Int) + n) = ((k + n : Nat) : Int) := by rw [IntKind.wrap_i64]; omega
              clear hL h2 HBad HOn
              generalize hkn : k + n = kn at *
              have HKN : Hid (k + n = kn) := hkn
              clear hkn
              go_wp2_with fail
              go_at_call 74
              refine hsg.mono ?_
              rintro e w9 ⟨rfl, hw9⟩
              subst w9
              go_wp2
              go_roundw
              case rel => exact ⟨kn, hle, rfl, by first | exact rfl | trivial, HL.out⟩
              case measure => have := HKN.out; simp [intOf]; omega
      · have d0 : decide ((k : Int) < (xs.length : Int)) = false := by simp; omega
        have HF : Hid (lineW xs.length xs = true) := HR.out.ends (by omega)
        go_wp2
        go_ret
        exact ⟨by rw [HF.out]; exact rfl, rfl⟩
  · have hgt : decide (most < (xs.length : Int)) = true := decide_eq_true (by omega)
    rw [decide_eq_false hm, Bool.false_and]
    clear hm
    generalize strOfNums xs = S at *
    go_enter Tryd.func54, Tryd.ntmps54
    go_wp2
    go_ret
    exact ⟨rfl, rfl⟩

end Go.Proofs.YtmjbaficdoehfaaDoor
