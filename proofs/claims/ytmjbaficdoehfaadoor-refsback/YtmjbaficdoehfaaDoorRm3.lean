/-
  WALKS: the library's functions on strings at texts told by numbers; refs.hasStar, middle, fill, carry.
-/
import Derived.Test.YtmjbaficdoehfaaDoorRm2
import Derived.Test.YtmjbaficdoehfaaDoorRn5
import Derived.Test.YtmjbaficdoehfaaDoorTabK2
import Derived.Test.YtmjbaficdoehfaaDoorShStr
import Derived.Test.YtmjbaficdoehfaaDoorShRep
import Derived.Deep.QuietTactic
import Derived.BigQuiet
namespace Go.Proofs.YtmjbaficdoehfaaDoor
open Go.RowKit

/-- bytealg's longest text for its fast search lies in memory, whatever it is. -/
def MaxW (w : World) : Prop := ∃ m : Int, w.cell? ⟨2, 0, none⟩ = some (.int .i64 m)
theorem MaxW.kept {w w' : World} (h : MaxW w) (k : Kept [] w w') : MaxW w' := by
  obtain ⟨m, hm⟩ := h
  exact ⟨m, k.cell hm (by simp)⟩
theorem Has_any (xs : List Int) (ho : Octs xs) (w : World) :
    Calls Tryd.prog 58 #[.string (strOfNums xs), .string ⟨#[42]⟩] w fun e w' => e = .returned (.bool (starB xs)) ∧ w' = w := by
  have h := Any.strings_Contains_one Tryd.laysHas (strOfNums xs) 42 w
  rw [indexByte_mem, str_bytes, ← find_octs xs ho] at h
  exact h
theorem CutP_any (xs ps : List Int) (hx : Octs xs) (hp : Octs ps) (w : World) :
    Calls Tryd.prog 49 #[.string (strOfNums xs), .string (strOfNums ps)] w fun e w' => e = .returned (.tuple #[.string (strOfNums (if ps.isPrefixOf xs = true then xs.drop ps.length else xs)), .bool (ps.isPrefixOf xs)]) ∧ w' = w := by
  have h := Any.strings_CutPrefix Tryd.laysCutP (strOfNums xs) (strOfNums ps) w
  rw [str_bytes, str_bytes, trimP_bytes hp hx, ← str_of_bytes] at h
  unfold Lib.hasPrefix at h
  rw [pre_bytes hp hx] at h
  exact h
theorem CutS_any (xs ps : List Int) (hx : Octs xs) (hp : Octs ps) (hs : xs.length ≤ 9223372036854775807) (w : World) :
    Calls Tryd.prog 56 #[.string (strOfNums xs), .string (strOfNums ps)] w fun e w' => e = .returned (.tuple #[.string (strOfNums (if ps.isSuffixOf xs = true then xs.take (xs.length - ps.length) else xs)), .bool (ps.isSuffixOf xs)]) ∧ w' = w := by
  have h := Any.strings_CutSuffix Tryd.laysCutS (strOfNums xs) (strOfNums ps) w (by rw [strOfNums_size]; exact hs)
  rw [str_bytes, str_bytes, trimS_bytes hp hx, ← str_of_bytes] at h
  unfold Lib.hasSuffix at h
  rw [suf_bytes hp hx] at h
  exact h
set_option maxHeartbeats 1000000 in
theorem Cut_any (xs : List Int) (ho : Octs xs) (hs : xs.length ≤ 1000000000000000000) (w : World) :
    Calls Tryd.prog 51 #[.string (strOfNums xs), .string ⟨#[42]⟩] w fun e w' => e = .returned (.tuple #[.string (strOfNums (if starB xs = true then aheadL xs else xs)), .string (strOfNums (if starB xs = true then behindL xs else [])), .bool (starB xs)]) ∧ ∃ n, w' = w.drewN n := by
  have hix : ∀ W, Calls Tryd.prog 90 #[.string (strOfNums xs), .string ⟨#[42]⟩] W fun e w' => e = .returned (.int .i64 (if starB xs = true then ((aheadL xs).length : Int) else -1)) ∧ w' = W := fun W => by
    have h := Any.stringslite_Index_one Tryd.laysIdx (strOfNums xs) 42 W
    rw [str_bytes, index_star ho] at h
    exact h
  have hsz := strOfNums_size xs
  have hcut : Calls Tryd.prog 73 #[.string (strOfNums xs), .string ⟨#[42]⟩] w fun e w' => e = .returned (.tuple #[.string (strOfNums (if starB xs = true then aheadL xs else xs)), .string (strOfNums (if starB xs = true then behindL xs else [])), .bool (starB xs)]) ∧ ∃ n, w' = w.drewN n := by
    cases h : starB xs with
    | false =>
      rw [h] at hix
      simp only [Bool.false_eq_true, if_false] at hix ⊢
      have e0 : strOfNums [] = ⟨#[]⟩ := rfl
      rw [e0]
      clear h ho
      generalize strOfNums xs = S at *
      go_enter Tryd.func73, Tryd.ntmps73
      go_wp2_with (go_at_call 90; with_reducible refine (hix _).mono ?_; rintro e w9 ⟨rfl, hw9⟩; subst w9)
      go_ret3
      exact ⟨rfl, 0, rfl⟩
    | true =>
      rw [h] at hix
      simp only [if_true] at hix ⊢
      have hl := star_len h
      obtain ⟨h1, h2⟩ := ahead_take h
      have hx1 : (strOfNums xs).extract 0 (aheadL xs).length = strOfNums (aheadL xs) := by rw [str_sub, List.drop_zero, h1]
      have hx2 : (strOfNums xs).extract ((aheadL xs).length + 1) xs.length = strOfNums (behindL xs) := by rw [str_sub, List.take_length, h2]
      have hil : (aheadL xs).length + 1 ≤ xs.length := by omega
      clear h ho h1 h2 hl
      generalize strOfNums (aheadL xs) = SA at *
      generalize strOfNums (behindL xs) = SB at *
      generalize (aheadL xs).length = i at *
      generalize strOfNums xs = S at *
      have c1 : (0 : Int) ≤ ↑i := by omega
      have c2 : (↑i : Int) ≤ ↑S.size := by omega
      have c3 : (0 : Int) ≤ ↑i + 1 := by omega
      have c4 : (↑i + 1 : Int) ≤ ↑S.size := by omega
      go_enter Tryd.func73, Tryd.ntmps73
      go_wp2_with (go_at_call 90; with_reducible refine (hix _).mono ?_; rintro e w9 ⟨rfl, hw9⟩; subst w9)
      go_quiet (fail)
      go_wp2
      go_ret3
      exact ⟨rfl, _, rfl⟩
  clear hix ho
  generalize strOfNums xs = S at *
  generalize strOfNums (if starB xs = true then aheadL xs else xs) = SA at *
  generalize strOfNums (if starB xs = true then behindL xs else []) = SB at *
  generalize starB xs = b at *
  go_enter Tryd.func51, Tryd.ntmps51
  go_wp2_with (go_at_call 73; refine hcut.mono ?_; rintro e w1 ⟨rfl, n, rfl⟩)
  go_ret3
  exact ⟨rfl, n, rfl⟩
theorem Rep_any (side text : List Int) (hs : Octs side) (ht : Octs text) (hl : side.length ≤ 1000) (hl2 : text.length ≤ 1000) (w : World) (hM : MaxW w) :
    Calls Tryd.prog 57 #[.string (strOfNums side), .string ⟨#[42]⟩, .string (strOfNums text), .int .i64 1] w fun e w' => e = .returned (.string (strOfNums (fillL side text))) ∧ Kept [] w w' := by
  obtain ⟨m, hm⟩ := hM
  have hc : Lib.countB (strOfNums side) ⟨#[42]⟩ ≤ side.length := by
    show Lib.count (strOfNums side).data.toList [42] ≤ _
    rw [str_bytes, Lib.count_one, ← bytesU_len side]
    exact List.count_le_length
  have hmul : Lib.countB (strOfNums side) ⟨#[42]⟩ * (strOfNums text).size ≤ 1000 * 1000 := Nat.mul_le_mul (by omega) (by rw [strOfNums_size]; exact hl2)
  have h := Any.strings_Replace Tryd.laysRep Tryd.extraRep (strOfNums side) ⟨#[42]⟩ (strOfNums text) 1 m w (by rw [strOfNums_size]; omega) hm (by decide) (by rw [strOfNums_size]; omega)
  rw [str_bytes, str_bytes] at h
  have e := replace_put hs ht
  change Lib.replace (bytesU side) (⟨#[42]⟩ : ByteArray).data.toList (bytesU text) 1 = _ at e
  rw [e, ← str_of_bytes] at h
  exact h.mono fun e w' ⟨h1, h2⟩ => ⟨h1, kept_of_below h2⟩
set_option maxHeartbeats 1000000 in
theorem hasStar_any (xs : List Int) (ho : Octs xs) (w : World) : Calls Tryd.prog 42 #[.string (strOfNums xs)] w fun e w' => e = .returned (.bool (starB xs)) ∧ w' = w := by
  have h := Has_any xs ho w
  clear ho
  generalize strOfNums xs = S at *
  generalize starB xs = b at *
  go_enter Tryd.func42, Tryd.ntmps42
  go_wp2_with (go_at_call 58; with_reducible refine h.mono ?_; rintro e w9 ⟨rfl, hw9⟩; subst w9)
  go_ret
  exact ⟨rfl, rfl⟩
/-- A text that may be there, and whether it is. -/
def optV (r : Option (List Int)) : Value := .tuple #[.string (strOfNums (r.getD [])), .bool r.isSome]
end Go.Proofs.YtmjbaficdoehfaaDoor
