/-
  What Parse and Hex say of a text that is read, and satchellaw2.num.
-/
import Derived.Test.YtnnbfdnkpohnfaaHex3
import Derived.Test.YtnnbfdnkpohnfaaIdEq
import Derived.Deep.WholeRow
namespace Go.Proofs.Ytnnbfdnkpohnfaa
open Go.RowKit

theorem wpList_wanted {P : Program} {ops : Array Oper} {rest : List Oper} {o : Oper} {a : Act} {w : World} {Q : Exit → Act → World → Prop} (hw : Region.wanted o (yielded ops a.tmps) = true)
    (h : ∀ K : Act → World → Prop, (∀ a w, wpList P ops Q rest a w → K a w) → o.wp P a w K Q) : wpList P ops Q (o :: rest) a w :=
  wpList_step fun K hK => by rw [if_pos hw]; exact h K hK
theorem num2_any (n : Int) (w : World) : Calls Try.prog 31 #[.int .i64 n] w fun e w' => e = .returned (.int .i64 n) ∧ w' = w := by
  go_enter Try.func31, Try.ntmps31
  go_wp2
  go_ret
  exact ⟨rfl, rfl⟩

/-- Is the text right up to its k-th letter? -/
def okL (xs : List Int) (k : Nat) : Bool := decide (xs.length = 64) && (xs.take k).all fun c => decide (isDigit c)

theorem okL_zero (xs : List Int) : okL xs 0 = decide (xs.length = 64) := by simp [okL]
theorem okL_succ (xs : List Int) (k : Nat) (h : k < xs.length) : okL xs (k + 1) = (okL xs k && decide (isDigit (xs[k]?.getD 0))) := by
  unfold okL
  rw [List.take_succ_eq_append_getElem h, List.all_append, Bool.and_assoc]
  simp [h]
theorem okL_all (xs : List Int) : okL xs xs.length = true ↔ (xs.length = 64 ∧ ∀ c ∈ xs, isDigit c) := by
  simp [okL]

set_option maxRecDepth 100000 in
/-- What a text is read as: whatever it is. -/
theorem parse_any (xs : List Int) (ho : Octs xs) : ∃ ps pe, ps.length = 32 ∧ (∀ W, Calls Try.prog 30 #[.string (strOfNums xs)] W fun e w' => Kept [] W w' ∧ e = .returned (.tuple #[.agg (idC ps), .int .i64 pe])) ∧
    (okL xs xs.length = true → pe = 0 ∧ ∀ W, Calls Try.prog 29 #[.agg (idC ps)] W fun e w' => e = .returned (.string (strOfNums xs)) ∧ Kept [] W w') ∧
    (okL xs xs.length = false → pe = 20 ∧ ps = zero32) := by
  by_cases h : xs.length = 64 ∧ ∀ c ∈ xs, isDigit c
  · refine ⟨begL xs xs.length, 0, begL_len _ _, fun W => (Parse_any xs W ho).mono fun e w' q => ⟨q.1, q.2.1 h⟩, fun _ => ⟨rfl, fun W => ?_⟩, fun e => ?_⟩
    · have e : hexL (begL xs xs.length) = xs := by rw [h.1]; exact hex_beg xs h.1 h.2
      have q := Hex_any (begL xs xs.length) W (begL_len _ _) (begL_octs _ _)
      rw [e] at q
      exact q
    · rw [(okL_all xs).2 h] at e; cases e
  · refine ⟨zero32, 20, rfl, fun W => (Parse_any xs W ho).mono fun e w' q => ⟨q.1, q.2.2 h⟩, fun e => absurd ((okL_all xs).1 e) h, fun _ => ⟨rfl, rfl⟩⟩
end Go.Proofs.Ytnnbfdnkpohnfaa
