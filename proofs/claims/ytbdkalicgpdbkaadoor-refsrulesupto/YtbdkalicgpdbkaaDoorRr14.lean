/-
  PLAIN: the runes of a text and its words: a rune that begins above 127 takes only such bytes, and is no blank.
-/
import Derived.Test.YtbdkalicgpdbkaaDoorRr0
import Derived.Test.YtbdkalicgpdbkaaDoorObj1
namespace Go.Proofs.YtbdkalicgpdbkaaDoor
open Go.RowKit

/-- A blank. -/
def blankB (b : Int) : Bool := decide (b = 32) || decide (b = 10)
/-- What stands at place i of a text, read as a rune: its number and how many bytes it takes. -/
theorem rune_at (xs : List Int) (ho : Octs xs) (i : Nat) (hi : i < xs.length) :
    ∃ (r : Int) (k : Nat), (Lib.decodeGo (strOfNums (xs.drop i))) = (r.toNat, k) ∧ 0 ≤ r ∧ r ≤ 1114111 ∧ 1 ≤ k ∧ i + k ≤ xs.length ∧ blankB r = blankB xs[i] ∧ (blankB r = true → k = 1) ∧ (blankB r = false → ∀ j, i ≤ j → j < i + k → ∀ u, xs[j]? = some u → blankB u = false) := by
  obtain ⟨ys, hys⟩ : ∃ ys, ys = xs.drop i := ⟨_, rfl⟩
  have hoy : Octs ys := fun u hu => ho u (List.mem_of_mem_drop (by rw [← hys]; exact hu))
  have hly : ys.length = xs.length - i := by rw [hys, List.length_drop]
  have hsz := strOfNums_size ys
  have h0 : 0 < ys.length := by omega
  have hps : 0 < (strOfNums ys).size := by omega
  have hget : ∀ j (h : j < ys.length), xs[i + j]? = some ys[j] := fun j h => by
    have : ys[j]? = xs[i + j]? := by rw [hys, List.getElem?_drop]
    rw [← this, List.getElem?_eq_getElem h]
  have hx0 : xs[i] = ys[0] := by
    have h := hget 0 h0
    rw [Nat.add_zero, List.getElem?_eq_getElem hi] at h
    injection h
  have hat := str_at ys hoy 0 h0
  have hb0 := hoy ys[0] (List.getElem_mem h0)
  have hgo : Lib.decodeGo (strOfNums ys) = Utf8.decode (strOfNums ys) 0 := by
    unfold Lib.decodeGo
    rw [if_neg (by omega)]
  rw [← hys, hgo, hx0]
  by_cases ha : ((strOfNums ys)[0]'hps).toNat < 128
  · rw [decode_ascii _ 0 hps ha, hat]
    refine ⟨ys[0], 1, rfl, hb0.1, by omega, Nat.le_refl _, by omega, rfl, fun _ => rfl, fun hf j h1 h2 u hu => ?_⟩
    rw [show j = i + 0 by omega, hget 0 h0] at hu
    injection hu with hu
    rw [← hu]
    exact hf
  · obtain ⟨hd1, hd2⟩ := decode_high _ 0 hps (by omega)
    obtain ⟨hw1, hw2⟩ := width_high _ 0 hps
    have hmax : (Utf8.decode (strOfNums ys) 0).1 ≤ 1114111 := by
      rw [Lib.decode_at]
      exact Lib.decodeN_rune_le _ _ _ _ _ (UInt8.toNat_lt _)
    generalize hdd : Utf8.decode (strOfNums ys) 0 = d at *
    obtain ⟨r, k⟩ := d
    have hbr : blankB (r : Int) = false := by
      have : 128 ≤ r := hd1
      unfold blankB
      simp
      omega
    have hby : blankB ys[0] = false := by
      unfold blankB
      simp
      omega
    refine ⟨(r : Int), k, rfl, by omega, by have : r ≤ 1114111 := hmax; omega, hd2, by have : 0 + k ≤ (strOfNums ys).size := hw1; omega, by rw [hbr, hby], fun h => (by rw [hbr] at h; cases h), fun _ j h1 h2 u hu => ?_⟩
    obtain ⟨m, rfl⟩ : ∃ m, j = i + m := ⟨j - i, by omega⟩
    have hk : 0 + k ≤ (strOfNums ys).size := hw1
    have hm : m < ys.length := by omega
    rw [hget m hm] at hu
    injection hu with hu
    subst hu
    by_cases hm0 : m = 0
    · subst hm0
      exact hby
    · have h3 := hw2 m (by omega) (by show m < k; omega)
      have his : 0 + m < (strOfNums ys).size := by omega
      rw [get_of _ (0 + m) his] at h3
      have h4 := str_at ys hoy (0 + m) (by omega)
      rw [h4] at h3
      have h5 : ys[0 + m]'(by omega) = ys[m] := by congr 1; omega
      rw [h5] at h3
      unfold blankB
      simp
      omega
/-- How far the words have been told at place i: pre is told, and the word that is under way begins at st (or none is). -/
def WordsAt (xs : List Int) (i : Nat) (st : Int) (pre : List (List Int)) : Prop :=
  (st = -1 ∧ wordsL [] xs = pre ++ wordsL [] (xs.drop i)) ∨ (∃ s : Nat, st = s ∧ s < i ∧ wordsL [] xs = pre ++ wordsL ((xs.take i).drop s) (xs.drop i))
theorem WordsAt.start (xs : List Int) : WordsAt xs 0 (-1) [] := .inl ⟨rfl, rfl⟩
theorem cut_word (xs : List Int) (i k : Nat) : xs.drop i = (xs.drop i).take k ++ xs.drop (i + k) := by
  rw [← List.drop_drop, List.take_append_drop]
theorem piece_word (xs : List Int) (s i k : Nat) (hs : s ≤ i) (hk : i ≤ xs.length) : (xs.take i).drop s ++ (xs.drop i).take k = (xs.take (i + k)).drop s := by
  rw [show xs.take (i + k) = xs.take i ++ (xs.drop i).take k by rw [List.take_add], List.drop_append_of_le_length (by simp; omega)]
theorem piece_no (xs : List Int) (i k : Nat) (h : ∀ j, i ≤ j → j < i + k → ∀ u, xs[j]? = some u → blankB u = false) : ∀ b, b ∈ (xs.drop i).take k → b ≠ 32 ∧ b ≠ 10 := fun b hb => by
  obtain ⟨j, hj, rfl⟩ := List.getElem_of_mem hb
  have h1 : j < k := by simp at hj; omega
  obtain ⟨u, hu⟩ : ∃ u, u = ((xs.drop i).take k)[j] := ⟨_, rfl⟩
  have h2 := h (i + j) (by omega) (by omega) u (by
    rw [hu, List.getElem_take, List.getElem_drop]
    exact List.getElem?_eq_getElem _)
  rw [← hu]
  unfold blankB at h2
  simpa using h2
/-- A rune that is no blank. -/
theorem WordsAt.more {xs : List Int} {i k : Nat} {st : Int} {pre : List (List Int)} (h : WordsAt xs i st pre) (hk : i + k ≤ xs.length) (h1 : 1 ≤ k) (hn : ∀ j, i ≤ j → j < i + k → ∀ u, xs[j]? = some u → blankB u = false) :
    WordsAt xs (i + k) (if st < 0 then (i : Int) else st) pre := by
  have hp := piece_no xs i k hn
  rcases h with ⟨rfl, h⟩ | ⟨s, rfl, hs, h⟩
  · refine .inr ⟨i, by rw [if_pos (by omega)], by omega, ?_⟩
    rw [h, cut_word xs i k, words_word _ _ _ hp, List.nil_append, ← piece_word xs i i k (Nat.le_refl _) (by omega)]
    have : (xs.take i).drop i = [] := List.drop_eq_nil_of_le (by simp; omega)
    rw [this, List.nil_append]
  · refine .inr ⟨s, by rw [if_neg (by omega)], by omega, ?_⟩
    rw [h, cut_word xs i k, words_word _ _ _ hp, piece_word xs s i k (by omega) (by omega)]
/-- A blank behind no word. -/
theorem WordsAt.skip {xs : List Int} {i : Nat} {pre : List (List Int)} (h : WordsAt xs i (-1) pre) (hi : i < xs.length) (hb : blankB xs[i] = true) : WordsAt xs (i + 1) (-1) pre := by
  rcases h with ⟨_, h⟩ | ⟨s, hs, _⟩
  · refine .inl ⟨rfl, ?_⟩
    rw [h, List.drop_eq_getElem_cons hi, wordsL, if_pos (by unfold blankB at hb; simpa using hb), if_pos rfl]
  · omega
/-- A blank behind a word: it is told. -/
theorem WordsAt.told {xs : List Int} {i s : Nat} {pre : List (List Int)} (h : WordsAt xs i (s : Int) pre) (hi : i < xs.length) (hb : blankB xs[i] = true) :
    WordsAt xs (i + 1) (-1) (pre ++ [(xs.take i).drop s]) ∧ s < i ∧ wordsL [] xs = (pre ++ [(xs.take i).drop s]) ++ wordsL [] (xs.drop (i + 1)) := by
  rcases h with ⟨hs, h⟩ | ⟨t, hs, hlt, h⟩
  · omega
  · obtain rfl : s = t := by omega
    have hne : (xs.take i).drop s ≠ [] := fun e => by
      have := congrArg List.length e
      simp at this
      omega
    have hw : wordsL [] xs = (pre ++ [(xs.take i).drop s]) ++ wordsL [] (xs.drop (i + 1)) := by
      rw [h, List.drop_eq_getElem_cons hi, wordsL, if_pos (by unfold blankB at hb; simpa using hb), if_neg hne, List.append_assoc]
      rfl
    exact ⟨.inl ⟨rfl, hw⟩, hlt, hw⟩
/-- The end behind no word; behind a word. -/
theorem WordsAt.done {xs : List Int} {i : Nat} {pre : List (List Int)} (h : WordsAt xs i (-1) pre) (hi : xs.length ≤ i) : pre = wordsL [] xs := by
  rcases h with ⟨_, h⟩ | ⟨s, hs, _⟩
  · rw [h, List.drop_eq_nil_of_le hi]
    simp [wordsL]
  · omega
theorem WordsAt.last {xs : List Int} {i s : Nat} {pre : List (List Int)} (h : WordsAt xs i (s : Int) pre) (hi : i = xs.length) : pre ++ [xs.drop s] = wordsL [] xs ∧ s < xs.length := by
  rcases h with ⟨hs, h⟩ | ⟨t, hs, hlt, h⟩
  · omega
  · obtain rfl : s = t := by omega
    subst hi
    have hne : xs.drop s ≠ [] := fun e => by
      have := congrArg List.length e
      simp at this
      omega
    rw [h, List.take_length, List.drop_length, wordsL, if_neg hne]
    exact ⟨rfl, hlt⟩
end Go.Proofs.YtbdkalicgpdbkaaDoor
