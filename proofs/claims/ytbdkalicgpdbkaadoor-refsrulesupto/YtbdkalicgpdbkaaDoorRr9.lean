/-
  WALKS: strings.Cut at 58; refs.isSide.
-/
import Derived.Test.YtbdkalicgpdbkaaDoorRr0
import Derived.Test.YtbdkalicgpdbkaaDoorShDec
namespace Go.Proofs.YtbdkalicgpdbkaaDoor
open Go.RowKit

def colB (p : List Int) : Bool := decide (58 ∈ p)
theorem col_split {side : List Int} (h : colB side = true) : side = srcL side ++ 58 :: dstL side ∧ 58 ∉ srcL side := by
  have hm : (58 : Int) ∈ side := of_decide_eq_true h
  unfold srcL dstL
  have h0 := List.takeWhile_append_dropWhile (p := fun b : Int => decide (b ≠ 58)) (l := side)
  have h1 : 58 ∉ side.takeWhile (fun b => decide (b ≠ 58)) := fun hc => by
    have h2 : ∀ (l : List Int), 58 ∉ l.takeWhile (fun b => decide (b ≠ 58)) := fun l => by
      induction l with
      | nil => simp
      | cons a t ih =>
        rw [List.takeWhile_cons]
        split
        · rename_i ha
          rw [List.mem_cons]
          rintro (h3 | h3)
          · rw [← h3] at ha; simp at ha
          · exact ih h3
        · simp
    exact h2 side hc
  refine ⟨?_, h1⟩
  cases hd : side.dropWhile (fun b => decide (b ≠ 58)) with
  | nil =>
    rw [hd, List.append_nil] at h0
    rw [h0] at h1
    exact absurd hm h1
  | cons a t =>
    have ha : a = 58 := by
      have h3 : ∀ (l : List Int) (a : Int) (t : List Int), l.dropWhile (fun b => decide (b ≠ 58)) = a :: t → a = 58 := fun l => by
        induction l with
        | nil => intro a t h; simp at h
        | cons c l ih =>
          intro a t h
          rw [List.dropWhile_cons] at h
          split at h
          · exact ih a t h
          · rename_i hc
            injection h with h4 h5
            rw [← h4]
            simpa using hc
      exact h3 side a t hd
    rw [hd, ha] at h0
    rw [List.tail_cons]
    exact h0.symm
theorem col_len {side : List Int} (h : colB side = true) : side.length = (srcL side).length + 1 + (dstL side).length := by
  have h1 := congrArg List.length (col_split h).1
  rw [List.length_append, List.length_cons] at h1
  omega
theorem col_cons (a : Int) (x : List Int) : colB (a :: x) = (decide (a = 58) || colB x) := by
  unfold colB
  rw [Bool.eq_iff_iff, decide_eq_true_eq, Bool.or_eq_true, decide_eq_true_eq, decide_eq_true_eq, List.mem_cons]
  constructor
  · rintro (h | h)
    · exact Or.inl h.symm
    · exact Or.inr h
  · rintro (h | h)
    · exact Or.inl h.symm
    · exact Or.inr h
theorem index_col : ∀ {xs : List Int}, Octs xs → Lib.indexByte (bytesU xs) 58 = if colB xs = true then ((srcL xs).length : Int) else -1
  | [], _ => rfl
  | a :: x, h => by
    have ih := index_col (xs := x) (fun u hu => h u (by simp [hu]))
    have ha := h a (by simp)
    have e58 : (58 : UInt8) = UInt8.ofNat (58 : Int).toNat := rfl
    rw [col_cons]
    show (if (UInt8.ofNat a.toNat == 58) = true then (0 : Int) else if (Lib.indexByte (bytesU x) 58 == -1) = true then -1 else Lib.indexByte (bytesU x) 58 + 1) = _
    by_cases h58 : a = 58
    · subst h58
      rw [if_pos (by decide)]
      have e : srcL (58 :: x) = [] := by unfold srcL; rw [List.takeWhile_cons]; rfl
      rw [e]
      rfl
    · have hne : ¬ (UInt8.ofNat a.toNat == (58 : UInt8)) = true := by
        rw [beq_iff_eq, e58, u8_eq ha (by decide)]
        exact h58
      rw [if_neg hne, ih, decide_eq_false h58, Bool.false_or]
      have e : srcL (a :: x) = a :: srcL x := by
        unfold srcL
        rw [List.takeWhile_cons, if_pos (by simpa using h58)]
      cases hs : colB x with
      | false => rfl
      | true =>
        rw [if_pos rfl, if_pos rfl, e, List.length_cons, if_neg (by simp)]
        simp
theorem src_take {xs : List Int} (h : colB xs = true) : xs.take (srcL xs).length = srcL xs ∧ xs.drop ((srcL xs).length + 1) = dstL xs := by
  have e := (col_split h).1
  generalize srcL xs = A at *
  generalize dstL xs = B at *
  subst e
  exact ⟨List.take_left, by rw [show A ++ 58 :: B = (A ++ [58]) ++ B by simp, List.drop_left' (by simp)]⟩
set_option maxHeartbeats 1000000 in
theorem CutC_any (xs : List Int) (ho : Octs xs) (hs : xs.length ≤ 1000000000000000000) (w : World) :
    Calls Tryd.prog 51 #[.string (strOfNums xs), .string ⟨#[58]⟩] w fun e w' => e = .returned (.tuple #[.string (strOfNums (if colB xs = true then srcL xs else xs)), .string (strOfNums (if colB xs = true then dstL xs else [])), .bool (colB xs)]) ∧ ∃ n, w' = w.drewN n := by
  have hix : ∀ W, Calls Tryd.prog 90 #[.string (strOfNums xs), .string ⟨#[58]⟩] W fun e w' => e = .returned (.int .i64 (if colB xs = true then ((srcL xs).length : Int) else -1)) ∧ w' = W := fun W => by
    have h := Any.stringslite_Index_one Tryd.laysIdx (strOfNums xs) 58 W
    rw [str_bytes, index_col ho] at h
    exact h
  have hsz := strOfNums_size xs
  have hcut : Calls Tryd.prog 73 #[.string (strOfNums xs), .string ⟨#[58]⟩] w fun e w' => e = .returned (.tuple #[.string (strOfNums (if colB xs = true then srcL xs else xs)), .string (strOfNums (if colB xs = true then dstL xs else [])), .bool (colB xs)]) ∧ ∃ n, w' = w.drewN n := by
    cases h : colB xs with
    | false =>
      rw [h] at hix
      simp only [Bool.false_eq_true, if_false] at hix ⊢
      have e0 : strOfNums [] = ⟨#[]⟩ := rfl
      rw [e0]
      clear h ho
      generalize strOfNums xs = S at *
      go_enter Tryd.func73, Tryd.ntmps73
      go_wp2_with (go_at_call 90; with_reducible refine (hix _).mono ?_; rintro e w9 ⟨rfl, hw9⟩; subst w9)
      go_ret3
      exact ⟨rfl, 0, rfl⟩
    | true =>
      rw [h] at hix
      simp only [if_true] at hix ⊢
      have hl := col_len h
      obtain ⟨h1, h2⟩ := src_take h
      have hx1 : (strOfNums xs).extract 0 (srcL xs).length = strOfNums (srcL xs) := by rw [str_sub, List.drop_zero, h1]
      have hx2 : (strOfNums xs).extract ((srcL xs).length + 1) xs.length = strOfNums (dstL xs) := by rw [str_sub, List.take_length, h2]
      have hil : (srcL xs).length + 1 ≤ xs.length := by omega
      clear h ho h1 h2 hl
      generalize strOfNums (srcL xs) = SA at *
      generalize strOfNums (dstL xs) = SB at *
      generalize (srcL xs).length = i at *
      generalize strOfNums xs = S at *
      have c1 : (0 : Int) ≤ ↑i := by omega
      have c2 : (↑i : Int) ≤ ↑S.size := by omega
      have c3 : (0 : Int) ≤ ↑i + 1 := by omega
      have c4 : (↑i + 1 : Int) ≤ ↑S.size := by omega
      go_enter Tryd.func73, Tryd.ntmps73
      go_wp2_with (go_at_call 90; with_reducible refine (hix _).mono ?_; rintro e w9 ⟨rfl, hw9⟩; subst w9)
      go_quiet (fail)
      go_wp2
      go_ret3
      exact ⟨rfl, _, rfl⟩
  clear hix ho
  generalize strOfNums xs = S at *
  generalize strOfNums (if colB xs = true then srcL xs else xs) = SA at *
  generalize strOfNums (if colB xs = true then dstL xs else []) = SB at *
  generalize colB xs = b at *
  go_enter Tryd.func51, Tryd.ntmps51
  go_wp2_with (go_at_call 73; refine hcut.mono ?_; rintro e w1 ⟨rfl, n, rfl⟩)
  go_ret3
  exact ⟨rfl, n, rfl⟩
theorem side_fill (s : List Int) : (if s.length + 1 ≤ 256 ∧ checkB (fillL s [120]) = true then some (fillL s [120]) else none).isSome = sideL s := by
  unfold sideL
  cases h : checkB (fillL s [120]) with
  | false => simp
  | true =>
    have h1 := check_len h
    have h2 : s.length ≤ 255 := by
      cases hs : starB s with
      | true => have := put_len s [120] hs; simp at this; omega
      | false => rw [put_no s [120] hs] at h1; exact h1
    rw [if_pos ⟨by omega, rfl⟩]
    rfl
theorem isSide_any (s : List Int) (hs : Octs s) (hl : s.length ≤ 100000000000000000) (w : World) (hT : Tabs w) (hM : MaxW w) :
    Calls Tryd.prog 50 #[.string (strOfNums s)] w fun e w' => e = .returned (.bool (sideL s)) ∧ Kept [] w w' := by
  have hx : strOfNums [120] = (⟨#[120]⟩ : ByteArray) := by kernel_rfl
  have h := fill_any s [120] hs (fun u hu => by simp at hu; omega) hl (by simp) w hT hM
  rw [hx] at h
  obtain ⟨O, hO⟩ : ∃ O, O = (if s.length + ([120] : List Int).length ≤ 256 ∧ checkB (fillL s [120]) = true then some (fillL s [120]) else none) := ⟨_, rfl⟩
  have hsome : O.isSome = sideL s := by rw [hO]; exact side_fill s
  rw [← hO] at h
  rw [← hsome]
  clear hO hsome hs hl hT hM hx
  unfold optV at h
  generalize strOfNums (O.getD []) = SG at *
  generalize O.isSome = b at *
  generalize strOfNums s = S at *
  go_enter Tryd.func50, Tryd.ntmps50
  go_wp2_with (go_at_call 41; with_reducible refine h.mono ?_; rintro e w9 ⟨rfl, k9⟩)
  go_ret
  exact ⟨rfl, k9⟩
end Go.Proofs.YtbdkalicgpdbkaaDoor
