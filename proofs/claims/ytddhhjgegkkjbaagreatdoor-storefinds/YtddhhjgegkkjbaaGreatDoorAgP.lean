/-
  PLAIN: what is read without a fault, written anew, is just the bytes that were read: items, ids, entries, trees, commits, tags. (Never together with Again: the same names.)
-/
import Derived.Test.YtddhhjgegkkjbaaGreatDoorRt1
import Derived.Test.YtddhhjgegkkjbaaGreatDoorBack0
namespace Go.Proofs.YtddhhjgegkkjbaaGreatDoor
open Go.RowKit

/-- Where one step leaves a Reader. -/
theorem takeL_frame (xs : List Int) (ho : Octs xs) (pl : Nat) (hp : pl ≤ xs.length) (kind size most : Int) (hs : kind = 0 → size ≤ 8) (hm : most ≤ 18446744073709551615) :
    pl ≤ (takeL xs pl 0 kind size most).pl ∧ (takeL xs pl 0 kind size most).pl ≤ xs.length ∧ (takeL xs pl 0 kind size most).f ≤ 4 ∧ ((takeL xs pl 0 kind size most).f ≠ 0 → (takeL xs pl 0 kind size most).pl = pl) ∧
    (takeL xs pl 0 kind size most).text.length ≤ xs.length - pl ∧ 0 ≤ (takeL xs pl 0 kind size most).n ∧ (takeL xs pl 0 kind size most).n ≤ 18446744073709551615 := by
  have hfit := lookL_fits (xs.drop pl) kind size most (octs_drop ho pl) hs hm
  have hl : (xs.drop pl).length = xs.length - pl := List.length_drop
  rw [hl] at hfit
  obtain ⟨g1, g2, g3, g4, g5, g6⟩ := hfit
  rw [takeL_ok]
  by_cases h : (lookL (xs.drop pl) kind size most).f = 0
  · rw [if_neg (by simpa using h)]
    refine ⟨by simp, by dsimp only; omega, by simp, fun e => absurd rfl e, ?_, g1, g2⟩
    simp only [List.length_drop, List.length_take]; omega
  · rw [if_pos h]
    exact ⟨Nat.le_refl _, hp, g5, fun _ => rfl, Nat.zero_le _, Int.le_refl _, by dsimp only; decide⟩

/-- ONE WAY TO WRITE WHAT CAN BE READ: a number of fixed size. -/
theorem one_fixed (xs : List Int) (ho : Octs xs) (pl size : Nat) (hf : (takeL xs pl 0 0 size 0).f = 0) : fixedB (takeL xs pl 0 0 size 0).n size = (xs.drop pl).take ((takeL xs pl 0 0 size 0).pl - pl) := by
  rw [takeL_ok] at hf ⊢
  have e : lookL (xs.drop pl) 0 size 0 = fixedL (xs.drop pl) size := by unfold lookL; rw [if_pos rfl, Int.toNat_natCast]
  rw [e] at hf ⊢
  unfold fixedL at hf ⊢
  by_cases hl : (xs.drop pl).length < size
  · rw [if_pos hl] at hf; simp at hf
  · rw [if_neg hl]
    simp only [ne_eq, not_true_eq_false, if_false]
    rw [Nat.add_sub_cancel_left]
    exact fixedB_be size _ (by rw [List.length_take]; omega) (octs_take (octs_drop ho pl) size)
theorem one_var (xs : List Int) (ho : Octs xs) (pl : Nat) (most : Int) (hm : most ≤ 18446744073709551615) (hf : (takeL xs pl 0 1 0 most).f = 0) : varB (takeL xs pl 0 1 0 most).n = (xs.drop pl).take ((takeL xs pl 0 1 0 most).pl - pl) := by
  rw [takeL_ok] at hf ⊢
  have e : lookL (xs.drop pl) 1 0 most = varL (xs.drop pl) most := rfl
  rw [e] at hf ⊢
  by_cases h : (varL (xs.drop pl) most).f = 0
  · rw [if_neg (by simpa using h)]
    dsimp only
    rw [Nat.add_sub_cancel_left]
    exact varL_one _ most (octs_drop ho pl) hm h
  · rw [if_pos h] at hf; exact absurd hf h
theorem one_bytes (xs : List Int) (ho : Octs xs) (pl : Nat) (most : Int) (hm : most ≤ 18446744073709551615) (hf : (takeL xs pl 0 2 0 most).f = 0) :
    varB (takeL xs pl 0 2 0 most).text.length ++ (takeL xs pl 0 2 0 most).text = (xs.drop pl).take ((takeL xs pl 0 2 0 most).pl - pl) := by
  rw [takeL_ok] at hf ⊢
  have e : lookL (xs.drop pl) 2 0 most = bytesL (xs.drop pl) most := rfl
  rw [e] at hf ⊢
  by_cases h : (bytesL (xs.drop pl) most).f = 0
  · rw [if_neg (by simpa using h)]
    dsimp only
    rw [Nat.add_sub_cancel_left]
    have hb : bytesL (xs.drop pl) most = if (varL (xs.drop pl) most).f ≠ 0 then ⟨0, 0, 0, (varL (xs.drop pl) most).f⟩ else if ((xs.drop pl).length : Int) - (varL (xs.drop pl) most).to < (varL (xs.drop pl) most).n then ⟨0, 0, 0, 1⟩
        else ⟨(varL (xs.drop pl) most).n, (varL (xs.drop pl) most).frm, (varL (xs.drop pl) most).to + (varL (xs.drop pl) most).n.toNat, 0⟩ := rfl
    have hg := varL_good (xs.drop pl) most (octs_drop ho pl)
    have hone := varL_one (xs.drop pl) most (octs_drop ho pl) hm
    generalize xs.drop pl = ys at *
    generalize varL ys most = v at *
    by_cases hv : v.f = 0
    · rw [if_neg (by simpa using hv)] at hb
      by_cases hl : (ys.length : Int) - v.to < v.n
      · rw [if_pos hl] at hb; rw [hb] at h; simp at h
      · rw [if_neg hl] at hb
        rw [hb]
        dsimp only
        obtain ⟨g1, g2, g3, g4, g5, g6, g7⟩ := hg
        have hft := (g7 hv).2.2
        have hlen : ((ys.take (v.to + v.n.toNat)).drop v.frm).length = v.n.toNat := by simp only [List.length_drop, List.length_take]; omega
        rw [hlen, show ((v.n.toNat : Nat) : Int) = v.n by omega, hone hv, hft]
        rw [List.drop_take, Nat.add_sub_cancel_left, ← List.take_add]
    · rw [if_pos hv] at hb; rw [hb] at h; exact absurd h hv
  · rw [if_pos h] at hf; exact absurd hf h
theorem one_raw (xs : List Int) (pl : Nat) (size : Int) (hf : (takeL xs pl 0 3 size 0).f = 0) : (takeL xs pl 0 3 size 0).text = (xs.drop pl).take ((takeL xs pl 0 3 size 0).pl - pl) := by
  rw [takeL_ok] at hf ⊢
  have e : lookL (xs.drop pl) 3 size 0 = rawL (xs.drop pl) size := rfl
  rw [e] at hf ⊢
  by_cases h : (rawL (xs.drop pl) size).f = 0
  · rw [if_neg (by simpa using h)]
    dsimp only
    rw [Nat.add_sub_cancel_left]
    have hfr : (rawL (xs.drop pl) size).frm = 0 := by unfold rawL; split; · rfl
                                                      split <;> rfl
    rw [hfr, List.drop_zero]
  · rw [if_pos h] at hf; exact absurd hf h

/-- So far, without a fault, just these bytes were read. -/
def Rd (xs : List Int) (pl f : Nat) (acc : List Int) : Prop := f = 0 → pl ≤ xs.length ∧ acc = xs.take pl
theorem takeL_bad (xs : List Int) (pl f : Nat) (h : f ≠ 0) (kind size most : Int) : (takeL xs pl f kind size most).f = f := by unfold takeL; rw [if_pos h]
theorem take_more' (xs : List Int) (a b : Nat) (h : a ≤ b) : xs.take a ++ (xs.drop a).take (b - a) = xs.take b := by
  rw [← List.take_add]
  congr 1
  omega
theorem Rd.step {xs : List Int} (ho : Octs xs) {pl f : Nat} {acc us : List Int} (h : Rd xs pl f acc) (kind size most : Int) (hs : kind = 0 → size ≤ 8) (hm : most ≤ 18446744073709551615)
    (hu : f = 0 → (takeL xs pl 0 kind size most).f = 0 → us = (xs.drop pl).take ((takeL xs pl 0 kind size most).pl - pl)) : Rd xs (takeL xs pl f kind size most).pl (takeL xs pl f kind size most).f (acc ++ us) := fun hf => by
  by_cases h0 : f = 0
  · subst h0
    obtain ⟨h1, h2⟩ := h rfl
    obtain ⟨g1, g2, _⟩ := takeL_frame xs ho pl h1 kind size most hs hm
    refine ⟨g2, ?_⟩
    rw [hu rfl hf, h2, take_more' _ _ _ g1]
  · rw [takeL_bad xs pl f h0] at hf
    exact absurd hf h0
theorem Rd.fixed {xs : List Int} (ho : Octs xs) {pl f : Nat} {acc : List Int} (h : Rd xs pl f acc) (size : Nat) (hs : size ≤ 8) {y : Took} (hy : y = takeL xs pl f 0 size 0) : Rd xs y.pl y.f (acc ++ fixedB y.n size) := by
  subst hy
  refine h.step ho 0 size 0 (fun _ => by omega) (by decide) (fun h0 hf => ?_)
  subst h0
  exact one_fixed xs ho pl size hf
theorem Rd.var {xs : List Int} (ho : Octs xs) {pl f : Nat} {acc : List Int} (h : Rd xs pl f acc) (most : Int) (hm : most ≤ 18446744073709551615) {y : Took} (hy : y = takeL xs pl f 1 0 most) : Rd xs y.pl y.f (acc ++ varB y.n) := by
  subst hy
  refine h.step ho 1 0 most (fun h => absurd h (by decide)) hm (fun h0 hf => ?_)
  subst h0
  exact one_var xs ho pl most hm hf
theorem Rd.bytes {xs : List Int} (ho : Octs xs) {pl f : Nat} {acc : List Int} (h : Rd xs pl f acc) (most : Int) (hm : most ≤ 18446744073709551615) {y : Took} (hy : y = takeL xs pl f 2 0 most) : Rd xs y.pl y.f (acc ++ (varB y.text.length ++ y.text)) := by
  subst hy
  refine h.step ho 2 0 most (fun h => absurd h (by decide)) hm (fun h0 hf => ?_)
  subst h0
  exact one_bytes xs ho pl most hm hf
theorem raw_len (xs : List Int) (pl n : Nat) (hf : (takeL xs pl 0 3 n 0).f = 0) : (takeL xs pl 0 3 n 0).text.length = n := by
  rw [takeL_ok] at hf ⊢
  have e : lookL (xs.drop pl) 3 n 0 = rawL (xs.drop pl) n := rfl
  rw [e] at hf ⊢
  have hr : rawL (xs.drop pl) n = if ((xs.drop pl).length : Int) < n then ⟨0, 0, 0, 1⟩ else ⟨0, 0, n, 0⟩ := by
    unfold rawL
    rw [if_neg (show ¬ (n : Int) < 0 by omega), Int.toNat_natCast]
  rw [hr] at hf ⊢
  by_cases hl : ((xs.drop pl).length : Int) < n
  · rw [if_pos hl] at hf
    simp at hf
  · rw [if_neg hl]
    show (((xs.drop pl).take n).drop 0).length = n
    rw [List.drop_zero, List.length_take]
    omega
theorem Rd.id {xs : List Int} (ho : Octs xs) {pl f : Nat} {acc : List Int} (h : Rd xs pl f acc) {y : Took} (hy : y = takeL xs pl f 3 32 0) : Rd xs y.pl y.f (acc ++ idOf y.text) := by
  subst hy
  refine h.step ho 3 32 0 (fun h => absurd h (by decide)) (by decide) (fun h0 hf => ?_)
  subst h0
  have h32 : (takeL xs pl 0 3 32 0).text.length = 32 := raw_len xs pl 32 hf
  rw [idOf_id h32]
  exact one_raw xs pl 32 hf
theorem Rd.ids {xs : List Int} (ho : Octs xs) {pl f : Nat} {acc : List Int} (h : Rd xs pl f acc) : ∀ k, Rd xs (rdIs xs pl f k).2.1 (rdIs xs pl f k).2.2 (acc ++ (rdIs xs pl f k).1.flatten)
  | 0 => by simpa [rdIs] using h
  | k + 1 => by
    have h2 := (Rd.ids ho h k).id ho rfl
    have e : (rdIs xs pl f (k + 1)).1 = (rdIs xs pl f k).1 ++ [idOf (takeL xs (rdIs xs pl f k).2.1 (rdIs xs pl f k).2.2 3 32 0).text] := rfl
    rw [e, List.flatten_append, List.flatten_singleton, ← List.append_assoc]
    exact h2
theorem Rd.ents {xs : List Int} (ho : Octs xs) {pl f : Nat} {acc : List Int} (h : Rd xs pl f acc) : ∀ k, Rd xs (rdEs xs pl f k).2.1 (rdEs xs pl f k).2.2 (acc ++ entsB (rdEs xs pl f k).1)
  | 0 => by simpa [rdEs, entsB] using h
  | k + 1 => by
    have h1 := (Rd.ents ho h k).fixed ho 1 (by decide) rfl
    have h2 := h1.bytes ho 255 (by decide) rfl
    have h3 := h2.id ho rfl
    have e : (rdEs xs pl f (k + 1)).1 = (rdEs xs pl f k).1 ++ [(rdE xs (rdEs xs pl f k).2.1 (rdEs xs pl f k).2.2).1] := rfl
    have e2 : entsB ((rdEs xs pl f k).1 ++ [(rdE xs (rdEs xs pl f k).2.1 (rdEs xs pl f k).2.2).1]) = entsB (rdEs xs pl f k).1 ++ entB (rdE xs (rdEs xs pl f k).2.1 (rdEs xs pl f k).2.2).1 := by
      unfold entsB
      rw [List.flatMap_append, List.flatMap_singleton]
    rw [e, e2, ← List.append_assoc]
    unfold entB
    simp only [← List.append_assoc] at h3 ⊢
    exact h3
theorem Rd.all {xs : List Int} {pl f : Nat} {acc : List Int} (h : Rd xs pl f acc) (hf : f = 0) (hp : pl = xs.length) : acc = xs := by
  obtain ⟨_, h2⟩ := h hf
  rw [h2, hp, List.take_length]
theorem Rd.start (xs : List Int) : Rd xs 0 0 [] := fun _ => ⟨Nat.zero_le _, by simp⟩

/-- A tag that was read through to the end: the bytes are its own encoding. -/
theorem tag_one_form {xs : List Int} (ho : Octs xs) (y0 y1 y2 y3 y4 y5 y6 : Took) (h0 : y0 = takeL xs 0 0 0 1 0) (hk : y0.n = 4) (h1 : y1 = takeL xs y0.pl y0.f 3 32 0) (h2 : y2 = takeL xs y1.pl y1.f 0 1 0) (h3 : y3 = takeL xs y2.pl y2.f 2 0 255) (h4 : y4 = takeL xs y3.pl y3.f 2 0 255) (h5 : y5 = takeL xs y4.pl y4.f 0 8 0) (h6 : y6 = takeL xs y5.pl y5.f 2 0 4096) (hf : y6.f = 0) (hp : y6.pl = xs.length) :
    encG ⟨idOf y1.text, y2.n, y3.text, y4.text, y5.n, y6.text⟩ = xs := by
  have r0 := (Rd.start xs).fixed ho 1 (by decide) h0
  have r6 := ((((((r0.id ho h1).fixed ho 1 (by decide) h2).bytes ho 255 (by decide) h3).bytes ho 255 (by decide) h4).fixed ho 8 (by decide) h5).bytes ho 4096 (by decide) h6).all hf hp
  rw [hk] at r6
  unfold encG
  simp only [List.nil_append, List.append_assoc] at r6 ⊢
  exact r6
theorem com_one_form {xs : List Int} (ho : Octs xs) (y0 y1 y2 y3 y4 y5 : Took) (n : Nat) (h0 : y0 = takeL xs 0 0 0 1 0) (hk : y0.n = 3) (h1 : y1 = takeL xs y0.pl y0.f 3 32 0) (h2 : y2 = takeL xs y1.pl y1.f 1 0 8) (hn : y2.n = (n : Int)) (h3 : y3 = takeL xs (rdIs xs y2.pl y2.f n).2.1 (rdIs xs y2.pl y2.f n).2.2 2 0 255) (h4 : y4 = takeL xs y3.pl y3.f 0 8 0) (h5 : y5 = takeL xs y4.pl y4.f 2 0 4096) (hf : y5.f = 0) (hp : y5.pl = xs.length) :
    encC ⟨idOf y1.text, (rdIs xs y2.pl y2.f n).1, y3.text, y4.n, y5.text⟩ = xs := by
  have r0 := (Rd.start xs).fixed ho 1 (by decide) h0
  have r6 := ((((((r0.id ho h1).var ho 8 (by decide) h2).ids ho n).bytes ho 255 (by decide) h3).fixed ho 8 (by decide) h4).bytes ho 4096 (by decide) h5).all hf hp
  rw [hk, hn] at r6
  unfold encC
  simp only [rdIs_len, List.nil_append, List.append_assoc] at r6 ⊢
  exact r6
theorem tree_one_form {xs : List Int} (ho : Octs xs) (y0 y1 : Took) (n : Nat) (h0 : y0 = takeL xs 0 0 0 1 0) (hk : y0.n = 2) (h1 : y1 = takeL xs y0.pl y0.f 1 0 1024) (hn : y1.n = (n : Int)) (hf : (rdEs xs y1.pl y1.f n).2.2 = 0) (hp : (rdEs xs y1.pl y1.f n).2.1 = xs.length) :
    encT (rdEs xs y1.pl y1.f n).1 = xs := by
  have r0 := (Rd.start xs).fixed ho 1 (by decide) h0
  have r6 := ((r0.var ho 1024 (by decide) h1).ents ho n).all hf hp
  rw [hk, hn] at r6
  unfold encT
  simp only [rdEs_len, List.nil_append, List.append_assoc] at r6 ⊢
  exact r6
end Go.Proofs.YtddhhjgegkkjbaaGreatDoor
