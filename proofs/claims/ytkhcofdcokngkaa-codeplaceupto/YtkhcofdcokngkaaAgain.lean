/-
  WALK: satchellaw1.again: an item is read, and what was read is written; and the mathematics: it is the same bytes.
-/
import Derived.Test.YtkhcofdcokngkaaReader
import Derived.Test.YtkhcofdcokngkaaWMore
import Derived.Test.YtkhcofdcokngkaaPlain3
import Derived.Test.YtkhcofdcokngkaaEq
import Derived.Test.YtkhcofdcokngkaaOps
namespace Go.Proofs.Ytkhcofdcokngkaa
open Go.RowKit

/-- What reading one item comes to. -/
def tookO (xs : List Int) (pl f : Nat) (o : COp) : Took :=
  if o.kind = 1 then takeL xs pl f 0 1 0 else if o.kind = 2 then takeL xs pl f 0 4 0 else if o.kind = 3 then takeL xs pl f 0 8 0 else if o.kind = 4 then takeL xs pl f 1 0 o.n
  else if o.kind = 5 then takeL xs pl f 2 0 (max o.m 0) else if o.kind = 6 then takeL xs pl f 3 (o.m % 20) 0 else ⟨0, [], pl, f⟩
/-- What is then written. -/
def encO (o : COp) (y : Took) : List Int :=
  if o.kind = 1 then fixedB y.n 1 else if o.kind = 2 then fixedB y.n 4 else if o.kind = 3 then fixedB y.n 8 else if o.kind = 4 then varB y.n
  else if o.kind = 5 then varB y.text.length ++ y.text else if o.kind = 6 then y.text else []

theorem takeL_ok (xs : List Int) (pl : Nat) (kind size most : Int) : takeL xs pl 0 kind size most =
    if (lookL (xs.drop pl) kind size most).f ≠ 0 then ⟨0, [], pl, (lookL (xs.drop pl) kind size most).f⟩
    else ⟨(lookL (xs.drop pl) kind size most).n, ((xs.drop pl).take (lookL (xs.drop pl) kind size most).to).drop (lookL (xs.drop pl) kind size most).frm, pl + (lookL (xs.drop pl) kind size most).to, 0⟩ := if_neg (by decide)

/-- Where one step leaves a Reader. -/
theorem takeL_frame (xs : List Int) (ho : Octs xs) (pl : Nat) (hp : pl ≤ xs.length) (kind size most : Int) (hs : kind = 0 → size ≤ 8) (hm : most ≤ 18446744073709551615) :
    pl ≤ (takeL xs pl 0 kind size most).pl ∧ (takeL xs pl 0 kind size most).pl ≤ xs.length ∧ (takeL xs pl 0 kind size most).f ≤ 4 ∧ ((takeL xs pl 0 kind size most).f ≠ 0 → (takeL xs pl 0 kind size most).pl = pl) ∧
    (takeL xs pl 0 kind size most).text.length ≤ xs.length - pl ∧ 0 ≤ (takeL xs pl 0 kind size most).n ∧ (takeL xs pl 0 kind size most).n ≤ 18446744073709551615 := by
  have hfit := lookL_fits (xs.drop pl) kind size most (octs_drop ho pl) hs hm
  have hl : (xs.drop pl).length = xs.length - pl := List.length_drop
  rw [hl] at hfit
  obtain ⟨g1, g2, g3, g4, g5, g6⟩ := hfit
  rw [takeL_ok]
  by_cases h : (lookL (xs.drop pl) kind size most).f = 0
  · rw [if_neg (by simpa using h)]
    refine ⟨by simp, by dsimp only; omega, by simp, fun e => absurd rfl e, ?_, g1, g2⟩
    simp only [List.length_drop, List.length_take]; omega
  · rw [if_pos h]
    exact ⟨Nat.le_refl _, hp, g5, fun _ => rfl, Nat.zero_le _, Int.le_refl _, by dsimp only; decide⟩

theorem tookO_frame (xs : List Int) (ho : Octs xs) (pl : Nat) (hp : pl ≤ xs.length) (o : COp) (hn : o.n ≤ 18446744073709551615) (hm : o.m ≤ 9223372036854775807) :
    pl ≤ (tookO xs pl 0 o).pl ∧ (tookO xs pl 0 o).pl ≤ xs.length ∧ (tookO xs pl 0 o).f ≤ 4 ∧ ((tookO xs pl 0 o).f ≠ 0 → (tookO xs pl 0 o).pl = pl) ∧
    (tookO xs pl 0 o).text.length ≤ xs.length - pl ∧ 0 ≤ (tookO xs pl 0 o).n ∧ (tookO xs pl 0 o).n ≤ 18446744073709551615 := by
  unfold tookO
  split
  · exact takeL_frame xs ho pl hp 0 1 0 (by decide) (by decide)
  · split
    · exact takeL_frame xs ho pl hp 0 4 0 (by decide) (by decide)
    · split
      · exact takeL_frame xs ho pl hp 0 8 0 (by decide) (by decide)
      · split
        · exact takeL_frame xs ho pl hp 1 0 o.n (by decide) hn
        · split
          · exact takeL_frame xs ho pl hp 2 0 (max o.m 0) (by decide) (by omega)
          · split
            · exact takeL_frame xs ho pl hp 3 (o.m % 20) 0 (fun h => absurd h (by decide)) (by decide)
            · exact ⟨Nat.le_refl _, hp, Nat.zero_le _, fun _ => rfl, Nat.zero_le _, Int.le_refl _, by dsimp only; decide⟩

/-- ONE WAY TO WRITE WHAT CAN BE READ: a number of fixed size. -/
theorem one_fixed (xs : List Int) (ho : Octs xs) (pl size : Nat) (hf : (takeL xs pl 0 0 size 0).f = 0) : fixedB (takeL xs pl 0 0 size 0).n size = (xs.drop pl).take ((takeL xs pl 0 0 size 0).pl - pl) := by
  rw [takeL_ok] at hf ⊢
  have e : lookL (xs.drop pl) 0 size 0 = fixedL (xs.drop pl) size := by unfold lookL; rw [if_pos rfl, Int.toNat_natCast]
  rw [e] at hf ⊢
  unfold fixedL at hf ⊢
  by_cases hl : (xs.drop pl).length < size
  · rw [if_pos hl] at hf; simp at hf
  · rw [if_neg hl]
    simp only [ne_eq, not_true_eq_false, if_false]
    rw [Nat.add_sub_cancel_left]
    exact fixedB_be size _ (by rw [List.length_take]; omega) (octs_take (octs_drop ho pl) size)
theorem one_var (xs : List Int) (ho : Octs xs) (pl : Nat) (most : Int) (hm : most ≤ 18446744073709551615) (hf : (takeL xs pl 0 1 0 most).f = 0) : varB (takeL xs pl 0 1 0 most).n = (xs.drop pl).take ((takeL xs pl 0 1 0 most).pl - pl) := by
  rw [takeL_ok] at hf ⊢
  have e : lookL (xs.drop pl) 1 0 most = varL (xs.drop pl) most := rfl
  rw [e] at hf ⊢
  by_cases h : (varL (xs.drop pl) most).f = 0
  · rw [if_neg (by simpa using h)]
    dsimp only
    rw [Nat.add_sub_cancel_left]
    exact varL_one _ most (octs_drop ho pl) hm h
  · rw [if_pos h] at hf; exact absurd hf h
theorem one_bytes (xs : List Int) (ho : Octs xs) (pl : Nat) (most : Int) (hm : most ≤ 18446744073709551615) (hf : (takeL xs pl 0 2 0 most).f = 0) :
    varB (takeL xs pl 0 2 0 most).text.length ++ (takeL xs pl 0 2 0 most).text = (xs.drop pl).take ((takeL xs pl 0 2 0 most).pl - pl) := by
  rw [takeL_ok] at hf ⊢
  have e : lookL (xs.drop pl) 2 0 most = bytesL (xs.drop pl) most := rfl
  rw [e] at hf ⊢
  by_cases h : (bytesL (xs.drop pl) most).f = 0
  · rw [if_neg (by simpa using h)]
    dsimp only
    rw [Nat.add_sub_cancel_left]
    have hb : bytesL (xs.drop pl) most = if (varL (xs.drop pl) most).f ≠ 0 then ⟨0, 0, 0, (varL (xs.drop pl) most).f⟩ else if ((xs.drop pl).length : Int) - (varL (xs.drop pl) most).to < (varL (xs.drop pl) most).n then ⟨0, 0, 0, 1⟩
        else ⟨(varL (xs.drop pl) most).n, (varL (xs.drop pl) most).frm, (varL (xs.drop pl) most).to + (varL (xs.drop pl) most).n.toNat, 0⟩ := rfl
    have hg := varL_good (xs.drop pl) most (octs_drop ho pl)
    have hone := varL_one (xs.drop pl) most (octs_drop ho pl) hm
    generalize xs.drop pl = ys at *
    generalize varL ys most = v at *
    by_cases hv : v.f = 0
    · rw [if_neg (by simpa using hv)] at hb
      by_cases hl : (ys.length : Int) - v.to < v.n
      · rw [if_pos hl] at hb; rw [hb] at h; simp at h
      · rw [if_neg hl] at hb
        rw [hb]
        dsimp only
        obtain ⟨g1, g2, g3, g4, g5, g6, g7⟩ := hg
        have hft := (g7 hv).2.2
        have hlen : ((ys.take (v.to + v.n.toNat)).drop v.frm).length = v.n.toNat := by simp only [List.length_drop, List.length_take]; omega
        rw [hlen, show ((v.n.toNat : Nat) : Int) = v.n by omega, hone hv, hft]
        rw [List.drop_take, Nat.add_sub_cancel_left, ← List.take_add]
    · rw [if_pos hv] at hb; rw [hb] at h; exact absurd h hv
  · rw [if_pos h] at hf; exact absurd hf h
theorem one_raw (xs : List Int) (pl : Nat) (size : Int) (hf : (takeL xs pl 0 3 size 0).f = 0) : (takeL xs pl 0 3 size 0).text = (xs.drop pl).take ((takeL xs pl 0 3 size 0).pl - pl) := by
  rw [takeL_ok] at hf ⊢
  have e : lookL (xs.drop pl) 3 size 0 = rawL (xs.drop pl) size := rfl
  rw [e] at hf ⊢
  by_cases h : (rawL (xs.drop pl) size).f = 0
  · rw [if_neg (by simpa using h)]
    dsimp only
    rw [Nat.add_sub_cancel_left]
    have hfr : (rawL (xs.drop pl) size).frm = 0 := by unfold rawL; split; · rfl
                                                      split <;> rfl
    rw [hfr, List.drop_zero]
  · rw [if_pos h] at hf; exact absurd hf h

theorem one_form (xs : List Int) (ho : Octs xs) (pl : Nat) (o : COp) (hn : o.n ≤ 18446744073709551615) (hm : o.m ≤ 9223372036854775807) (hf : (tookO xs pl 0 o).f = 0) :
    encO o (tookO xs pl 0 o) = (xs.drop pl).take ((tookO xs pl 0 o).pl - pl) := by
  unfold encO tookO at *
  by_cases k1 : o.kind = 1
  · simp only [if_pos k1] at hf ⊢; exact one_fixed xs ho pl 1 hf
  by_cases k2 : o.kind = 2
  · simp only [if_neg k1, if_pos k2] at hf ⊢; exact one_fixed xs ho pl 4 hf
  by_cases k3 : o.kind = 3
  · simp only [if_neg k1, if_neg k2, if_pos k3] at hf ⊢; exact one_fixed xs ho pl 8 hf
  by_cases k4 : o.kind = 4
  · simp only [if_neg k1, if_neg k2, if_neg k3, if_pos k4] at hf ⊢; exact one_var xs ho pl _ hn hf
  by_cases k5 : o.kind = 5
  · simp only [if_neg k1, if_neg k2, if_neg k3, if_neg k4, if_pos k5] at hf ⊢; exact one_bytes xs ho pl _ (by omega) hf
  by_cases k6 : o.kind = 6
  · simp only [if_neg k1, if_neg k2, if_neg k3, if_neg k4, if_neg k5, if_pos k6] at hf ⊢; exact one_raw xs pl _ hf
  simp only [if_neg k1, if_neg k2, if_neg k3, if_neg k4, if_neg k5, if_neg k6, Nat.sub_self, List.take_zero]

end Go.Proofs.Ytkhcofdcokngkaa
