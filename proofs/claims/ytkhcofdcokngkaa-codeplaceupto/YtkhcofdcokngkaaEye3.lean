/-
  The document's own Reader: a number in its shortest form (Var).
-/
import Derived.Test.YtkhcofdcokngkaaEye2
import Derived.Test.YtkhcofdcokngkaaOwn
namespace Go.Proofs.Ytkhcofdcokngkaa
open Go.RowKit

theorem takeL_var (xs : List Int) (pl : Nat) (most : Int) : takeL xs pl 0 1 0 most = if (varL (xs.drop pl) most).f ≠ 0 then ⟨0, [], pl, (varL (xs.drop pl) most).f⟩
    else ⟨(varL (xs.drop pl) most).n, ((xs.drop pl).take (varL (xs.drop pl) most).to).drop (varL (xs.drop pl) most).frm, pl + (varL (xs.drop pl) most).to, 0⟩ := by
  simp [takeL, lookL]

/-- Behind last, where a place was found: the bytes there, and what the Reader of the document makes of them. -/
theorem var_found (xs : List Int) (pl k : Nat) (most : Int) (ho : Octs xs) (h10 : k < 10) (hl : pl + k < xs.length) (hall : ∀ j, j < k → 128 ≤ xs[pl + j]?.getD 0) (hz : xs[pl + k]?.getD 0 < 128) :
    takeL xs pl 0 1 0 most = if varB (eyeN ((xs.drop pl).take (k + 1))) = (xs.drop pl).take (k + 1)
      then (if most < eyeN ((xs.drop pl).take (k + 1)) then ⟨0, [], pl, 3⟩ else ⟨eyeN ((xs.drop pl).take (k + 1)), [], pl + (k + 1), 0⟩) else ⟨0, [], pl, 2⟩ := by
  obtain ⟨ys, hys⟩ : ∃ ys, ys = xs.drop pl := ⟨_, rfl⟩
  have hyl : k < ys.length := by rw [hys]; simp; omega
  have hyo : Octs ys := by rw [hys]; exact octs_drop ho pl
  have hy : ∀ j, ys[j]?.getD 0 = xs[pl + j]?.getD 0 := by intro j; rw [hys, List.getElem?_drop]
  have e : ys = ys.take k ++ (ys[k]?.getD 0) :: ys.drop (k + 1) := by rw [← drop_cons ys k hyl, List.take_append_drop]
  have hlen : (ys.take k).length = k := by simp; omega
  have e2 : ys.take (k + 1) = ys.take k ++ [ys[k]?.getD 0] := take_snoc ys k hyl
  have hv := varL_eye (ys.take k) (ys.drop (k + 1)) (ys[k]?.getD 0) most (fun x hx => by
      obtain ⟨j, hj, rfl⟩ := List.mem_iff_getElem.1 hx
      rw [hlen] at hj
      have h1 := hall j hj
      rw [← hy] at h1
      have h2 := octs_getD hyo j
      rw [List.getElem_take]
      rw [List.getElem?_eq_getElem (show j < ys.length by omega)] at h1 h2
      exact ⟨h1, h2.2⟩) (by omega) (octs_getD hyo k).1 (by rw [hy]; exact hz) (octs_drop hyo _)
  rw [← e, ← e2, hlen] at hv
  rw [takeL_var, ← hys, hv]
  by_cases h1 : varB (eyeN (ys.take (k + 1))) = ys.take (k + 1)
  · rw [if_pos h1, if_pos h1]
    by_cases h2 : most < eyeN (ys.take (k + 1))
    · rw [if_pos h2, if_pos h2]; rfl
    · rw [if_neg h2, if_neg h2]
      simp
  · rw [if_neg h1, if_neg h1]; rfl
theorem var_open (xs : List Int) (pl : Nat) (most : Int) (hall : ∀ j, j < 10 → pl + j < xs.length → 128 ≤ xs[pl + j]?.getD 0) :
    takeL xs pl 0 1 0 most = ⟨0, [], pl, if xs.length - pl < 10 then 1 else 2⟩ := by
  have hv := varL_open (xs.drop pl) most (fun x hx => by
    obtain ⟨j, hj, rfl⟩ := List.mem_iff_getElem.1 hx
    simp only [List.length_take, List.length_drop] at hj
    have := hall j (by omega) (by omega)
    rw [List.getElem?_eq_getElem (show pl + j < xs.length by omega)] at this
    simpa using this)
  rw [takeL_var, hv, List.length_drop]
  split <;> simp_all
theorem eyeN_step (ys : List Int) (m k : Nat) (hm : m < k + 1) (hk : k < ys.length) : eyeN ((ys.drop m).take (k + 1 - m)) = (eyeN ((ys.drop (m + 1)).take (k + 1 - (m + 1))) * 128 + ys[m]?.getD 0 % 128) % 18446744073709551616 := by
  rw [drop_cons ys m (by omega), show k + 1 - m = (k + 1 - (m + 1)) + 1 by omega, List.take_succ_cons, eyeN]

end Go.Proofs.Ytkhcofdcokngkaa
