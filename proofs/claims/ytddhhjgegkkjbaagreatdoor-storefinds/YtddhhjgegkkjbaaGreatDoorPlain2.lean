/-
  PLAIN MATHEMATICS, continued: what is found lies within the bytes. No Go text is named here.
-/
import Derived.Test.YtddhhjgegkkjbaaGreatDoorPlain
namespace Go.Proofs.YtddhhjgegkkjbaaGreatDoor
open Go.RowKit

structure Fnd.Fits (x : Fnd) (len : Nat) : Prop where
  n0 : 0 ≤ x.n
  n1 : x.n ≤ 18446744073709551615
  frm : x.frm ≤ x.to
  to : x.to ≤ len
  f : x.f ≤ 4
  bad : x.f ≠ 0 → x = ⟨0, 0, 0, x.f⟩

theorem fits_bad (f len : Nat) (h : f ≤ 4) : Fnd.Fits ⟨0, 0, 0, f⟩ len := ⟨Int.le_refl _, (by dsimp only; decide), Nat.le_refl _, Nat.zero_le _, h, fun _ => rfl⟩
theorem varL_fits (ys : List Int) (most : Int) (ho : Octs ys) (hm : most ≤ 18446744073709551615) : Fnd.Fits (varL ys most) ys.length := by
  obtain ⟨g1, g2, g3, g4, g5, g6, g7⟩ := varL_good ys most ho
  refine ⟨g1, ?_, g3, g4, by omega, g6⟩
  by_cases h : (varL ys most).f = 0
  · have := g2 h; omega
  · rw [g6 h]; dsimp only; decide
theorem fixedL_fits (ys : List Int) (size : Nat) (ho : Octs ys) (hs : size ≤ 8) : Fnd.Fits (fixedL ys size) ys.length := by
  unfold fixedL
  split
  · exact fits_bad 1 _ (by decide)
  · rename_i hl
    have h1 := be_from (ys.take size) (octs_take ho size) 0 (by omega)
    have h2 : (ys.take size).length = size := by simp; omega
    have h3 : ∀ k : Nat, k ≤ 8 → (256 : Int) ^ k ≤ 18446744073709551616 := by decide +kernel
    have h4 := h3 size hs
    rw [h2] at h1
    have h5 : be (ys.take size) < (0 + 1) * 256 ^ size := h1.2
    have h6 : 0 ≤ be (ys.take size) := h1.1
    exact ⟨h6, by dsimp only; omega, Nat.le_refl _, by dsimp only; omega, Nat.zero_le _, fun h => absurd rfl h⟩
theorem rawL_fits (ys : List Int) (size : Int) : Fnd.Fits (rawL ys size) ys.length := by
  unfold rawL
  split
  · exact fits_bad 4 _ (by decide)
  · split
    · exact fits_bad 1 _ (by decide)
    · exact ⟨Int.le_refl _, (by dsimp only; decide), Nat.zero_le _, by dsimp only; omega, Nat.zero_le _, fun h => absurd rfl h⟩
theorem bytesL_fits (ys : List Int) (most : Int) (ho : Octs ys) (hm : most ≤ 18446744073709551615) : Fnd.Fits (bytesL ys most) ys.length := by
  obtain ⟨g1, g2, g3, g4, g5, g6⟩ := varL_fits ys most ho hm
  unfold bytesL
  split
  · exact fits_bad _ _ g5
  · split
    · exact fits_bad 1 _ (by decide)
    · exact ⟨g1, g2, by dsimp only; omega, by dsimp only; omega, Nat.zero_le _, fun h => absurd rfl h⟩
theorem lookL_fits (ys : List Int) (kind size most : Int) (ho : Octs ys) (hs : kind = 0 → size ≤ 8) (hm : most ≤ 18446744073709551615) : Fnd.Fits (lookL ys kind size most) ys.length := by
  unfold lookL
  split
  · rename_i h; exact fixedL_fits ys _ ho (by have := hs h; omega)
  · split
    · exact varL_fits ys most ho hm
    · split
      · exact bytesL_fits ys most ho hm
      · exact rawL_fits ys size

/-- A piece of a row of bytes. -/
theorem BytesAt.seg {w : World} {g : Nat} {t : TypeId} {xs : List Int} (h : w.heap[g]? = some (.cells (xs.map (Value.int .u8)).toArray t (0, 0))) (lo n cap : Nat) (hn : lo + n ≤ xs.length) (hc : n ≤ cap) :
    BytesAt w (.slice (some ⟨g, lo, none⟩) n cap) ((xs.drop lo).take n) := by
  have hl : ((xs.drop lo).take n).length = n := by simp; omega
  refine ⟨some ⟨g, lo, none⟩, cap, by rw [hl], by rw [hl]; exact hc, fun e => (by simp at e), fun _ => ⟨g, lo, rfl, fun i u hu => ?_⟩⟩
  rw [cell_of_row w g (lo + i) _ t _ h]
  have hi : i < n := by have := (List.getElem?_eq_some_iff.1 hu).1; omega
  rw [List.getElem?_take_of_lt hi, List.getElem?_drop] at hu
  simp only [List.getElem?_toArray, List.getElem?_map, hu, Option.map_some]
theorem BytesAt.none' {w : World} (ao : Option Addr) (cap : Nat) (hc : ao = none → cap = 0) : BytesAt w (.slice ao 0 cap) [] := ⟨ao, cap, rfl, Nat.zero_le _, hc, fun h => absurd rfl h⟩
theorem BytesAt.drewN {w : World} {v : Value} {ys : List Int} (h : BytesAt w v ys) (n : Nat) : BytesAt (w.drewN n) v ys := h.kept (S := []) ((Kept.refl _ _).drewN n) (fun _ _ => by simp)

end Go.Proofs.YtddhhjgegkkjbaaGreatDoor
