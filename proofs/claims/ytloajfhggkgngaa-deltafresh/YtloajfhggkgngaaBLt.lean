/-
  Bytes lie in memory that is there.
-/
import Derived.Test.YtloajfhggkgngaaBase
namespace Go.Proofs.Ytloajfhggkgngaa
open Go.RowKit

theorem BytesAt.lt {w : World} {v : Value} {ys : List Int} (h : BytesAt w v ys) (hne : ys ≠ []) : ∀ k, blkOf v = some k → k < w.heap.size := by
  intro k hk
  obtain ⟨ao, cap, rfl, _, _, hcc⟩ := h
  obtain ⟨b', off', rfl, hh⟩ := hcc hne
  simp [blkOf] at hk
  subst hk
  cases ys with
  | nil => exact absurd rfl hne
  | cons x t => exact World.block_lt_of_cell? w _ (hh 0 x rfl)

end Go.Proofs.Ytloajfhggkgngaa
