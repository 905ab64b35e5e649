/-
  A list of lists of bytes in memory.
-/
import Derived.Test.YtpdmlnimdbepaaaDoorBase
import Derived.Test.YtpdmlnimdbepaaaDoorPlain
namespace Go.Proofs.YtpdmlnimdbepaaaDoor
open Go.RowKit

/-- A list of lists of bytes. -/
def LsAt (w : World) (v : Value) (L : List (List Int)) : Prop :=
  ∃ ao cap, v = .slice ao L.length cap ∧ L.length ≤ 140737488351232 ∧ (∀ xs, xs ∈ L → Octs xs ∧ xs.length ≤ 140737488351232) ∧ (L ≠ [] → ∃ b off, ao = some ⟨b, off, none⟩ ∧ ∀ (i : Nat) xs, L[i]? = some xs → ∃ u, w.cell? ⟨b, off + i, none⟩ = some u ∧ BytesAt w u xs)
theorem LsAt.kept {w w' : World} {v : Value} {L : List (List Int)} (h : LsAt w v L) (k : Kept [] w w') : LsAt w' v L := by
  obtain ⟨ao, cap, h1, h2, h3, h4⟩ := h
  refine ⟨ao, cap, h1, h2, h3, fun hne => ?_⟩
  obtain ⟨b, off, h5, h6⟩ := h4 hne
  refine ⟨b, off, h5, fun i xs hi => ?_⟩
  obtain ⟨u, h7, h8⟩ := h6 i xs hi
  exact ⟨u, k.cell h7 (by simp), h8.kept' k (fun _ _ _ => by simp)⟩
end Go.Proofs.YtpdmlnimdbepaaaDoor
