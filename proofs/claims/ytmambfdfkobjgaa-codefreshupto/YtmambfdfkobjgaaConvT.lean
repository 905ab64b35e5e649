/-
  A text turned into bytes.
-/
import Derived.Test.YtmambfdfkobjgaaConv
import Derived.Laws.IdiomStrings
namespace Go.Proofs.Ytmambfdfkobjgaa
open Go.RowKit

/-- A text turned into bytes. -/
theorem conv_txt (w : World) (xs : List Int) (ho : Octs xs) : ∃ cap w1, (convert 9 22 (.string (strOfNums xs))).run Try.prog w = .ok (.slice (some ⟨w.heap.size, 0, none⟩) xs.length cap) w1 ∧ BytesAt w1 (.slice (some ⟨w.heap.size, 0, none⟩) xs.length cap) xs ∧ Kept [] w w1 ∧ w.heap.size < w1.heap.size := by
  have h := run_bytes_of_string (P := Try.prog) w 9 22 5 (strOfNums xs) Try.underlying9 Try.underlying22 Try.underlying5
  rw [strOfNums_size] at h
  refine ⟨_, _, h, ⟨_, _, rfl, ?_, fun e => (by cases e), fun _ => ⟨w.heap.size, 0, rfl, fun i u hu => ?_⟩⟩, (Kept.refl [] w).drew.alloc _, by rw [World.size_alloc]; exact Nat.lt_succ_self _⟩
  · exact grownCap_ge w _ _ _
  · have hi : i < xs.length := (List.getElem?_eq_some_iff.1 hu).1
    have hr := ho u (List.mem_of_getElem? hu)
    refine (World.cell?_alloc_mark w.drew _ _ _ _).trans ?_
    rw [Nat.zero_add]
    unfold bytesRow
    rw [Array.getElem?_append_left (by rw [Array.size_map]; show i < (strOfNums xs).size; rw [strOfNums_size]; exact hi), Array.getElem?_map, ← Array.getElem?_toList, strOfNums_data, List.getElem?_map, hu]
    simp
    omega
end Go.Proofs.Ytmambfdfkobjgaa
