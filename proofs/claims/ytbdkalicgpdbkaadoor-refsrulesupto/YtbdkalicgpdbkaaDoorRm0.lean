/-
  PLAIN: rules of refs: what fits a side, what a name becomes, where a target came from.
-/
import Derived.Test.YtbdkalicgpdbkaaDoorRn4
namespace Go.Proofs.YtbdkalicgpdbkaaDoor

/-- Ahead of the star; behind it. -/
def aheadL (side : List Int) : List Int := side.takeWhile (fun b => decide (b ≠ 42))
def behindL (side : List Int) : List Int := (side.dropWhile (fun b => decide (b ≠ 42))).tail
def starB (side : List Int) : Bool := decide (42 ∈ side)
/-- The side with its star put as m. -/
def fillL (side m : List Int) : List Int := if starB side = true then aheadL side ++ m ++ behindL side else side
theorem star_split {side : List Int} (h : starB side = true) : side = aheadL side ++ 42 :: behindL side ∧ 42 ∉ aheadL side := by
  have hm : (42 : Int) ∈ side := of_decide_eq_true h
  unfold aheadL behindL
  have h0 := List.takeWhile_append_dropWhile (p := fun b : Int => decide (b ≠ 42)) (l := side)
  have h1 : 42 ∉ side.takeWhile (fun b => decide (b ≠ 42)) := fun hc => by
    have h2 : ∀ (l : List Int), 42 ∉ l.takeWhile (fun b => decide (b ≠ 42)) := fun l => by
      induction l with
      | nil => simp
      | cons a t ih =>
        rw [List.takeWhile_cons]
        split
        · rename_i ha
          rw [List.mem_cons]
          rintro (h3 | h3)
          · rw [← h3] at ha; simp at ha
          · exact ih h3
        · simp
    exact h2 side hc
  refine ⟨?_, h1⟩
  cases hd : side.dropWhile (fun b => decide (b ≠ 42)) with
  | nil =>
    rw [hd, List.append_nil] at h0
    rw [h0] at h1
    exact absurd hm h1
  | cons a t =>
    have ha : a = 42 := by
      have h3 : ∀ (l : List Int) (a : Int) (t : List Int), l.dropWhile (fun b => decide (b ≠ 42)) = a :: t → a = 42 := fun l => by
        induction l with
        | nil => intro a t h; simp at h
        | cons c l ih =>
          intro a t h
          rw [List.dropWhile_cons] at h
          split at h
          · exact ih a t h
          · rename_i hc
            injection h with h4 h5
            rw [← h4]
            simpa using hc
      exact h3 side a t hd
    rw [hd, ha] at h0
    rw [List.tail_cons]
    exact h0.symm
theorem star_len {side : List Int} (h : starB side = true) : side.length = (aheadL side).length + 1 + (behindL side).length := by
  have h1 := congrArg List.length (star_split h).1
  rw [List.length_append, List.length_cons] at h1
  omega
/-- A rule. -/
structure RuleL where
  src : List Int
  dst : List Int
  force : Bool
  neg : Bool
theorem put_len (side m : List Int) (h : starB side = true) : (fillL side m).length + 1 = side.length + m.length := by
  unfold fillL
  rw [if_pos h, List.length_append, List.length_append]
  have := star_len h
  omega
theorem put_no (side m : List Int) (h : starB side = false) : fillL side m = side := by
  unfold fillL
  rw [h]
  rfl
end Go.Proofs.YtbdkalicgpdbkaaDoor
