/-
  PLAIN: rules of refs: what fits a side, what a name becomes, where a target came from.
-/
import Derived.Test.YtmjbaficdoehfaaDoorRn4
namespace Go.Proofs.YtmjbaficdoehfaaDoor

/-- Ahead of the star; behind it. -/
def aheadL (side : List Int) : List Int := side.takeWhile (fun b => decide (b ≠ 42))
def behindL (side : List Int) : List Int := (side.dropWhile (fun b => decide (b ≠ 42))).tail
def starB (side : List Int) : Bool := decide (42 ∈ side)
/-- The side with its star put as m. -/
def fillL (side m : List Int) : List Int := if starB side = true then aheadL side ++ m ++ behindL side else side
/-- What the star stands for in s, if s fits the side. -/
def fitL (side s : List Int) : Option (List Int) :=
  if starB side = true then (if side.length ≤ s.length + 1 ∧ fillL side ((s.drop (aheadL side).length).take (s.length + 1 - side.length)) = s then some ((s.drop (aheadL side).length).take (s.length + 1 - side.length)) else none)
  else if side = s then some [] else none
theorem star_split {side : List Int} (h : starB side = true) : side = aheadL side ++ 42 :: behindL side ∧ 42 ∉ aheadL side := by
  have hm : (42 : Int) ∈ side := of_decide_eq_true h
  unfold aheadL behindL
  have h0 := List.takeWhile_append_dropWhile (p := fun b : Int => decide (b ≠ 42)) (l := side)
  have h1 : 42 ∉ side.takeWhile (fun b => decide (b ≠ 42)) := fun hc => by
    have h2 : ∀ (l : List Int), 42 ∉ l.takeWhile (fun b => decide (b ≠ 42)) := fun l => by
      induction l with
      | nil => simp
      | cons a t ih =>
        rw [List.takeWhile_cons]
        split
        · rename_i ha
          rw [List.mem_cons]
          rintro (h3 | h3)
          · rw [← h3] at ha; simp at ha
          · exact ih h3
        · simp
    exact h2 side hc
  refine ⟨?_, h1⟩
  cases hd : side.dropWhile (fun b => decide (b ≠ 42)) with
  | nil =>
    rw [hd, List.append_nil] at h0
    rw [h0] at h1
    exact absurd hm h1
  | cons a t =>
    have ha : a = 42 := by
      have h3 : ∀ (l : List Int) (a : Int) (t : List Int), l.dropWhile (fun b => decide (b ≠ 42)) = a :: t → a = 42 := fun l => by
        induction l with
        | nil => intro a t h; simp at h
        | cons c l ih =>
          intro a t h
          rw [List.dropWhile_cons] at h
          split at h
          · exact ih a t h
          · rename_i hc
            injection h with h4 h5
            rw [← h4]
            simpa using hc
      exact h3 side a t hd
    rw [hd, ha] at h0
    rw [List.tail_cons]
    exact h0.symm
theorem star_len {side : List Int} (h : starB side = true) : side.length = (aheadL side).length + 1 + (behindL side).length := by
  have h1 := congrArg List.length (star_split h).1
  rw [List.length_append, List.length_cons] at h1
  omega
/-- The same, told by what is ahead and what is behind. -/
theorem fit_star {side s : List Int} (h : starB side = true) : fitL side s = if (aheadL side).isPrefixOf s = true ∧ (behindL side).isSuffixOf (s.drop (aheadL side).length) = true then some ((s.drop (aheadL side).length).take ((s.drop (aheadL side).length).length - (behindL side).length)) else none := by
  have hl := star_len h
  unfold fitL fillL
  rw [if_pos h, if_pos h]
  by_cases hp : (aheadL side).isPrefixOf s = true ∧ (behindL side).isSuffixOf (s.drop (aheadL side).length) = true
  · obtain ⟨h1, h2⟩ := hp
    have hA := List.isPrefixOf_iff_prefix.1 h1
    have hB := List.isSuffixOf_iff_suffix.1 h2
    obtain ⟨u, hu⟩ := hA
    have hd : s.drop (aheadL side).length = u := by rw [← hu, List.drop_left]
    rw [hd] at hB h2 ⊢
    obtain ⟨m, hm⟩ := hB
    have e1 : s.length + 1 - side.length = m.length := by
      rw [← hu, ← hm, List.length_append, List.length_append]
      omega
    have e2 : u.length - (behindL side).length = m.length := by
      rw [← hm, List.length_append]
      omega
    rw [e1, e2]
    have e3 : u.take m.length = m := by rw [← hm, List.take_left]
    rw [e3, if_pos ⟨by rw [← hu, ← hm, List.length_append, List.length_append]; omega, by rw [List.append_assoc, hm, hu]⟩, if_pos ⟨h1, h2⟩]
  · rw [if_neg hp]
    refine if_neg fun hc => hp ?_
    obtain ⟨h1, h2⟩ := hc
    have h3 : aheadL side <+: s := ⟨_, by rw [← List.append_assoc]; exact h2⟩
    refine ⟨List.isPrefixOf_iff_prefix.2 h3, List.isSuffixOf_iff_suffix.2 ⟨(s.drop (aheadL side).length).take (s.length + 1 - side.length), ?_⟩⟩
    have h4 := congrArg (List.drop (aheadL side).length) h2
    rw [List.append_assoc, List.drop_left] at h4
    exact h4
/-- A side that is too long fits nothing. -/
theorem fit_long {side s : List Int} (h : s.length + 1 < side.length) : fitL side s = none := by
  unfold fitL
  split
  · exact if_neg fun hc => by omega
  · exact if_neg fun hc => by rw [hc] at h; omega
/-- A rule. -/
structure RuleL where
  src : List Int
  dst : List Int
  force : Bool
  neg : Bool
def leftB (rs : List RuleL) (name : List Int) : Bool := rs.any fun r => r.neg && (fitL r.src name).isSome
/-- What a text that fits the one side becomes at the other. -/
def carryL (a b s : List Int) : Option (List Int) :=
  match fitL a s with
  | none => none
  | some m => if starB a = starB b ∧ checkB (fillL b m) = true then some (fillL b m) else none
def ruleL (name : List Int) (r : RuleL) : Option (List Int × Bool) := if r.neg = true then none else (carryL r.src r.dst name).map fun t => (t, r.force)
def mapL (rs : List RuleL) (name : List Int) : Option (List Int × Bool) := if checkB name = true ∧ leftB rs name = false then rs.findSome? (ruleL name) else none
def unruleL (rs : List RuleL) (target : List Int) (r : RuleL) : Option (List Int) :=
  if r.neg = true then none else
  match fitL r.dst target with
  | none => none
  | some m => if starB r.src = starB r.dst ∧ (mapL rs (fillL r.src m)).map Prod.fst = some target then some (fillL r.src m) else none
def unmapL (rs : List RuleL) (target : List Int) : Option (List Int) := rs.findSome? (unruleL rs target)
/-- The program's way: only a good name is asked for. -/
theorem unrule_carry (rs : List RuleL) (target : List Int) (r : RuleL) : unruleL rs target r = if r.neg = true then none else match carryL r.dst r.src target with | none => none | some n => if (mapL rs n).map Prod.fst = some target then some n else none := by
  unfold unruleL carryL
  by_cases hn : r.neg = true
  · rw [if_pos hn, if_pos hn]
  rw [if_neg hn, if_neg hn]
  cases fitL r.dst target with
  | none => rfl
  | some m =>
    simp only
    by_cases hs : starB r.src = starB r.dst
    · by_cases hc : checkB (fillL r.src m) = true
      · have e : (if starB r.dst = starB r.src ∧ checkB (fillL r.src m) = true then some (fillL r.src m) else none) = some (fillL r.src m) := if_pos ⟨hs.symm, hc⟩
        rw [e]
        by_cases hm : (mapL rs (fillL r.src m)).map Prod.fst = some target
        · rw [if_pos ⟨hs, hm⟩]
          exact (if_pos hm).symm
        · rw [if_neg (fun h => hm h.2)]
          exact (if_neg hm).symm
      · have e : (if starB r.dst = starB r.src ∧ checkB (fillL r.src m) = true then some (fillL r.src m) else none) = none := if_neg fun h => hc h.2
        rw [e]
        have hm : mapL rs (fillL r.src m) = none := by unfold mapL; exact if_neg fun h => hc h.1
        rw [hm]
        exact if_neg fun h => by simp at h
    · have e : (if starB r.dst = starB r.src ∧ checkB (fillL r.src m) = true then some (fillL r.src m) else none) = none := if_neg fun h => hs h.1.symm
      rw [e]
      exact if_neg fun h => hs h.1
theorem find_hit {α β : Type} {f : α → Option β} : ∀ {l : List α} {k : Nat} {a : α} {b : β}, (l.take k).findSome? f = none → l[k]? = some a → f a = some b → l.findSome? f = some b
  | [], k, a, b, _, h, _ => by simp at h
  | x :: l, 0, a, b, _, h, hf => by
    simp only [List.getElem?_cons_zero, Option.some.injEq] at h
    rw [List.findSome?_cons, h, hf]
  | x :: l, k + 1, a, b, h0, h, hf => by
    rw [List.take_succ_cons, List.findSome?_cons] at h0
    rw [List.getElem?_cons_succ] at h
    cases hx : f x with
    | some y => rw [hx] at h0; cases h0
    | none =>
      rw [hx] at h0
      rw [List.findSome?_cons, hx]
      exact find_hit h0 h hf
theorem find_next {α β : Type} {f : α → Option β} {l : List α} {k : Nat} {a : α} (h0 : (l.take k).findSome? f = none) (h : l[k]? = some a) (hf : f a = none) : (l.take (k + 1)).findSome? f = none := by
  rw [List.take_add_one, h, List.findSome?_append, h0]
  simp [hf]
theorem find_end {α β : Type} {f : α → Option β} {l : List α} {k : Nat} (h0 : (l.take k).findSome? f = none) (hk : l.length ≤ k) : l.findSome? f = none := by rwa [List.take_of_length_le hk] at h0
theorem any_hit {α : Type} {f : α → Bool} {l : List α} {k : Nat} {a : α} (h : l[k]? = some a) (hf : f a = true) : l.any f = true := List.any_eq_true.2 ⟨a, List.mem_of_getElem? h, hf⟩
theorem any_next {α : Type} {f : α → Bool} {l : List α} {k : Nat} {a : α} (h0 : (l.take k).any f = false) (h : l[k]? = some a) (hf : f a = false) : (l.take (k + 1)).any f = false := by
  rw [List.take_add_one, h, List.any_append, h0]
  simp [hf]
theorem any_end {α : Type} {f : α → Bool} {l : List α} {k : Nat} (h0 : (l.take k).any f = false) (hk : l.length ≤ k) : l.any f = false := by rwa [List.take_of_length_le hk] at h0
theorem put_len (side m : List Int) (h : starB side = true) : (fillL side m).length + 1 = side.length + m.length := by
  unfold fillL
  rw [if_pos h, List.length_append, List.length_append]
  have := star_len h
  omega
theorem put_no (side m : List Int) (h : starB side = false) : fillL side m = side := by
  unfold fillL
  rw [h]
  rfl
end Go.Proofs.YtmjbaficdoehfaaDoor
