/-
  PLAIN: there and back: what Map makes of a name and what Unmap tells of a target.
-/
import Derived.Test.YtmjbaficdoehfaaDoorRm0
namespace Go.Proofs.YtmjbaficdoehfaaDoor

theorem fit_fill {side m : List Int} (h : starB side = true) : fitL side (fillL side m) = some m := by
  have hl := star_len h
  have e : fillL side m = aheadL side ++ m ++ behindL side := by unfold fillL; rw [if_pos h]
  have e1 : (fillL side m).length + 1 - side.length = m.length := by rw [e, List.length_append, List.length_append]; omega
  have e2 : ((fillL side m).drop (aheadL side).length).take ((fillL side m).length + 1 - side.length) = m := by
    rw [e1, e, List.append_assoc, List.drop_left, List.take_left]
  have e3 : side.length ≤ (fillL side m).length + 1 := by rw [e, List.length_append, List.length_append]; omega
  unfold fitL
  rw [if_pos h, e2, if_pos ⟨e3, rfl⟩]
theorem fill_fit {side s m : List Int} (h : fitL side s = some m) : fillL side m = s := by
  unfold fitL at h
  split at h
  · split at h
    · rename_i hc
      injection h with h
      rw [← h]
      exact hc.2
    · cases h
  · split at h
    · rename_i hs hc
      unfold fillL
      rw [if_neg hs]
      exact hc
    · cases h
theorem carry_back {a b s t : List Int} (h : carryL a b s = some t) : checkB t = true ∧ starB a = starB b ∧ ∃ m, fitL a s = some m ∧ fitL b t = some m := by
  unfold carryL at h
  cases hm : fitL a s with
  | none => rw [hm] at h; cases h
  | some m =>
    rw [hm] at h
    simp only at h
    split at h
    · rename_i hc
      injection h with h
      subst h
      refine ⟨hc.2, hc.1, m, rfl, ?_⟩
      by_cases hb : starB b = true
      · exact fit_fill hb
      · have ha : starB a ≠ true := by rw [hc.1]; exact hb
        have hm0 : m = [] := by
          unfold fitL at hm
          rw [if_neg ha] at hm
          split at hm
          · injection hm with hm
            exact hm.symm
          · cases hm
        subst hm0
        unfold fitL fillL
        rw [if_neg hb, if_neg hb, if_pos rfl]
    · cases h
/-- The rule that served. -/
theorem map_by {rs : List RuleL} {name a : List Int} {f : Bool} (h : mapL rs name = some (a, f)) : checkB name = true ∧ ∃ r, r ∈ rs ∧ r.neg ≠ true ∧ carryL r.src r.dst name = some a := by
  unfold mapL at h
  split at h
  · rename_i hc
    obtain ⟨l, r, l2, e, hr, _⟩ := List.findSome?_eq_some_iff.1 h
    unfold ruleL at hr
    split at hr
    · cases hr
    · rename_i hn
      cases hc2 : carryL r.src r.dst name with
      | none => rw [hc2] at hr; cases hr
      | some t =>
        rw [hc2] at hr
        simp only [Option.map_some, Option.some.injEq, Prod.mk.injEq] at hr
        obtain ⟨rfl, rfl⟩ := hr
        exact ⟨hc.1, r, by rw [e]; simp, hn, hc2⟩
  · cases h
theorem map_good {rs : List RuleL} {name a : List Int} {f : Bool} (h : mapL rs name = some (a, f)) : checkB name = true ∧ checkB a = true := by
  obtain ⟨h1, r, _, _, h2⟩ := map_by h
  exact ⟨h1, (carry_back h2).1⟩
theorem unmap_of_map {rs : List RuleL} {name a : List Int} {f : Bool} (h : mapL rs name = some (a, f)) : ∃ n, unmapL rs a = some n := by
  obtain ⟨_, r, hm, hn, hc⟩ := map_by h
  obtain ⟨_, hs, m, h1, h2⟩ := carry_back hc
  have hu : unruleL rs a r = some name := by
    unfold unruleL
    rw [if_neg hn, h2]
    simp only
    rw [fill_fit h1, if_pos ⟨hs, by rw [h]; rfl⟩]
  cases hx : unmapL rs a with
  | some n => exact ⟨n, rfl⟩
  | none =>
    unfold unmapL at hx
    rw [List.findSome?_eq_none_iff] at hx
    rw [hx r hm] at hu
    cases hu
theorem map_of_unmap {rs : List RuleL} {t n : List Int} (h : unmapL rs t = some n) : ∃ f, mapL rs n = some (t, f) := by
  unfold unmapL at h
  obtain ⟨l, r, l2, e, hr, _⟩ := List.findSome?_eq_some_iff.1 h
  unfold unruleL at hr
  split at hr
  · cases hr
  · split at hr
    · cases hr
    · split at hr
      · rename_i hc
        injection hr with hr
        subst hr
        obtain ⟨⟨t', f⟩, h1, h2⟩ := Option.map_eq_some_iff.1 hc.2
        obtain rfl : t' = t := h2
        exact ⟨f, h1⟩
      · cases hr
/-- A rule that leaves just this name out. -/
theorem map_not {rs : List RuleL} {name dst : List Int} {f : Bool} (h : starB name = false) : mapL (rs ++ [⟨name, dst, f, true⟩]) name = none := by
  unfold mapL
  refine if_neg fun hc => ?_
  have h2 := hc.2
  have h3 : fitL name name = some [] := by unfold fitL; rw [if_neg (by rw [h]; simp), if_pos rfl]
  unfold leftB at h2
  rw [List.any_append] at h2
  simp [h3] at h2
end Go.Proofs.YtmjbaficdoehfaaDoor
