/-
  PLAIN: a stamp put in its place among merged ones.
-/
import Derived.Test.YtmjbaficdoehfaaMg8
namespace Go.Proofs.Ytmjbaficdoehfaa
open Go.RowKit Go.Sort

theorem ord_set {O : List StampE} {p : Nat} {x y : StampE} (hy : O[p]? = some y) (hn : y.name = x.name) (h : O.Pairwise fun a b => cmpB a.name b.name < 0) : (O.set p x).Pairwise fun a b => cmpB a.name b.name < 0 := by
  have e : (O.set p x).map StampE.name = O.map StampE.name := by
    apply List.ext_getElem?
    intro i
    rw [List.getElem?_map, List.getElem?_map]
    by_cases hi : p = i
    · subst hi
      rw [List.getElem?_set_self (List.getElem?_eq_some_iff.1 hy).1, hy, Option.map_some, Option.map_some, hn]
    · rw [List.getElem?_set_ne hi]
  have h1 : (O.map StampE.name).Pairwise fun a b => cmpB a b < 0 := List.pairwise_map.2 h
  rw [← e] at h1
  exact List.pairwise_map.1 h1
theorem MergedTo.keep {ins O : List StampE} {x y : StampE} (h : MergedTo ins O) (hy : y ∈ O) (hn : y.name = x.name) (hb : ¬ Beat y x) : MergedTo (ins ++ [x]) O := by
  refine ⟨h.ord, fun z hz => List.mem_append_left _ (h.sub z hz), fun z hz => ?_⟩
  rcases List.mem_append.1 hz with g | g
  · exact h.top z g
  · rw [List.mem_singleton.1 g]
    exact ⟨y, hy, hn, hb⟩
theorem MergedTo.put {ins O : List StampE} {p : Nat} {x y : StampE} (h : MergedTo ins O) (hy : O[p]? = some y) (hn : y.name = x.name) (hb : Beat y x) : MergedTo (ins ++ [x]) (O.set p x) := by
  have hp : p < O.length := (List.getElem?_eq_some_iff.1 hy).1
  have hx : x ∈ O.set p x := List.mem_of_getElem? (List.getElem?_set_self hp)
  refine ⟨ord_set hy hn h.ord, fun z hz => ?_, fun z hz => ?_⟩
  · rcases List.mem_or_eq_of_mem_set hz with g | g
    · exact List.mem_append_left _ (h.sub z g)
    · rw [g]; simp
  · rcases List.mem_append.1 hz with g | g
    · obtain ⟨m, hm, h1, h2⟩ := h.top z g
      by_cases e : m = y
      · subst e
        exact ⟨x, hx, hn.symm.trans h1, fun k => h2 (beat_trans hb k)⟩
      · obtain ⟨k, hk, hkm⟩ := List.getElem_of_mem hm
        have hkp : p ≠ k := fun e2 => by
          subst e2
          rw [List.getElem?_eq_getElem hk, hkm] at hy
          exact e (Option.some.inj hy)
        exact ⟨m, List.mem_of_getElem? (i := k) (by rw [List.getElem?_set_ne hkp, List.getElem?_eq_getElem hk, hkm]), h1, h2⟩
    · rw [List.mem_singleton.1 g]
      exact ⟨x, hx, rfl, beat_self x⟩
theorem MergedTo.ins {ins O : List StampE} {p : Nat} {x : StampE} (h : MergedTo ins O) (h1 : ∀ i y, i < p → O[i]? = some y → cmpB y.name x.name < 0) (h2 : ∀ y, O[p]? = some y → ¬ cmpB y.name x.name < 0 ∧ y.name ≠ x.name) : MergedTo (ins ++ [x]) (O.take p ++ x :: O.drop p) := by
  have hlow : ∀ y, y ∈ O.take p → cmpB y.name x.name < 0 := fun y hy => by
    obtain ⟨i, hi, e⟩ := List.getElem_of_mem hy
    have hi' : i < p := by rw [List.length_take] at hi; omega
    refine h1 i y hi' ?_
    rw [← List.getElem?_take_of_lt hi', List.getElem?_eq_getElem hi, e]
  have hhigh : ∀ y, y ∈ O.drop p → cmpB x.name y.name < 0 := fun y hy => by
    obtain ⟨i, hi, e⟩ := List.getElem_of_mem hy
    rw [List.length_drop] at hi
    have hyi : O[p + i]? = some y := by rw [← List.getElem?_drop, List.getElem?_eq_getElem (by rw [List.length_drop]; exact hi), e]
    obtain ⟨z, hz⟩ : ∃ z, O[p]? = some z := ⟨_, List.getElem?_eq_getElem (by omega)⟩
    obtain ⟨g1, g2⟩ := h2 z hz
    have hxz : cmpB x.name z.name < 0 := by
      rcases cmpB_ge g1 with g | g
      · exact g
      · exact absurd g g2
    by_cases h0 : i = 0
    · subst h0
      rw [Nat.add_zero, hz] at hyi
      exact Option.some.inj hyi ▸ hxz
    · have := List.pairwise_iff_getElem.1 h.ord p (p + i) (by omega) (by omega) (by omega)
      rw [List.getElem?_eq_getElem (by omega)] at hz hyi
      rw [Option.some.inj hz, Option.some.inj hyi] at this
      exact cmpB_trans _ _ _ hxz this
  have hsplit : ∀ z, z ∈ O → z ∈ O.take p ++ x :: O.drop p := fun z hz => by
    rw [← List.take_append_drop p O] at hz
    rcases List.mem_append.1 hz with g | g
    · exact List.mem_append_left _ g
    · exact List.mem_append_right _ (List.mem_cons_of_mem _ g)
  refine ⟨List.pairwise_append.2 ⟨h.ord.sublist (List.take_sublist _ _), List.pairwise_cons.2 ⟨hhigh, h.ord.sublist (List.drop_sublist _ _)⟩, fun a ha b hb => ?_⟩, fun z hz => ?_, fun z hz => ?_⟩
  · rcases List.mem_cons.1 hb with g | g
    · rw [g]; exact hlow a ha
    · exact cmpB_trans _ _ _ (hlow a ha) (hhigh b g)
  · rcases List.mem_append.1 hz with g | g
    · exact List.mem_append_left _ (h.sub z (List.mem_of_mem_take g))
    · rcases List.mem_cons.1 g with e | e
      · rw [e]; simp
      · exact List.mem_append_left _ (h.sub z (List.mem_of_mem_drop e))
  · rcases List.mem_append.1 hz with g | g
    · obtain ⟨m, hm, e1, e2⟩ := h.top z g
      exact ⟨m, hsplit m hm, e1, e2⟩
    · rw [List.mem_singleton.1 g]
      exact ⟨x, by simp, rfl, beat_self x⟩
theorem MergedTo.nil : MergedTo [] [] := ⟨List.Pairwise.nil, by simp, by simp⟩
/-- The model's order of texts. -/
theorem less_cmpB : ∀ xs ys : List Int, (∀ x, x ∈ xs → 0 ≤ x ∧ x ≤ 255) → (∀ x, x ∈ ys → 0 ≤ x ∧ x ≤ 255) → Op.bytesLess (Lib.bytesOf xs) (Lib.bytesOf ys) = decide (cmpB xs ys < 0)
  | [], [], _, _ => rfl
  | [], _ :: _, _, _ => rfl
  | _ :: _, [], _, _ => rfl
  | a :: x, b :: y, h1, h2 => by
    have ha := h1 a (by simp)
    have hb := h2 b (by simp)
    have ih := less_cmpB x y (fun z hz => h1 z (by simp [hz])) (fun z hz => h2 z (by simp [hz]))
    have he : (UInt8.ofNat a.toNat == UInt8.ofNat b.toNat) = decide (a = b) := by
      rw [Bool.eq_iff_iff, beq_iff_eq, decide_eq_true_eq]
      constructor
      · intro h
        have h3 := congrArg UInt8.toNat h
        rw [UInt8.toNat_ofNat_of_lt' (by show _ < 256; omega), UInt8.toNat_ofNat_of_lt' (by show _ < 256; omega)] at h3
        omega
      · rintro rfl; rfl
    show (decide (UInt8.ofNat a.toNat < UInt8.ofNat b.toNat) || ((UInt8.ofNat a.toNat == UInt8.ofNat b.toNat) && Op.bytesLess (Lib.bytesOf x) (Lib.bytesOf y))) = decide ((if a < b then (-1 : Int) else if b < a then 1 else cmpB x y) < 0)
    rw [he, ih, decide_eq_decide.2 (u8_lt ha hb)]
    by_cases g1 : a < b
    · rw [decide_eq_true g1, if_pos g1]; rfl
    · by_cases g2 : b < a
      · rw [decide_eq_false g1, decide_eq_false (by omega : ¬ a = b), if_neg g1, if_pos g2]; rfl
      · rw [decide_eq_false g1, decide_eq_true (by omega : a = b), if_neg g1, if_neg g2]; rfl
theorem str_less {xs ys : List Int} (hx : Octs xs) (hy : Octs ys) : Op.bytesLess (strOfNums xs).toList (strOfNums ys).toList = decide (cmpB xs ys < 0) := by
  rw [Lib.strOfNums_toList, Lib.strOfNums_toList]
  exact less_cmpB xs ys hx hy
end Go.Proofs.Ytmjbaficdoehfaa
