/-
  refs.parseRule: any word that is not empty.
-/
import Derived.Test.YtbdkalicgpdbkaaDoorRr12
namespace Go.Proofs.YtbdkalicgpdbkaaDoor
open Go.RowKit

theorem parse_any (p : List Int) (hne : p ≠ []) (ho : Octs p) (hl : p.length ≤ 1100000) (w : World) (hT : Tabs w) (hM : MaxW w) :
    Calls Tryd.prog 32 #[.string (strOfNums p)] w fun e w' => ∃ r : RuleL, e = .returned (.tuple #[.agg r.row.toArray, .bool (readL p).isSome]) ∧ (∀ q, readL p = some q → r = q) ∧ Kept [] w w' := by
  by_cases h94 : p.head? = some 94
  · obtain ⟨q, rfl⟩ : ∃ q, p = 94 :: q := by
      cases p with
      | nil => exact absurd rfl hne
      | cons x q => injection h94 with e; exact ⟨q, by rw [e]⟩
    have hoq : Octs q := fun u hu => ho u (List.mem_cons_of_mem _ hu)
    have hlq : q.length ≤ 1100000 := by simp at hl; omega
    refine (parse_neg q hoq hlq w hT hM).mono ?_
    rintro e w' ⟨rfl, k⟩
    have hrd : readL (94 :: q) = if sideL q = true then some ⟨q, [], false, true⟩ else none := by
      unfold readL
      rw [if_pos (by simp)]
      rfl
    refine ⟨⟨q, [], false, true⟩, ?_, ?_, k⟩
    · rw [hrd]
      cases sideL q <;> rfl
    · intro r hr
      rw [hrd] at hr
      split at hr
      · injection hr
      · cases hr
  · by_cases h43 : p.head? = some 43
    · obtain ⟨q, rfl⟩ : ∃ q, p = 43 :: q := by
        cases p with
        | nil => exact absurd rfl hne
        | cons x q => injection h43 with e; exact ⟨q, by rw [e]⟩
      have hoq : Octs q := fun u hu => ho u (List.mem_cons_of_mem _ hu)
      have hlq : q.length ≤ 1100000 := by simp at hl; omega
      refine (parse_plus q hoq hlq w hT hM).mono ?_
      rintro e w' ⟨rfl, k⟩
      have hrd : readL (43 :: q) = if pairL (srcL q) (dstL q) = true then some ⟨srcL q, dstL q, true, false⟩ else none := by
        unfold readL
        rw [if_neg (by simp), if_pos (by simp)]
        rfl
      refine ⟨⟨srcL q, dstL q, true, false⟩, ?_, ?_, k⟩
      · rw [hrd]
        cases pairL (srcL q) (dstL q) <;> rfl
      · intro r hr
        rw [hrd] at hr
        split at hr
        · injection hr
        · cases hr
    · refine (parse_word p h94 h43 ho hl w hT hM).mono ?_
      rintro e w' ⟨rfl, k⟩
      have hrd : readL p = if pairL (srcL p) (dstL p) = true then some ⟨srcL p, dstL p, false, false⟩ else none := by
        unfold readL
        rw [if_neg h94, if_neg h43]
      refine ⟨⟨srcL p, dstL p, false, false⟩, ?_, ?_, k⟩
      · rw [hrd]
        cases pairL (srcL p) (dstL p) <;> rfl
      · intro r hr
        rw [hrd] at hr
        split at hr
        · injection hr
        · cases hr
end Go.Proofs.YtbdkalicgpdbkaaDoor
