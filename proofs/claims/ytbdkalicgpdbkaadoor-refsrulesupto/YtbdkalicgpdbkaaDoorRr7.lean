/-
  satchelref14.rule: any word that is not empty.
  PLAIN: how many words a text has, and what they are; a list read element by element.
-/
import Derived.Test.YtbdkalicgpdbkaaDoorRr5
import Derived.Test.YtbdkalicgpdbkaaDoorRr0
namespace Go.Proofs.YtbdkalicgpdbkaaDoor
open Go.RowKit

theorem rule14_any (p : List Int) (hne : p ≠ []) (ho : Octs p) (hl : p.length ≤ 1100000) (w : World) :
    Calls Tryd.prog 34 #[.string (strOfNums p)] w fun e w' => ∃ r : RuleL, e = .returned (.tuple #[.agg r.row.toArray, .bool (readL p).isSome]) ∧ (∀ q, readL p = some q → r = q) ∧ Kept [] w w' := by
  by_cases h94 : p.head? = some 94
  · obtain ⟨q, rfl⟩ : ∃ q, p = 94 :: q := by
      cases p with
      | nil => exact absurd rfl hne
      | cons x q => injection h94 with e; exact ⟨q, by rw [e]⟩
    have hoq : Octs q := fun u hu => ho u (List.mem_cons_of_mem _ hu)
    have hlq : q.length ≤ 1100000 := by simp at hl; omega
    refine (rule14_neg q hoq hlq w).mono ?_
    rintro e w' ⟨rfl, k⟩
    have hrd : readL (94 :: q) = if sideL q = true then some ⟨q, [], false, true⟩ else none := by
      unfold readL
      rw [if_pos (by simp)]
      rfl
    refine ⟨⟨q, [], false, true⟩, ?_, ?_, k⟩
    · rw [hrd]
      cases sideL q <;> rfl
    · intro r hr
      rw [hrd] at hr
      split at hr
      · injection hr
      · cases hr
  · by_cases h43 : p.head? = some 43
    · obtain ⟨q, rfl⟩ : ∃ q, p = 43 :: q := by
        cases p with
        | nil => exact absurd rfl hne
        | cons x q => injection h43 with e; exact ⟨q, by rw [e]⟩
      have hoq : Octs q := fun u hu => ho u (List.mem_cons_of_mem _ hu)
      have hlq : q.length ≤ 1100000 := by simp at hl; omega
      exact rule14_plus q hoq hlq w
    · exact rule14_word p hne h94 h43 ho hl w
end Go.Proofs.YtbdkalicgpdbkaaDoor

namespace Go.Proofs.YtbdkalicgpdbkaaDoor
open Go.RowKit

theorem words_half : ∀ (t acc : List Int), 2 * (wordsL acc t).length ≤ t.length + (if acc = [] then 1 else 2)
  | [], acc => by
    unfold wordsL
    split
    · simp
    · simp
  | b :: t, acc => by
    rw [wordsL]
    by_cases hb : b = 32 ∨ b = 10
    · rw [if_pos hb]
      have h := words_half t []
      rw [if_pos rfl] at h
      by_cases ha : acc = []
      · rw [if_pos ha, if_pos ha]
        simp only [List.length_cons]
        omega
      · rw [if_neg ha, if_neg ha]
        simp only [List.length_cons]
        omega
    · rw [if_neg hb]
      have h := words_half t (acc ++ [b])
      rw [if_neg (by simp)] at h
      simp only [List.length_cons]
      split <;> omega
theorem words_mem : ∀ (t acc p : List Int), p ∈ wordsL acc t → p ≠ [] ∧ (∀ u, u ∈ p → u ∈ acc ∨ u ∈ t) ∧ p.length ≤ acc.length + t.length
  | [], acc, p, h => by
    unfold wordsL at h
    split at h
    · cases h
    · rename_i hne
      obtain rfl := List.mem_singleton.1 h
      exact ⟨hne, fun u hu => .inl hu, by simp⟩
  | b :: t, acc, p, h => by
    rw [wordsL] at h
    by_cases hb : b = 32 ∨ b = 10
    · rw [if_pos hb] at h
      have key : p ∈ wordsL [] t → p ≠ [] ∧ (∀ u, u ∈ p → u ∈ acc ∨ u ∈ b :: t) ∧ p.length ≤ acc.length + (b :: t).length := fun h => by
        obtain ⟨h1, h2, h3⟩ := words_mem t [] p h
        refine ⟨h1, fun u hu => (h2 u hu).elim (fun x => by cases x) (fun x => .inr (List.mem_cons_of_mem _ x)), ?_⟩
        simp at h3 ⊢
        omega
      by_cases ha : acc = []
      · rw [if_pos ha] at h
        exact key h
      · rw [if_neg ha] at h
        rcases List.mem_cons.1 h with rfl | h
        · exact ⟨ha, fun u hu => .inl hu, by simp⟩
        · exact key h
    · rw [if_neg hb] at h
      obtain ⟨h1, h2, h3⟩ := words_mem t (acc ++ [b]) p h
      refine ⟨h1, fun u hu => ?_, ?_⟩
      · rcases h2 u hu with x | x
        · rcases List.mem_append.1 x with y | y
          · exact .inl y
          · exact .inr (by rw [List.mem_singleton.1 y]; simp)
        · exact .inr (List.mem_cons_of_mem _ x)
      · simp at h3 ⊢
        omega
theorem mapM_snoc {α β : Type} (f : α → Option β) (l : List α) (x : α) : (l ++ [x]).mapM f = (match l.mapM f with | some r => (match f x with | some y => some (r ++ [y]) | none => none) | none => none) := by
  rw [List.mapM_append]
  cases l.mapM f with
  | none => rfl
  | some r =>
    simp only [List.mapM_cons, List.mapM_nil]
    cases f x with
    | none => rfl
    | some y => rfl
/-- What has been read of a list: so many of its beginning. -/
def ReadTo (L : List (List Int)) (k : Nat) (R : List RuleL) : Prop := R.length = k ∧ (L.take k).mapM readL = some R
theorem ReadTo.start (L : List (List Int)) : ReadTo L 0 [] := ⟨rfl, rfl⟩
theorem ReadTo.next {L : List (List Int)} {k : Nat} {R : List RuleL} (h : ReadTo L k R) {p : List Int} (hp : L[k]? = some p) {r : RuleL} (hr : readL p = some r) : ReadTo L (k + 1) (R ++ [r]) := by
  obtain ⟨h1, h2⟩ := h
  refine ⟨by simp [h1], ?_⟩
  rw [List.take_add_one, hp]
  show (L.take k ++ [p]).mapM readL = _
  rw [mapM_snoc, h2, hr]
theorem ReadTo.bad {L : List (List Int)} {k : Nat} {R : List RuleL} (_ : ReadTo L k R) {p : List Int} (hp : L[k]? = some p) (hr : readL p = none) : L.mapM readL = none := by
  obtain ⟨hk, hpe⟩ := List.getElem?_eq_some_iff.1 hp
  rw [show L = (L.take k ++ [p]) ++ L.drop (k + 1) by rw [List.append_assoc, ← hpe]; simp]
  rw [List.mapM_append, mapM_snoc, hr]
  cases (L.take k).mapM readL <;> rfl
theorem ReadTo.all {L : List (List Int)} {k : Nat} {R : List RuleL} (h : ReadTo L k R) (hk : L.length ≤ k) : L.mapM readL = some R := by
  have := h.2
  rwa [List.take_of_length_le hk] at this
end Go.Proofs.YtbdkalicgpdbkaaDoor
