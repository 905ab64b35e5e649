/-
  PLAIN: sorted lists of texts: equal neighbours, each once; two unlike things that become the same.
-/
import Derived.Lib.SlicesCompact
namespace Go.Proofs.YtmjbaficdoehfaaDoor
open Go

theorem leU_antisymm {a b : List UInt8} (h : a ≤ b) (k : b ≤ a) : a = b := List.le_antisymm h k
theorem leU_trans {a b c : List UInt8} (h : a ≤ b) (k : b ≤ c) : a ≤ c := List.le_trans h k
theorem merge_sorted (S : List (List UInt8)) : (S.mergeSort fun x y => decide (x ≤ y)).Pairwise (fun a b => a ≤ b) := by
  have h := List.pairwise_mergeSort (le := fun x y : List UInt8 => decide (x ≤ y)) (fun a b c h1 h2 => decide_eq_true (leU_trans (of_decide_eq_true h1) (of_decide_eq_true h2))) (fun a b => by
    rcases List.le_total a b with h | h
    · simp [h]
    · simp [h]) S
  exact h.imp fun h => of_decide_eq_true h
theorem two_of_count {S : List (List UInt8)} {t : List UInt8} (h : 2 ≤ S.count t) : ∃ p q : Nat, p < q ∧ S[p]? = some t ∧ S[q]? = some t := by
  induction S with
  | nil => simp at h
  | cons a S ih =>
    rw [List.count_cons] at h
    by_cases ha : a = t
    · have h1 : 1 ≤ S.count t := by
        split at h <;> omega
      have hm : t ∈ S := List.count_pos_iff.1 h1
      obtain ⟨q, hq, e⟩ := List.getElem_of_mem hm
      exact ⟨0, q + 1, by omega, by simp [ha], by simp [List.getElem?_eq_getElem hq, e]⟩
    · rw [if_neg (by simpa using ha)] at h
      obtain ⟨p, q, h1, h2, h3⟩ := ih h
      exact ⟨p + 1, q + 1, by omega, by simpa using h2, by simpa using h3⟩
theorem count_of_two {S : List (List UInt8)} {t : List UInt8} {p q : Nat} (hpq : p < q) (hp : S[p]? = some t) (hq : S[q]? = some t) : 2 ≤ S.count t := by
  induction S generalizing p q with
  | nil => simp at hp
  | cons a S ih =>
    rw [List.count_cons]
    cases q with
    | zero => omega
    | succ q =>
      rw [List.getElem?_cons_succ] at hq
      cases p with
      | zero =>
        simp only [List.getElem?_cons_zero, Option.some.injEq] at hp
        have : 0 < S.count t := List.count_pos_iff.2 (List.mem_of_getElem? hq)
        rw [if_pos (by simpa using hp)]
        omega
      | succ p =>
        rw [List.getElem?_cons_succ] at hp
        have := ih (by omega) hp hq
        omega
theorem adj_of_two {S : List (List UInt8)} (hs : S.Pairwise (fun a b => a ≤ b)) {t : List UInt8} (h : 2 ≤ S.count t) : ∃ p : Nat, S[p]? = some t ∧ S[p + 1]? = some t := by
  obtain ⟨p, q, hpq, hp, hq⟩ := two_of_count h
  refine ⟨p, hp, ?_⟩
  obtain ⟨hql, eq1⟩ := List.getElem?_eq_some_iff.1 hq
  obtain ⟨hpl, ep⟩ := List.getElem?_eq_some_iff.1 hp
  have h1 : p + 1 < S.length := by omega
  rw [List.getElem?_eq_getElem h1]
  by_cases hc : p + 1 = q
  · subst hc; rw [eq1]
  · have a1 := List.pairwise_iff_getElem.1 hs p (p + 1) hpl h1 (by omega)
    have a2 := List.pairwise_iff_getElem.1 hs (p + 1) q h1 hql (by omega)
    rw [ep] at a1
    rw [eq1] at a2
    rw [leU_antisymm a2 a1]
/-- The first of equal neighbours is the least that stands there twice. -/
theorem dup_first {S : List (List UInt8)} (hs : S.Pairwise (fun a b => a ≤ b)) {i : Nat} {t : List UInt8} (h0 : S[i]? = some t) (h1 : S[i + 1]? = some t) (hn : ∀ j, j < i → S[j]? ≠ S[j + 1]?) : 2 ≤ S.count t ∧ ∀ u, 2 ≤ S.count u → t ≤ u := by
  refine ⟨count_of_two (Nat.lt_succ_self i) h0 h1, fun u hu => ?_⟩
  obtain ⟨p, hp, hp1⟩ := adj_of_two hs hu
  have hip : i ≤ p := by
    rcases Nat.lt_or_ge p i with h | h
    · exact absurd (hp.trans hp1.symm) (hn p h)
    · exact h
  obtain ⟨hil, ei⟩ := List.getElem?_eq_some_iff.1 h0
  obtain ⟨hpl, ep⟩ := List.getElem?_eq_some_iff.1 hp
  rcases Nat.lt_or_ge i p with h | h
  · have a1 := List.pairwise_iff_getElem.1 hs i p hil hpl h
    rwa [ei, ep] at a1
  · obtain rfl : i = p := by omega
    rw [h0] at hp
    injection hp with hp
    rw [hp]
    exact List.le_refl _
theorem dup_none {S : List (List UInt8)} (hs : S.Pairwise (fun a b => a ≤ b)) (hn : ∀ j, j + 1 < S.length → S[j]? ≠ S[j + 1]?) (u : List UInt8) : ¬ 2 ≤ S.count u := fun hu => by
  obtain ⟨p, hp, hp1⟩ := adj_of_two hs hu
  exact hn p (List.getElem?_eq_some_iff.1 hp1).1 (hp.trans hp1.symm)
/-- Two unlike things that become the same. -/
theorem two_images {f : List UInt8 → Option (List UInt8)} {t : List UInt8} : ∀ {D : List (List UInt8)}, D.Nodup → (2 ≤ (D.filterMap f).count t ↔ ∃ a b, a ∈ D ∧ b ∈ D ∧ a ≠ b ∧ f a = some t ∧ f b = some t)
  | [], _ => by simp
  | x :: D, hn => by
    have hn2 := List.nodup_cons.1 hn
    have ih := two_images (f := f) (t := t) hn2.2
    have hone : 0 < (D.filterMap f).count t ↔ ∃ b, b ∈ D ∧ f b = some t := by
      rw [List.count_pos_iff, List.mem_filterMap]
    rw [List.filterMap_cons]
    cases hx : f x with
    | none =>
      simp only
      rw [ih]
      constructor
      · rintro ⟨a, b, h1, h2, h3⟩
        exact ⟨a, b, List.mem_cons_of_mem _ h1, List.mem_cons_of_mem _ h2, h3⟩
      · rintro ⟨a, b, h1, h2, h3, h4, h5⟩
        refine ⟨a, b, ?_, ?_, h3, h4, h5⟩
        · rcases List.mem_cons.1 h1 with rfl | h
          · rw [hx] at h4; cases h4
          · exact h
        · rcases List.mem_cons.1 h2 with rfl | h
          · rw [hx] at h5; cases h5
          · exact h
    | some u =>
      simp only
      rw [List.count_cons]
      by_cases hu : u = t
      · rw [if_pos (by simpa using hu)]
        constructor
        · intro h
          obtain ⟨b, hb, hfb⟩ := hone.1 (by omega)
          exact ⟨x, b, List.mem_cons_self, List.mem_cons_of_mem _ hb, fun e => hn2.1 (e ▸ hb), by rw [hx, hu], hfb⟩
        · rintro ⟨a, b, h1, h2, h3, h4, h5⟩
          have : 0 < (D.filterMap f).count t := by
            rcases List.mem_cons.1 h1 with rfl | h
            · rcases List.mem_cons.1 h2 with rfl | h'
              · exact absurd rfl h3
              · exact hone.2 ⟨b, h', h5⟩
            · exact hone.2 ⟨a, h, h4⟩
          omega
      · rw [if_neg (by simpa using hu), Nat.add_zero, ih]
        constructor
        · rintro ⟨a, b, h1, h2, h3⟩
          exact ⟨a, b, List.mem_cons_of_mem _ h1, List.mem_cons_of_mem _ h2, h3⟩
        · rintro ⟨a, b, h1, h2, h3, h4, h5⟩
          refine ⟨a, b, ?_, ?_, h3, h4, h5⟩
          · rcases List.mem_cons.1 h1 with rfl | h
            · rw [hx] at h4; injection h4 with h4; exact absurd h4 hu
            · exact h
          · rcases List.mem_cons.1 h2 with rfl | h
            · rw [hx] at h5; injection h5 with h5; exact absurd h5 hu
            · exact h
/-- Of a sorted list each once. -/
theorem compact_sorted {S : List (List UInt8)} (hs : S.Pairwise (fun a b => a ≤ b)) : (Lib.compact S).Nodup ∧ ∀ u, u ∈ Lib.compact S ↔ u ∈ S := by
  have hget : ∀ (j : Nat) (h : j < S.length), S.toArray[j]! = S[j] := fun j h => by simp [h]
  have key : ∀ m, m ≤ S.length → (Lib.compactUpTo S.toArray m).Nodup ∧ ∀ u, u ∈ Lib.compactUpTo S.toArray m ↔ ∃ j : Nat, j < m ∧ S[j]? = some u := fun m => by
    induction m with
    | zero => exact fun _ => ⟨by simp [Lib.compactUpTo], fun u => ⟨fun h => by simp [Lib.compactUpTo] at h, fun ⟨j, h, _⟩ => by omega⟩⟩
    | succ m ih =>
      intro hm
      obtain ⟨i1, i2⟩ := ih (by omega)
      rw [Lib.compactUpTo_succ]
      have hml : m < S.length := by omega
      by_cases hk : Lib.keeps S.toArray m = true
      · rw [if_pos hk]
        have hk' := of_decide_eq_true hk
        refine ⟨List.nodup_append.2 ⟨i1, by simp, fun a ha b hb e => ?_⟩, fun u => ?_⟩
        · rw [List.mem_singleton] at hb
          subst e
          obtain ⟨j, hj, hu⟩ := (i2 a).1 ha
          rw [hget m hml] at hb
          obtain ⟨hjl, ej⟩ := List.getElem?_eq_some_iff.1 hu
          rcases hk' with h0 | h0
          · omega
          · rw [hget m hml, hget (m - 1) (by omega)] at h0
            refine h0 ?_
            have a2 := List.pairwise_iff_getElem.1 hs (m - 1) m (by omega) hml (by omega)
            rcases Nat.lt_or_ge j (m - 1) with h | h
            · have a1 := List.pairwise_iff_getElem.1 hs j (m - 1) hjl (by omega) h
              rw [ej, hb] at a1
              exact leU_antisymm a1 a2
            · have : j = m - 1 := by omega
              subst this
              rw [ej, hb]
        · rw [List.mem_append, i2 u, List.mem_singleton, hget m hml]
          constructor
          · rintro (⟨j, h1, h2⟩ | rfl)
            · exact ⟨j, by omega, h2⟩
            · exact ⟨m, by omega, List.getElem?_eq_getElem hml⟩
          · rintro ⟨j, h1, h2⟩
            by_cases h : j = m
            · right
              rw [h, List.getElem?_eq_getElem hml] at h2
              injection h2 with h2
              exact h2.symm
            · exact Or.inl ⟨j, by omega, h2⟩
      · rw [if_neg hk, List.append_nil]
        have hk' := fun h => hk (decide_eq_true h)
        refine ⟨i1, fun u => ?_⟩
        rw [i2 u]
        constructor
        · rintro ⟨j, h1, h2⟩
          exact ⟨j, by omega, h2⟩
        · rintro ⟨j, h1, h2⟩
          by_cases h : j = m
          · have h3 : m ≠ 0 ∧ S.toArray[m]! = S.toArray[m - 1]! := ⟨fun e => hk' (Or.inl e), Decidable.byContradiction fun e => hk' (Or.inr e)⟩
            rw [hget m hml, hget (m - 1) (by omega)] at h3
            refine ⟨m - 1, by omega, ?_⟩
            rw [h, List.getElem?_eq_getElem hml, h3.2] at h2
            rw [List.getElem?_eq_getElem (by omega), h2]
          · exact ⟨j, by omega, h2⟩
  obtain ⟨h1, h2⟩ := key S.length (Nat.le_refl _)
  refine ⟨h1, fun u => (h2 u).trans ⟨fun ⟨j, _, h⟩ => List.mem_of_getElem? h, fun h => ?_⟩⟩
  obtain ⟨j, hj, e⟩ := List.getElem_of_mem h
  exact ⟨j, hj, by rw [List.getElem?_eq_getElem hj, e]⟩
end Go.Proofs.YtmjbaficdoehfaaDoor
