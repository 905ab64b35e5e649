/-
  WALK: satchelref14.Clash.
-/
import Derived.Test.YtmjbaficdoehfaaDoorRm5
import Derived.Test.YtmjbaficdoehfaaDoorRm6
import Derived.Test.YtmjbaficdoehfaaDoorRm8
import Derived.Sort.Walk0
namespace Go.Proofs.YtmjbaficdoehfaaDoor
open Go.RowKit Go.Sort

/-- The least so far. -/
def BestTo (H : List UInt8 → Prop) (r : Option (List UInt8)) : Prop := (∀ t, r = some t → H t ∧ ∀ t', H t' → t ≤ t') ∧ (r = none → ∀ t, ¬ H t)
/-- Of the first i names two unlike ones become t; or one of the first k and name i. -/
def PairK (f : List UInt8 → Option (List UInt8)) (U : List (List UInt8)) (i k : Nat) (t : List UInt8) : Prop :=
  (∃ (a b : Nat) (x y : List UInt8), a < b ∧ b < i ∧ U[a]? = some x ∧ U[b]? = some y ∧ x ≠ y ∧ f x = some t ∧ f y = some t) ∨ (∃ (a : Nat) (x y : List UInt8), a < k ∧ U[a]? = some x ∧ U[i]? = some y ∧ x ≠ y ∧ f x = some t ∧ f y = some t)
theorem BestTo.iff {H H' : List UInt8 → Prop} {r : Option (List UInt8)} (h : BestTo H r) (e : ∀ t, H t ↔ H' t) : BestTo H' r :=
  ⟨fun t ht => ⟨(e t).1 (h.1 t ht).1, fun t' h' => (h.1 t ht).2 t' ((e t').2 h')⟩, fun hr t ht => h.2 hr t ((e t).2 ht)⟩
theorem pair_start (f : List UInt8 → Option (List UInt8)) (U : List (List UInt8)) (t : List UInt8) : ¬ PairK f U 0 0 t := by
  rintro (⟨a, b, x, y, h1, h2, _⟩ | ⟨a, x, y, h1, _⟩)
  · omega
  · omega
theorem pair_next {f : List UInt8 → Option (List UInt8)} {U : List (List UInt8)} {i : Nat} (t : List UInt8) : PairK f U i i t ↔ PairK f U (i + 1) 0 t := by
  constructor
  · rintro (⟨a, b, x, y, h1, h2, h3⟩ | ⟨a, x, y, h1, h3⟩)
    · exact Or.inl ⟨a, b, x, y, h1, by omega, h3⟩
    · exact Or.inl ⟨a, i, x, y, h1, by omega, h3⟩
  · rintro (⟨a, b, x, y, h1, h2, h3⟩ | ⟨a, x, y, h1, h3⟩)
    · by_cases e : b = i
      · subst e
        exact Or.inr ⟨a, x, y, h1, h3⟩
      · exact Or.inl ⟨a, b, x, y, h1, by omega, h3⟩
    · omega
theorem pair_idle {f : List UInt8 → Option (List UInt8)} {U : List (List UInt8)} {i : Nat} {n : List UInt8} (hn : U[i]? = some n) (hf : f n = none) (t : List UInt8) : PairK f U i 0 t ↔ PairK f U (i + 1) 0 t := by
  rw [← pair_next]
  constructor
  · rintro (h | ⟨a, x, y, h1, _⟩)
    · exact Or.inl h
    · omega
  · rintro (h | ⟨a, x, y, h1, h2, h3, h4, h5, h6⟩)
    · exact Or.inl h
    · rw [hn] at h3
      injection h3 with h3
      rw [← h3, hf] at h6
      cases h6
/-- A name that gives no clash more. -/
theorem pair_skip {f : List UInt8 → Option (List UInt8)} {U : List (List UInt8)} {i k : Nat} {x n t : List UInt8} (hx : U[k]? = some x) (hn : U[i]? = some n) (hf : f n = some t) (h : f x ≠ some t ∨ x = n) (u : List UInt8) : PairK f U i k u ↔ PairK f U i (k + 1) u := by
  constructor
  · rintro (h | ⟨a, p, q, h1, h2⟩)
    · exact Or.inl h
    · exact Or.inr ⟨a, p, q, by omega, h2⟩
  · rintro (h | ⟨a, p, q, h1, h2, h3, h4, h5, h6⟩)
    · exact Or.inl h
    · by_cases e : a = k
      · subst e
        rw [hx] at h2
        rw [hn] at h3
        injection h2 with h2
        injection h3 with h3
        subst h2 h3
        rw [hf] at h6
        injection h6 with h6
        subst h6
        rcases h with h | h
        · exact absurd h5 h
        · exact absurd h h4
      · exact Or.inr ⟨a, p, q, by omega, h2, h3, h4, h5, h6⟩
/-- A name that gives one. -/
theorem pair_more {f : List UInt8 → Option (List UInt8)} {U : List (List UInt8)} {i k : Nat} {x n t : List UInt8} (hx : U[k]? = some x) (hn : U[i]? = some n) (hf : f n = some t) (h1 : f x = some t) (h2 : x ≠ n) (u : List UInt8) : (PairK f U i k u ∨ u = t) ↔ PairK f U i (k + 1) u := by
  constructor
  · rintro ((h | ⟨a, p, q, g1, g2⟩) | rfl)
    · exact Or.inl h
    · exact Or.inr ⟨a, p, q, by omega, g2⟩
    · exact Or.inr ⟨k, x, n, by omega, hx, hn, h2, h1, hf⟩
  · rintro (h | ⟨a, p, q, g1, g2, g3, g4, g5, g6⟩)
    · exact Or.inl (Or.inl h)
    · rw [hn] at g3
      injection g3 with g3
      subst g3
      rw [hf] at g6
      injection g6 with g6
      exact Or.inr g6.symm
theorem best_first {H : List UInt8 → Prop} {t : List UInt8} (h : BestTo H none) : BestTo (fun u => H u ∨ u = t) (some t) :=
  ⟨fun t' e => by
    injection e with e
    subst e
    exact ⟨Or.inr rfl, fun u hu => hu.elim (fun h1 => absurd h1 (h.2 rfl u)) (fun e => by rw [e]; exact List.le_refl _)⟩, (fun e => by cases e)⟩
theorem best_less {H : List UInt8 → Prop} {t s : List UInt8} (h : BestTo H (some s)) (hl : t < s) : BestTo (fun u => H u ∨ u = t) (some t) :=
  ⟨fun t' e => by
    injection e with e
    subst e
    exact ⟨Or.inr rfl, fun u hu => hu.elim (fun h1 => leU_trans (List.le_of_lt hl) ((h.1 s rfl).2 u h1)) (fun e => by rw [e]; exact List.le_refl _)⟩, (fun e => by cases e)⟩
theorem best_not {H : List UInt8 → Prop} {t s : List UInt8} (h : BestTo H (some s)) (hl : ¬ t < s) : BestTo (fun u => H u ∨ u = t) (some s) :=
  ⟨fun t' e => by
    injection e with e
    subst e
    exact ⟨Or.inl (h.1 s rfl).1, fun u hu => hu.elim (fun h1 => (h.1 s rfl).2 u h1) (fun e => by rw [e]; exact List.not_lt.1 hl)⟩, (fun e => by cases e)⟩
theorem best_clash {f : List UInt8 → Option (List UInt8)} {U : List (List UInt8)} {r : Option (List UInt8)} {n : Nat} (h : BestTo (PairK f U n 0) r) (hn : U.length ≤ n) : ClashTo f U r := by
  have e : ∀ t, PairK f U n 0 t ↔ HitU f U t := fun t => by
    constructor
    · rintro (⟨a, b, x, y, _, _, h3, h4, h5, h6, h7⟩ | ⟨a, _, _, h1, _⟩)
      · exact ⟨x, y, List.mem_of_getElem? h3, List.mem_of_getElem? h4, h5, h6, h7⟩
      · omega
    · rintro ⟨x, y, hx, hy, hne, h6, h7⟩
      obtain ⟨a, ha, ea⟩ := List.getElem_of_mem hx
      obtain ⟨b, hb, eb⟩ := List.getElem_of_mem hy
      have ga : U[a]? = some x := by rw [List.getElem?_eq_getElem ha, ea]
      have gb : U[b]? = some y := by rw [List.getElem?_eq_getElem hb, eb]
      rcases Nat.lt_trichotomy a b with h | h | h
      · exact Or.inl ⟨a, b, x, y, h, by omega, ga, gb, hne, h6, h7⟩
      · subst h
        rw [ga] at gb
        injection gb with gb
        exact absurd gb hne
      · exact Or.inl ⟨b, a, y, x, h, by omega, gb, ga, fun e => hne e.symm, h7, h6⟩
  have h2 := h.iff e
  exact ⟨h2.1, h2.2⟩
end Go.Proofs.YtmjbaficdoehfaaDoor
