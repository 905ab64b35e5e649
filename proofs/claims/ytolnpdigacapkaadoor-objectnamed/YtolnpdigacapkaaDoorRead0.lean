/-
  What is read is good; object.read's plain part.
-/
import Derived.Test.YtolnpdigacapkaaDoorObj3
namespace Go.Proofs.YtolnpdigacapkaaDoor
open Go.RowKit

theorem take_octs (xs : List Int) (ho : Octs xs) (pl f : Nat) (kind size most : Int) : Octs (takeL xs pl f kind size most).text := by
  unfold takeL
  split
  · intro u hu; simp at hu
  · split
    · intro u hu; simp at hu
    · intro u hu
      exact ho u (List.mem_of_mem_drop (List.mem_of_mem_take (List.mem_of_mem_drop hu)))
theorem idOf_good {t : List Int} (ho : Octs t) (hl : t.length ≤ 32) : GoodID (idOf t) := ⟨idOf_len hl, fun u hu => by
  unfold idOf at hu
  rcases List.mem_append.1 hu with h | h
  · exact ho u h
  · have := List.mem_of_mem_drop h
    unfold zero32 at this
    rw [(List.mem_replicate.1 this).2]
    exact ⟨by decide, by decide⟩⟩
theorem take_text_good (xs : List Int) (ho : Octs xs) (hs : xs.length ≤ 65536) (pl f : Nat) (kind size most : Int) : GoodText (takeL xs pl f kind size most).text := ⟨take_octs xs ho pl f kind size most, Nat.le_trans (take_len xs pl f kind size most) (by omega)⟩
theorem rdEs_good (xs : List Int) (ho : Octs xs) (hs : xs.length ≤ 65536) (pl f : Nat) : ∀ k e, e ∈ (rdEs xs pl f k).1 → e.Good
  | 0, e, h => by simp [rdEs] at h
  | k + 1, e, h => by
    unfold rdEs at h
    rcases List.mem_append.1 h with h | h
    · exact rdEs_good xs ho hs pl f k e h
    · rw [List.mem_singleton.1 h]
      have hb := take_lt xs ho (rdEs xs pl f k).2.1 (rdEs xs pl f k).2.2 1
      have hb1 : (takeL xs (rdEs xs pl f k).2.1 (rdEs xs pl f k).2.2 0 ((1 : Nat) : Int) 0).n < 256 := hb.2
      have hb0 := hb.1
      exact ⟨by show -9223372036854775808 ≤ (takeL xs (rdEs xs pl f k).2.1 (rdEs xs pl f k).2.2 0 ((1 : Nat) : Int) 0).n; omega, by show (takeL xs (rdEs xs pl f k).2.1 (rdEs xs pl f k).2.2 0 ((1 : Nat) : Int) 0).n ≤ 9223372036854775807; omega, take_text_good xs ho hs _ _ _ _ _, idOf_good (take_octs xs ho _ _ _ _ _) (raw32_len _ _ _)⟩
theorem EntsAt.of_rows {w : World} {b : Nat} {es : List EntL} (h : RowsIn w b 41 (es.map EntL.row)) (hg : ∀ e, e ∈ es → e.Good) (hl : es.length ≤ 1024) : EntsAt w (.slice (some ⟨b, 0, none⟩) es.length es.length) es := by
  refine ⟨_, es.length, by rw [List.length_map], by rw [List.length_map]; exact Nat.le_refl _, fun e => (by cases e), by rw [List.length_map]; omega, fun _ => ⟨b, 0, rfl, fun i cs hi => ?_⟩⟩
  rw [Nat.zero_add]
  exact h.range 34 (by decide) (fun r hr => by
    obtain ⟨e, he, rfl⟩ := List.mem_map.1 hr
    exact EntL.row_len (hg e he).id) i cs hi
theorem take_f (xs : List Int) (ho : Octs xs) (pl f : Nat) (hf : f ≤ 4) (kind size most : Int) (hs : kind = 0 → size ≤ 8) (hm : most ≤ 18446744073709551615) : (takeL xs pl f kind size most).f ≤ 4 := by
  unfold takeL
  split
  · exact hf
  · split
    · exact (lookL_fits (xs.drop pl) kind size most (octs_drop ho pl) hs hm).f
    · exact Nat.zero_le _
theorem rdIs_good (xs : List Int) (ho : Octs xs) (pl f : Nat) : ∀ k e, e ∈ (rdIs xs pl f k).1 → GoodID e
  | 0, e, h => by simp [rdIs] at h
  | k + 1, e, h => by
    unfold rdIs at h
    rcases List.mem_append.1 h with h | h
    · exact rdIs_good xs ho pl f k e h
    · rw [List.mem_singleton.1 h]
      exact idOf_good (take_octs xs ho _ _ _ _ _) (raw32_len _ _ _)
theorem IdsAt.of_rows {w : World} {b : Nat} {ids : List (List Int)} (h : RowsIn w b 25 (ids.map idRow)) (hg : ∀ e, e ∈ ids → GoodID e) (hl : ids.length ≤ 1024) : IdsAt w (.slice (some ⟨b, 0, none⟩) ids.length ids.length) ids := by
  refine ⟨_, ids.length, rfl, Nat.le_refl _, fun e => (by cases e), by omega, fun _ => ⟨b, 0, rfl, fun i xs hi => ?_⟩⟩
  rw [Nat.zero_add]
  exact h.range 32 (by decide) (fun r hr => by
    obtain ⟨e, he, rfl⟩ := List.mem_map.1 hr
    unfold idRow
    rw [List.length_map, (hg e he).1]) i _ (by rw [List.getElem?_map, hi]; rfl)
theorem errL_ne : ∀ f : Nat, f ≠ 0 → f ≤ 4 → errL f ≠ 0
  | 0, h, _ => absurd rfl h
  | 1, _, _ => by decide
  | 2, _, _ => by decide
  | 3, _, _ => by decide
  | 4, _, _ => by decide
  | _ + 5, _, h => by omega
end Go.Proofs.YtolnpdigacapkaaDoor
