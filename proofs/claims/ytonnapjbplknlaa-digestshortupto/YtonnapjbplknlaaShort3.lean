/-
  How the digits that two ids have in common tell their beginnings; the length of an abbreviation. Pure.
-/
import Derived.Test.YtonnapjbplknlaaQuietId
import Derived.Test.YtonnapjbplknlaaShort2
import Derived.BigQuiet
import Derived.Deep.QuietTactic
namespace Go.Proofs.Ytonnapjbplknlaa
open Go.RowKit

theorem digit_inj (a b : Int) (ha : 0 ≤ a ∧ a < 16) (hb : 0 ≤ b ∧ b < 16) (h : digitL a = digitL b) : a = b := by
  unfold digitL at h
  split at h <;> split at h <;> omega
theorem take_hexL (bs : List Int) (n : Nat) (hn : n ≤ 64) : (hexL bs).take n = (List.range n).map fun k => digitL (halfL bs k) := by
  unfold hexL
  rw [← List.map_take, List.take_range, Nat.min_eq_left hn]
theorem take_com (a b : List Int) (ha : Octs a) (hb : Octs b) (n : Nat) (hn : n ≤ 64) : (hexL a).take n = (hexL b).take n ↔ n ≤ comL a b := by
  obtain ⟨h1, h2, h3⟩ := comL_spec a b
  rw [take_hexL a n hn, take_hexL b n hn]
  constructor
  · intro h
    rcases Nat.lt_or_ge (comL a b) n with hlt | hge
    · refine absurd ?_ (h3 (by omega))
      have e := congrArg (fun l => l[comL a b]?) h
      simp [hlt] at e
      exact digit_inj _ _ (halfL_fits a ha _) (halfL_fits b hb _) e
    · exact hge
  · intro h
    refine List.map_congr_left fun k hk => ?_
    rw [h2 k (by have := List.mem_range.1 hk; omega)]
theorem begB_com (a b : List Int) (ha : Octs a) (hb : Octs b) (n : Nat) (hn : n ≤ 64) : begB (hexL a) ((hexL b).take n) = decide (n ≤ comL a b) := by
  have hl : ((hexL b).take n).length = n := by rw [List.length_take, hexL_len]; omega
  unfold begB
  rw [hl, hexL_len, decide_eq_true hn, Bool.true_and]
  by_cases h : n ≤ comL a b
  · rw [decide_eq_true h, decide_eq_true ((take_com a b ha hb n hn).2 h)]
  · rw [decide_eq_false h, decide_eq_false fun e => h ((take_com a b ha hb n hn).1 e)]

def apartB (o id : List Int) (n : Nat) : Bool := decide (o = id) || !decide (n ≤ comL o id)
theorem all_take_succ (ids : List (List Int)) (p : List Int → Bool) (k : Nat) (o : List Int) (h : ids[k]? = some o) : (ids.take (k + 1)).all p = ((ids.take k).all p && p o) := by
  have hlt : k < ids.length := (List.getElem?_eq_some_iff.1 h).1
  have ho : ids[k] = o := (List.getElem?_eq_some_iff.1 h).2
  rw [List.take_succ_eq_append_getElem hlt, List.all_append, ho]
  simp
theorem sizeL_le (id : List Int) (ids : List (List Int)) (n : Nat) (h4 : 4 ≤ n) : sizeL ids id ≤ n ↔ ids.all (fun o => apartB o id n) = true := by
  have key : ∀ (ids : List (List Int)) (s : Nat), s ≤ n → (ids.foldl (fun s o => if o = id then s else max s (comL o id + 1)) s ≤ n ↔ ids.all (fun o => apartB o id n) = true) := by
    intro ids
    induction ids with
    | nil => intro s hs; simp [hs]
    | cons o r ih =>
      intro s hs
      rw [List.foldl_cons, List.all_cons]
      by_cases ho : o = id
      · rw [if_pos ho, ih s hs]
        simp [apartB, ho]
      · rw [if_neg ho]
        by_cases hc : comL o id + 1 ≤ n
        · rw [ih _ (by omega)]
          have : apartB o id n = true := by unfold apartB; rw [decide_eq_false ho, decide_eq_false (by omega : ¬ n ≤ comL o id)]; rfl
          rw [this, Bool.true_and]
        · have : apartB o id n = false := by unfold apartB; rw [decide_eq_false ho, decide_eq_true (by omega : n ≤ comL o id)]; rfl
          rw [this, Bool.false_and]
          have mono : ∀ (l : List (List Int)) (t : Nat), t ≤ l.foldl (fun s o => if o = id then s else max s (comL o id + 1)) t := by
            intro l
            induction l with
            | nil => intro t; exact Nat.le_refl _
            | cons x l ihl =>
              intro t
              rw [List.foldl_cons]
              refine Nat.le_trans ?_ (ihl _)
              split <;> omega
          have h1 := mono r (max s (comL o id + 1))
          constructor
          · intro h; omega
          · intro h; cases h
  exact key ids 4 h4
end Go.Proofs.Ytonnapjbplknlaa
