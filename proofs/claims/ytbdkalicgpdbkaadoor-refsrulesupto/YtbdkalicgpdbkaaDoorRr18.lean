/-
  PLAIN: rules that were read, written as a text; what the two readers answer in one form.
-/
import Derived.Test.YtbdkalicgpdbkaaDoorRr17
import Derived.Test.YtbdkalicgpdbkaaDoorRm16
namespace Go.Proofs.YtbdkalicgpdbkaaDoor
open Go.RowKit

/-- The rules' words, a row each. -/
def linesL (R : List RuleL) : List Int := (R.map spellL).flatMap fun p => p ++ [10]
theorem lines_snoc (R : List RuleL) (r : RuleL) : linesL (R ++ [r]) = linesL R ++ (spellL r ++ [10]) := by
  unfold linesL
  rw [List.map_append, List.flatMap_append]
  simp
/-- What a rule that was read is like. -/
structure RuleL.Read (r : RuleL) : Prop where
  s : Octs r.src
  d : Octs r.dst
  sl : r.src.length ≤ 255
  dl : r.dst.length ≤ 255
  ne : spellL r ≠ []
  word : ∀ b, b ∈ spellL r → b ≠ 32 ∧ b ≠ 10
  back : readL (spellL r) = some r
theorem read_is {p : List Int} (ho : Octs p) {r : RuleL} (h : readL p = some r) : r.Read := by
  have hw1 := spell_word h
  have hw2 := read_spell h
  have key : Octs r.src ∧ Octs r.dst ∧ r.src.length ≤ 255 ∧ r.dst.length ≤ 255 := by
    have ht : Octs p.tail := fun u hu => ho u (List.mem_of_mem_tail hu)
    unfold readL at h
    by_cases h1 : p.head? = some 94
    · rw [if_pos h1] at h
      by_cases h2 : sideL p.tail = true
      · rw [if_pos h2] at h
        obtain rfl := Option.some.inj h
        exact ⟨ht, (fun u hu => by cases hu), side_len h2, Nat.zero_le _⟩
      · rw [if_neg h2] at h; cases h
    · rw [if_neg h1] at h
      by_cases h3 : p.head? = some 43
      · rw [if_pos h3] at h
        by_cases h2 : pairL (srcL p.tail) (dstL p.tail) = true
        · rw [if_pos h2] at h
          obtain rfl := Option.some.inj h
          exact ⟨octs_src ht, octs_dst ht, side_len (pair_sides h2).1, side_len (pair_sides h2).2⟩
        · rw [if_neg h2] at h; cases h
      · rw [if_neg h3] at h
        by_cases h2 : pairL (srcL p) (dstL p) = true
        · rw [if_pos h2] at h
          obtain rfl := Option.some.inj h
          exact ⟨octs_src ho, octs_dst ho, side_len (pair_sides h2).1, side_len (pair_sides h2).2⟩
        · rw [if_neg h2] at h; cases h
  exact ⟨key.1, key.2.1, key.2.2.1, key.2.2.2, hw1.1, hw1.2, hw2⟩
theorem mapM_mem : ∀ {L : List (List Int)} {R : List RuleL}, L.mapM readL = some R → ∀ r, r ∈ R → ∃ p, p ∈ L ∧ readL p = some r
  | [], R, h, r, hr => by
    injection h with h
    subst h
    cases hr
  | q :: L, R, h, r, hr => by
    rw [List.mapM_cons] at h
    cases hq : readL q with
    | none => rw [hq] at h; cases h
    | some r' =>
      rw [hq] at h
      cases hL : L.mapM readL with
      | none => rw [hL] at h; cases h
      | some T =>
        rw [hL] at h
        injection h with h
        subst h
        rcases List.mem_cons.1 hr with rfl | hr
        · exact ⟨q, by simp, hq⟩
        · obtain ⟨p, hp, hpr⟩ := mapM_mem hL r hr
          exact ⟨p, by simp [hp], hpr⟩
/-- What was read; its number. -/
def gotL (xs : List Int) : List RuleL := (parseL xs).getD []
def errN (xs : List Int) : Int := if (parseL xs).isSome then 0 else 141
theorem got_few (xs : List Int) : (gotL xs).length ≤ 64 := by
  unfold gotL parseL
  cases (wordsL [] xs).mapM readL with
  | none => exact Nat.zero_le _
  | some R =>
    show ((if R.length ≤ 64 then some R else none).getD []).length ≤ 64
    by_cases h : R.length ≤ 64
    · rw [if_pos h]
      exact h
    · rw [if_neg h]
      exact Nat.zero_le _
theorem got_read {xs : List Int} (ho : Octs xs) : ∀ r, r ∈ gotL xs → r.Read := fun r hr => by
  unfold gotL parseL at hr
  cases hm : (wordsL [] xs).mapM readL with
  | none => rw [hm] at hr; cases hr
  | some R =>
    rw [hm] at hr
    have hr2 : r ∈ (if R.length ≤ 64 then some R else none).getD [] := hr
    by_cases h : R.length ≤ 64
    · rw [if_pos h] at hr2
      obtain ⟨p, hp, hpr⟩ := mapM_mem hm r hr2
      exact read_is (fun u hu => ((words_mem xs [] p hp).2.1 u hu).elim (fun x => by cases x) (ho u)) hpr
    · rw [if_neg h] at hr2
      cases hr2
/-- They are read out of what they are written as. -/
theorem got_again {R : List RuleL} (h : ∀ r, r ∈ R → r.Read) (hn : R.length ≤ 64) : parseL (32 :: linesL R) = some R := by
  have hw : wordsL [] (32 :: linesL R) = R.map spellL := by
    rw [wordsL, if_pos (.inl rfl), if_pos rfl]
    unfold linesL
    exact words_lines _ fun p hp => by
      obtain ⟨r, hr, rfl⟩ := List.mem_map.1 hp
      exact ⟨(h r hr).ne, (h r hr).word⟩
  have hm : ∀ R : List RuleL, (∀ r, r ∈ R → r.Read) → (R.map spellL).mapM readL = some R := by
    intro R h
    induction R with
    | nil => rfl
    | cons r R ih =>
      rw [List.map_cons, List.mapM_cons, (h r (by simp)).back, ih fun q hq => h q (by simp [hq])]
      rfl
  exact parse_all (by rw [hw]; exact hm R h) hn
theorem spell_len {r : RuleL} (h : r.Read) : (spellL r).length ≤ 512 := by
  have h1 := h.sl
  have h2 := h.dl
  unfold spellL
  split
  · simp; omega
  · split <;> (simp; omega)
theorem spell_octs {r : RuleL} (h : r.Read) : Octs (spellL r) := by
  have h1 := h.s
  have h2 := h.d
  intro u hu
  unfold spellL at hu
  split at hu
  · rcases List.mem_cons.1 hu with rfl | hu
    · omega
    · exact h1 u hu
  · split at hu
    · rcases List.mem_cons.1 hu with rfl | hu
      · omega
      · rcases List.mem_append.1 hu with hu | hu
        · exact h1 u hu
        · rcases List.mem_cons.1 hu with rfl | hu
          · omega
          · exact h2 u hu
    · rcases List.mem_append.1 hu with hu | hu
      · exact h1 u hu
      · rcases List.mem_cons.1 hu with rfl | hu
        · omega
        · exact h2 u hu
theorem lines_ok : ∀ {R : List RuleL}, (∀ r, r ∈ R → r.Read) → Octs (linesL R) ∧ (linesL R).length ≤ 513 * R.length
  | [], _ => ⟨(fun u hu => by cases hu), Nat.le_refl _⟩
  | r :: R, h => by
    obtain ⟨h1, h2⟩ := lines_ok (R := R) fun q hq => h q (by simp [hq])
    have e : linesL (r :: R) = (spellL r ++ [10]) ++ linesL R := by
      unfold linesL
      rw [List.map_cons, List.flatMap_cons]
    rw [e]
    have h3 := spell_len (h r (by simp))
    refine ⟨fun u hu => ?_, by simp only [List.length_append, List.length_cons, List.length_nil]; omega⟩
    rcases List.mem_append.1 hu with hu | hu
    · rcases List.mem_append.1 hu with hu | hu
      · exact spell_octs (h r (by simp)) u hu
      · rw [List.mem_singleton.1 hu]
        omega
    · exact h1 u hu
/-- The answer in one form. -/
theorem RulesOut.form {xs : List Int} {B : Nat} {e : Ending} {w : World} (h : RulesOut (parseL xs) B e w) : ∃ v, e = .returned (.tuple #[v, .int .i64 (errN xs)]) ∧ RulesAt w v (gotL xs) := by
  have hf := got_few xs
  unfold gotL errN at *
  cases hp : parseL xs with
  | none =>
    rw [hp] at h
    exact ⟨_, h, none, 0, rfl, Nat.le_refl _, fun _ => rfl, by simp, fun e => absurd rfl e⟩
  | some R =>
    rw [hp] at h hf
    obtain ⟨v, h1, h2⟩ := h
    refine ⟨v, h1, ownsK_rows (e := 37) (B := B) (by decide) (rows_len R) ?_ (by rw [List.length_map]; exact Nat.le_trans hf (by decide))⟩
    rw [List.length_map]
    exact h2
theorem ParseR_any (xs : List Int) (ho : Octs xs) (hl : xs.length ≤ 1100000) (w : World) (hT : Tabs w) (hM : MaxW w) :
    Calls Tryd.prog 14 #[.string (strOfNums xs)] w fun e w' => ∃ v, e = .returned (.tuple #[v, .int .i64 (errN xs)]) ∧ RulesAt w' v (gotL xs) ∧ Kept [] w w' :=
  (ParseRules_any xs ho hl w hT hM).mono fun e w' h => by
    obtain ⟨v, h1, h2⟩ := h.1.form
    exact ⟨v, h1, h2, h.2⟩
theorem ParseD_any (xs : List Int) (ho : Octs xs) (hl : xs.length ≤ 1100000) (w : World) :
    Calls Tryd.prog 15 #[.string (strOfNums xs)] w fun e w' => ∃ v, e = .returned (.tuple #[v, .int .i64 (errN xs)]) ∧ RulesAt w' v (gotL xs) ∧ Kept [] w w' :=
  (RParseRules_any xs ho hl w).mono fun e w' h => by
    obtain ⟨v, h1, h2⟩ := h.1.form
    exact ⟨v, h1, h2, h.2⟩
theorem bad_abc : parseL [97, 58, 98, 58, 99] = none := by kernel_rfl
theorem num14R_any (n : Int) (w : World) : Calls Tryd.prog 10 #[.int .i64 n] w fun e w' => e = .returned (.int .i64 n) ∧ w' = w := by
  go_enter Tryd.func10, Tryd.ntmps10
  go_wp2
  go_ret
  exact ⟨rfl, rfl⟩
end Go.Proofs.YtbdkalicgpdbkaaDoor
