/-
  PLAIN: rules read out of a text: words, sides, rules; what is read may be written again.
-/
import Derived.Test.YtbdkalicgpdbkaaDoorRm5
import Derived.Test.YtbdkalicgpdbkaaDoorRn4
namespace Go.Proofs.YtbdkalicgpdbkaaDoor
open Go.RowKit

/-- A byte that a good name may hold. -/
def okNameB (b : Int) : Bool := alnumB b || decide (b = 46) || decide (b = 95) || decide (b = 45) || decide (b = 47) || decide (128 ≤ b)
theorem run_name : ∀ (xs : List Int) (l : Int), runB l xs = true → ∀ b, b ∈ xs → okNameB b = true
  | [], _, _, b, hb => by cases hb
  | a :: t, l, h, b, hb => by
    rw [runB, Bool.and_eq_true] at h
    rcases List.mem_cons.1 hb with e | e
    · subst e
      have h1 := h.1
      unfold mayB sgnB at h1
      unfold okNameB
      simp only [Bool.or_eq_true, decide_eq_true_eq] at h1 ⊢
      rcases h1 with (h1 | h1) | h1
      · exact .inr h1
      · exact .inl (.inl (.inl (.inl (.inl h1))))
      · by_cases h2 : l = 47
        · rw [if_pos h2] at h1
          simp only [decide_eq_true_eq] at h1
          exact .inl (.inl (.inl (.inr h1)))
        · rw [if_neg h2] at h1
          by_cases h3 : l = 46
          · rw [if_pos h3] at h1
            simp only [Bool.or_eq_true, decide_eq_true_eq] at h1
            rcases h1 with h1 | h1
            · exact .inl (.inl (.inl (.inr h1)))
            · exact .inl (.inl (.inr h1))
          · rw [if_neg h3] at h1
            simp only [Bool.or_eq_true, decide_eq_true_eq] at h1
            rcases h1 with ((h1 | h1) | h1) | h1
            · exact .inl (.inl (.inl (.inl (.inr h1))))
            · exact .inl (.inl (.inl (.inr h1)))
            · exact .inl (.inl (.inr h1))
            · exact .inl (.inr h1)
    · exact run_name t a h.2 b e
theorem check_name {xs : List Int} (h : checkB xs = true) : ∀ b, b ∈ xs → okNameB b = true := by
  unfold checkB at h
  simp only [Bool.and_eq_true] at h
  exact run_name xs 47 h.2
theorem check_len {xs : List Int} (h : checkB xs = true) : xs.length ≤ 255 := by
  unfold checkB at h
  simp only [Bool.and_eq_true, decide_eq_true_eq] at h
  exact h.1.1.2
/-- A side: with its star put as one letter it is a good name. -/
def sideL (s : List Int) : Bool := checkB (fillL s [120])
/-- Every byte of a side is one of a name, or the star. -/
theorem side_bytes {s : List Int} (h : sideL s = true) : ∀ b, b ∈ s → okNameB b = true ∨ b = 42 := fun b hb => by
  have hc := check_name h
  cases hs : starB s with
  | false =>
    have e : fillL s [120] = s := by unfold fillL; rw [hs]; rfl
    rw [e] at hc
    exact .inl (hc b hb)
  | true =>
    have e : fillL s [120] = aheadL s ++ [120] ++ behindL s := by unfold fillL; rw [hs]; rfl
    rw [e] at hc
    rw [(star_split hs).1] at hb
    rcases List.mem_append.1 hb with g | g
    · exact .inl (hc b (by simp [g]))
    · rcases List.mem_cons.1 g with g | g
      · exact .inr g
      · exact .inl (hc b (by simp [g]))
theorem side_len {s : List Int} (h : sideL s = true) : s.length ≤ 255 := by
  have hc := check_len h
  cases hs : starB s with
  | false =>
    have e : fillL s [120] = s := by unfold fillL; rw [hs]; rfl
    rwa [e] at hc
  | true =>
    have e : fillL s [120] = aheadL s ++ [120] ++ behindL s := by unfold fillL; rw [hs]; rfl
    rw [e] at hc
    have h1 := congrArg List.length (star_split hs).1
    simp only [List.length_append, List.length_cons, List.length_nil] at hc h1
    omega
theorem side_ne {s : List Int} (h : sideL s = true) : s ≠ [] := by
  rintro rfl
  exact absurd h (by decide)
theorem side_no {s : List Int} (h : sideL s = true) {c : Int} (h1 : okNameB c = false) (h2 : c ≠ 42) : c ∉ s := fun hc => by
  rcases side_bytes h c hc with g | g
  · rw [h1] at g; cases g
  · exact h2 g
/-- What stands ahead of the first colon, and behind it. -/
def srcL (p : List Int) : List Int := p.takeWhile (fun b => decide (b ≠ 58))
def dstL (p : List Int) : List Int := (p.dropWhile (fun b => decide (b ≠ 58))).tail
/-- A text cut at each colon. -/
def cutC (acc : List Int) : List Int → List (List Int)
  | [] => [acc]
  | b :: t => if b = 58 then acc :: cutC [] t else cutC (acc ++ [b]) t
theorem cutC_none : ∀ (p acc : List Int), 58 ∉ p → cutC acc p = [acc ++ p]
  | [], acc, _ => by simp [cutC]
  | b :: t, acc, h => by
    unfold cutC
    rw [if_neg (fun e => h (by simp [e])), cutC_none t _ (fun e => h (by simp [e]))]
    simp
theorem cutC_ne (p acc : List Int) : cutC acc p ≠ [] := by
  induction p generalizing acc with
  | nil => simp [cutC]
  | cons b t ih =>
    unfold cutC
    split
    · simp
    · exact ih _
theorem cutC_more : ∀ (p acc : List Int), 58 ∈ p → cutC acc p = (acc ++ srcL p) :: cutC [] (dstL p)
  | [], _, h => by cases h
  | b :: t, acc, h => by
    rw [show cutC acc (b :: t) = if b = 58 then acc :: cutC [] t else cutC (acc ++ [b]) t from rfl]
    by_cases e : b = 58
    · subst e
      simp [srcL, dstL]
    · have ht : 58 ∈ t := by
        rcases List.mem_cons.1 h with g | g
        · exact absurd g.symm e
        · exact g
      rw [if_neg e, cutC_more t _ ht]
      have hd : decide (b ≠ 58) = true := decide_eq_true e
      have e1 : srcL (b :: t) = b :: srcL t := by unfold srcL; rw [List.takeWhile_cons, if_pos hd]
      have e2 : dstL (b :: t) = dstL t := by unfold dstL; rw [List.dropWhile_cons, if_pos hd]
      rw [e1, e2, List.append_assoc]
      rfl
theorem dst_none {p : List Int} (h : 58 ∉ p) : dstL p = [] := by
  unfold dstL
  have : p.dropWhile (fun b => decide (b ≠ 58)) = [] := by
    induction p with
    | nil => rfl
    | cons b t ih =>
      have hb : b ≠ 58 := fun e => h (by simp [e])
      have hd : decide (b ≠ 58) = true := decide_eq_true hb
      rw [List.dropWhile_cons, if_pos hd, ih (fun e => h (by simp [e]))]
  rw [this]
  rfl
/-- Two sides that go together. -/
def pairL (s d : List Int) : Bool := sideL s && sideL d && (starB s == starB d)
/-- The document's two parts and the program's cut are one. -/
theorem pair_is (p : List Int) : pairL (srcL p) (dstL p) = (match cutC [] p with | [s, d] => pairL s d | _ => false) := by
  by_cases h : 58 ∈ p
  · rw [cutC_more p [] h, List.nil_append]
    by_cases h2 : 58 ∈ dstL p
    · have hf : sideL (dstL p) = false := by
        cases hs : sideL (dstL p) with
        | false => rfl
        | true => exact absurd h2 (side_no hs (by decide) (by decide))
      rw [cutC_more _ [] h2]
      cases hc : cutC [] (dstL (dstL p)) with
      | nil => exact absurd hc (cutC_ne _ _)
      | cons a l =>
        unfold pairL
        rw [hf]
        simp
    · rw [cutC_none _ [] h2, List.nil_append]
  · rw [cutC_none p [] h, dst_none h]
    unfold pairL
    have : sideL [] = false := by decide
    rw [this]
    simp
/-- A rule read out of a word. -/
def readL (w : List Int) : Option RuleL :=
  if w.head? = some 94 then (if sideL w.tail = true then some ⟨w.tail, [], false, true⟩ else none)
  else if w.head? = some 43 then (if pairL (srcL w.tail) (dstL w.tail) = true then some ⟨srcL w.tail, dstL w.tail, true, false⟩ else none)
  else if pairL (srcL w) (dstL w) = true then some ⟨srcL w, dstL w, false, false⟩ else none
/-- A rule as a word. -/
def spellL (r : RuleL) : List Int := if r.neg = true then 94 :: r.src else if r.force = true then 43 :: (r.src ++ 58 :: r.dst) else r.src ++ 58 :: r.dst
theorem src_put {s d : List Int} (h : 58 ∉ s) : srcL (s ++ 58 :: d) = s ∧ dstL (s ++ 58 :: d) = d := by
  induction s with
  | nil => simp [srcL, dstL]
  | cons b t ih =>
    have hb : b ≠ 58 := fun e => h (by simp [e])
    obtain ⟨i1, i2⟩ := ih (fun e => h (by simp [e]))
    have hd : decide (b ≠ 58) = true := decide_eq_true hb
    have e1 : srcL (b :: (t ++ 58 :: d)) = b :: srcL (t ++ 58 :: d) := by unfold srcL; rw [List.takeWhile_cons, if_pos hd]
    have e2 : dstL (b :: (t ++ 58 :: d)) = dstL (t ++ 58 :: d) := by unfold dstL; rw [List.dropWhile_cons, if_pos hd]
    rw [List.cons_append, e1, e2, i1, i2]
    exact ⟨rfl, rfl⟩
theorem pair_sides {s d : List Int} (h : pairL s d = true) : sideL s = true ∧ sideL d = true := by
  unfold pairL at h
  simp only [Bool.and_eq_true] at h
  exact h.1
/-- What was read may be written and read once more. -/
theorem read_spell {w : List Int} {r : RuleL} (h : readL w = some r) : readL (spellL r) = some r := by
  unfold readL at h
  by_cases h1 : w.head? = some 94
  · rw [if_pos h1] at h
    by_cases h2 : sideL w.tail = true
    · rw [if_pos h2] at h
      obtain rfl := Option.some.inj h
      unfold spellL readL
      simp [h2]
    · rw [if_neg h2] at h; cases h
  · rw [if_neg h1] at h
    by_cases h3 : w.head? = some 43
    · rw [if_pos h3] at h
      by_cases h2 : pairL (srcL w.tail) (dstL w.tail) = true
      · rw [if_pos h2] at h
        obtain rfl := Option.some.inj h
        have hn : (58 : Int) ∉ srcL w.tail := side_no (pair_sides h2).1 (by decide) (by decide)
        obtain ⟨e1, e2⟩ := src_put (d := dstL w.tail) hn
        unfold spellL readL
        simp [e1, e2, h2]
      · rw [if_neg h2] at h; cases h
    · rw [if_neg h3] at h
      by_cases h2 : pairL (srcL w) (dstL w) = true
      · rw [if_pos h2] at h
        obtain rfl := Option.some.inj h
        have hs := (pair_sides h2).1
        have hn : (58 : Int) ∉ srcL w := side_no hs (by decide) (by decide)
        obtain ⟨e1, e2⟩ := src_put (d := dstL w) hn
        have hh : ∀ c : Int, okNameB c = false → c ≠ 42 → (srcL w ++ 58 :: dstL w).head? ≠ some c := fun c h4 h5 e => by
          cases hsr : srcL w with
          | nil => exact side_ne hs hsr
          | cons b t =>
            rw [hsr] at e
            have : b = c := by simpa using e
            exact side_no hs h4 h5 (by rw [hsr, this]; simp)
        have e3 : spellL ⟨srcL w, dstL w, false, false⟩ = srcL w ++ 58 :: dstL w := rfl
        rw [e3]
        unfold readL
        rw [if_neg (hh 94 (by decide) (by decide)), if_neg (hh 43 (by decide) (by decide)), e1, e2, if_pos h2]
      · rw [if_neg h2] at h; cases h
/-- Words, parted by blanks. -/
def wordsL (acc : List Int) : List Int → List (List Int)
  | [] => if acc = [] then [] else [acc]
  | b :: t => if b = 32 ∨ b = 10 then (if acc = [] then wordsL [] t else acc :: wordsL [] t) else wordsL (acc ++ [b]) t
theorem words_word : ∀ (p acc t : List Int), (∀ b, b ∈ p → b ≠ 32 ∧ b ≠ 10) → wordsL acc (p ++ t) = wordsL (acc ++ p) t
  | [], acc, t, _ => by simp
  | b :: p, acc, t, h => by
    have hb := h b (by simp)
    rw [List.cons_append, wordsL, if_neg (by rintro (e | e); exact hb.1 e; exact hb.2 e), words_word p _ t (fun c hc => h c (by simp [hc]))]
    simp
/-- Words written with a blank behind each are read again. -/
theorem words_lines : ∀ (ps : List (List Int)), (∀ p, p ∈ ps → p ≠ [] ∧ ∀ b, b ∈ p → b ≠ 32 ∧ b ≠ 10) → wordsL [] (ps.flatMap fun p => p ++ [10]) = ps
  | [], _ => rfl
  | p :: ps, h => by
    obtain ⟨h1, h2⟩ := h p (by simp)
    rw [List.flatMap_cons, List.append_assoc, words_word p [] _ h2, List.nil_append]
    show wordsL p (10 :: ps.flatMap fun p => p ++ [10]) = _
    rw [wordsL, if_pos (.inr rfl), if_neg h1, words_lines ps (fun q hq => h q (by simp [hq]))]
/-- The rules of a text. -/
def parseL (text : List Int) : Option (List RuleL) :=
  match (wordsL [] text).mapM readL with
  | some l => if l.length ≤ 64 then some l else none
  | none => none
theorem spell_word {w : List Int} {r : RuleL} (h : readL w = some r) : spellL r ≠ [] ∧ ∀ b, b ∈ spellL r → b ≠ 32 ∧ b ≠ 10 := by
  have key : ∀ s : List Int, sideL s = true → ∀ b, b ∈ s → b ≠ 32 ∧ b ≠ 10 := fun s hs b hb => ⟨fun e => side_no hs (c := 32) (by decide) (by decide) (e ▸ hb), fun e => side_no hs (c := 10) (by decide) (by decide) (e ▸ hb)⟩
  unfold readL at h
  by_cases h1 : w.head? = some 94
  · rw [if_pos h1] at h
    by_cases h2 : sideL w.tail = true
    · rw [if_pos h2] at h
      obtain rfl := Option.some.inj h
      refine ⟨by simp [spellL], fun b hb => ?_⟩
      simp only [spellL, if_true, List.mem_cons] at hb
      rcases hb with rfl | hb
      · exact ⟨by decide, by decide⟩
      · exact key _ h2 b hb
    · rw [if_neg h2] at h; cases h
  · rw [if_neg h1] at h
    by_cases h3 : w.head? = some 43
    · rw [if_pos h3] at h
      by_cases h2 : pairL (srcL w.tail) (dstL w.tail) = true
      · rw [if_pos h2] at h
        obtain rfl := Option.some.inj h
        refine ⟨by simp [spellL], fun b hb => ?_⟩
        simp only [spellL, Bool.false_eq_true, if_false, if_true, List.mem_cons, List.mem_append] at hb
        rcases hb with rfl | hb | rfl | hb
        · exact ⟨by decide, by decide⟩
        · exact key _ (pair_sides h2).1 b hb
        · exact ⟨by decide, by decide⟩
        · exact key _ (pair_sides h2).2 b hb
      · rw [if_neg h2] at h; cases h
    · rw [if_neg h3] at h
      by_cases h2 : pairL (srcL w) (dstL w) = true
      · rw [if_pos h2] at h
        obtain rfl := Option.some.inj h
        refine ⟨by simp [spellL], fun b hb => ?_⟩
        simp only [spellL, Bool.false_eq_true, if_false, List.mem_cons, List.mem_append] at hb
        rcases hb with hb | rfl | hb
        · exact key _ (pair_sides h2).1 b hb
        · exact ⟨by decide, by decide⟩
        · exact key _ (pair_sides h2).2 b hb
      · rw [if_neg h2] at h; cases h
end Go.Proofs.YtbdkalicgpdbkaaDoor
