/-
  PLAIN MATHEMATICS of satchellaw1.CodeTurns: all that is written, and where each item lies in it. No Go text is named here.
-/
import Derived.Test.YtbflokiijfomeaaPlain4
import Derived.Test.YtbflokiijfomeaaOpen
namespace Go.Proofs.Ytbflokiijfomeaa
open Go.RowKit

/-- What is written for the first k steps. -/
def encs (ops : List COp) (k : Nat) : List Int := (ops.take k).flatMap encW
theorem encs_zero (ops : List COp) : encs ops 0 = [] := by simp [encs]
theorem encs_succ (ops : List COp) (k : Nat) (o : COp) (h : ops[k]? = some o) : encs ops (k + 1) = encs ops k ++ encW o := by
  have hk : k < ops.length := (List.getElem?_eq_some_iff.1 h).1
  have e : ops[k] = o := by rw [List.getElem?_eq_getElem hk] at h; simpa using h
  unfold encs
  rw [List.take_succ_eq_append_getElem hk, e]
  simp
theorem encs_split (ops : List COp) (k t : Nat) (h : k ≤ t) : ∃ tl, encs ops t = encs ops k ++ tl := by
  unfold encs
  refine ⟨((ops.take t).drop k).flatMap encW, ?_⟩
  rw [← List.flatMap_append]
  congr 1
  have e := (List.take_append_drop k (ops.take t)).symm
  rw [List.take_take, show min k t = k by omega] at e
  exact e
theorem encW_len (o : COp) (h0 : 0 ≤ o.n) (h1 : o.n ≤ 18446744073709551615) (hb : o.b.length ≤ 140737488351232) : (encW o).length ≤ 10 + o.b.length := by
  unfold encW
  split
  · rw [fixedB_len]; omega
  · split
    · rw [fixedB_len]; omega
    · split
      · rw [fixedB_len]; omega
      · split
        · have := varB_len o.n h0 h1; omega
        · split
          · have := varB_len (o.b.length : Int) (by omega) (by omega); simp; omega
          · split
            · omega
            · simp
theorem encW_octs (o : COp) (h0 : 0 ≤ o.n) (h1 : o.n ≤ 18446744073709551615) (hb : o.b.length ≤ 140737488351232) (ho : Octs o.b) : Octs (encW o) := by
  unfold encW
  split
  · exact fixedB_octs _ _
  · split
    · exact fixedB_octs _ _
    · split
      · exact fixedB_octs _ _
      · split
        · exact varB_octs o.n h0 h1
        · split
          · intro u hu
            rcases List.mem_append.1 hu with h | h
            · exact varB_octs (o.b.length : Int) (by omega) (by omega) u h
            · exact ho u h
          · split
            · exact ho
            · intro u hu; simp at hu
theorem sumB_take (ops : List COp) (k : Nat) : sumB (ops.take k) ≤ sumB ops := by
  have e : sumB ops = sumB (ops.take k) + sumB (ops.drop k) := by
    unfold sumB
    rw [← List.sum_append, ← List.map_append, List.take_append_drop]
  omega
theorem encs_len {w : World} (ops : List COp) (hg : ∀ o, o ∈ ops → COp.Good o w) (k : Nat) : (encs ops k).length ≤ 10 * k + sumB ops := by
  have h : ∀ l : List COp, (∀ o, o ∈ l → COp.Good o w) → (l.flatMap encW).length ≤ 10 * l.length + sumB l := by
    intro l
    induction l with
    | nil => intro _; simp [sumB]
    | cons o l ih =>
      intro hl
      have h1 := ih fun o' ho' => hl o' (by simp [ho'])
      have h2 := hl o (by simp)
      have h3 := encW_len o h2.n0 h2.n1 h2.small
      simp only [List.flatMap_cons, List.length_append, List.length_cons, sumB, List.map_cons, List.sum_cons] at h1 ⊢
      omega
  have h1 := h (ops.take k) fun o ho => hg o (List.mem_of_mem_take ho)
  have h2 := sumB_take ops k
  have h3 : (ops.take k).length ≤ k := by simp; omega
  unfold encs
  omega
theorem encs_octs {w : World} (ops : List COp) (hg : ∀ o, o ∈ ops → COp.Good o w) (k : Nat) : Octs (encs ops k) := by
  intro u hu
  unfold encs at hu
  rw [List.mem_flatMap] at hu
  obtain ⟨o, ho, hu⟩ := hu
  have h := hg o (List.mem_of_mem_take ho)
  exact encW_octs o h.n0 h.n1 h.small h.oct u hu

/-- All that is written: the byte 7 ahead. -/
def allW (ops : List COp) (t : Nat) : List Int := 7 :: encs ops t
theorem allW_drop (ops : List COp) (t k : Nat) (o : COp) (h : ops[k]? = some o) (hk : k < t) : ∃ tl, (allW ops t).drop (1 + (encs ops k).length) = encW o ++ tl ∧ (allW ops t).length = 1 + (encs ops k).length + (encW o).length + tl.length := by
  obtain ⟨tl, e⟩ := encs_split ops (k + 1) t hk
  rw [encs_succ ops k o h] at e
  refine ⟨tl, ?_, ?_⟩
  · unfold allW
    rw [Nat.add_comm, List.drop_succ_cons, e, List.append_assoc, List.drop_left]
  · unfold allW
    rw [e]
    simp
    omega
/-- .. and without the last byte: either the item is all there, or it is cut. -/
theorem allW_cut (ops : List COp) (t k : Nat) (o : COp) (h : ops[k]? = some o) (hk : k < t) (hp : 1 + (encs ops k).length ≤ (allW ops t).length - 1) :
    (∃ tl, ((allW ops t).take ((allW ops t).length - 1)).drop (1 + (encs ops k).length) = encW o ++ tl ∧ 1 + (encs ops k).length + (encW o).length ≤ (allW ops t).length - 1) ∨
    (1 ≤ (encW o).length ∧ ((allW ops t).take ((allW ops t).length - 1)).drop (1 + (encs ops k).length) = (encW o).take ((encW o).length - 1)) := by
  obtain ⟨tl, e, hl⟩ := allW_drop ops t k o h hk
  have e2 : ((allW ops t).take ((allW ops t).length - 1)).drop (1 + (encs ops k).length) = (encW o ++ tl).take ((encW o).length + tl.length - 1) := by
    rw [List.drop_take, e, hl]
    congr 1
    omega
  by_cases ht : tl = []
  · subst ht
    by_cases h0 : (encW o).length = 0
    · simp only [List.length_nil] at hl
      omega
    · refine Or.inr ⟨by omega, ?_⟩
      rw [e2]; simp
  · have htl : 1 ≤ tl.length := List.length_pos_iff.2 ht
    refine Or.inl ⟨tl.take (tl.length - 1), ?_, by omega⟩
    rw [e2, List.take_append, List.take_of_length_le (by omega)]
    congr 2
    omega

theorem backL_bad (xs : List Int) (pl f : Nat) (o : COp) (h : f ≠ 0) : backL xs pl f o = ⟨0, [], pl, f⟩ := by
  have e : ∀ kind size most, takeL xs pl f kind size most = ⟨0, [], pl, f⟩ := fun _ _ _ => if_pos h
  unfold backL
  simp only [e]
  repeat' split
  all_goals rfl
/-- Of the bytes without the last one: a fault, or all is read so far. -/
def Cut (ops : List COp) (t m pl f : Nat) : Prop := f = 1 ∨ (f = 0 ∧ pl = 1 + (encs ops m).length ∧ pl ≤ (allW ops t).length - 1)
theorem cut_start (ops : List COp) (t : Nat) : Cut ops t 0 (takeL ((allW ops t).take ((allW ops t).length - 1)) 0 0 0 1 0).pl (takeL ((allW ops t).take ((allW ops t).length - 1)) 0 0 0 1 0).f := by
  by_cases h : (encs ops t) = []
  · have e : (allW ops t).take ((allW ops t).length - 1) = [] := by simp [allW, h]
    rw [e]
    have := cut_fixed [] 0 1 (by simp)
    exact Or.inl (congrArg Took.f this)
  · have hl : 1 ≤ (encs ops t).length := List.length_pos_iff.2 h
    have e : (allW ops t).take ((allW ops t).length - 1) = 7 :: (encs ops t).take ((encs ops t).length - 1) := by
      unfold allW
      rw [List.length_cons, Nat.add_sub_cancel]
      obtain ⟨n, hn⟩ : ∃ n, (encs ops t).length = n + 1 := ⟨(encs ops t).length - 1, by omega⟩
      rw [hn, List.take_succ_cons, Nat.add_sub_cancel]
    have := back_fixed ((allW ops t).take ((allW ops t).length - 1)) 0 1 7 ((encs ops t).take ((encs ops t).length - 1)) (by decide) (by decide) (by rw [e]; rfl)
    refine Or.inr ⟨congrArg Took.f this, (congrArg Took.pl this).trans (by rw [encs_zero]; rfl), ?_⟩
    have e2 : (takeL ((allW ops t).take ((allW ops t).length - 1)) 0 0 0 1 0).pl = 0 + 1 := congrArg Took.pl this
    rw [e2]
    simp [allW]
    omega
theorem cut_step {w : World} (ops : List COp) (t m pl f : Nat) (o : COp) (h : ops[m]? = some o) (hm : m < t) (hg : COp.Good o w) (hc : Cut ops t m pl f) :
    Cut ops t (m + 1) (backL ((allW ops t).take ((allW ops t).length - 1)) pl f o).pl (backL ((allW ops t).take ((allW ops t).length - 1)) pl f o).f := by
  rcases hc with rfl | ⟨rfl, rfl, hp⟩
  · rw [backL_bad _ _ _ _ (by decide)]; exact Or.inl rfl
  · rcases allW_cut ops t m o h hm hp with ⟨tl, e, hl⟩ | ⟨h1, e⟩
    · rw [read_back _ _ o tl hg.n0 hg.n1 hg.small e]
      refine Or.inr ⟨rfl, ?_, hl⟩
      dsimp only
      rw [encs_succ ops m o h]; simp; omega
    · exact Or.inl (read_cut _ _ o hg.n0 hg.n1 hg.small h1 e).1
theorem cut_end (ops : List COp) (t pl f : Nat) (hc : Cut ops t t pl f) : f = 1 := by
  rcases hc with h | ⟨_, rfl, hp⟩
  · exact h
  · simp [allW] at hp; omega

end Go.Proofs.Ytbflokiijfomeaa
