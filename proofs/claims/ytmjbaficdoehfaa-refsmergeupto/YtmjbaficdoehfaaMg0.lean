/-
  PLAIN: stamps brought together: sorted by name, of each name the one that counts.
-/
import Derived.Test.YtmjbaficdoehfaaCmpO
namespace Go.Proofs.Ytmjbaficdoehfaa
open Go.RowKit

/-- A stamp: a name, an id, a number. -/
structure StampE where
  name : List Int
  id : List Int
  seq : Int
  on : ∀ x, x ∈ name → 0 ≤ x ∧ x ≤ 255
  gi : id.length = 32 ∧ ∀ x, x ∈ id → 0 ≤ x ∧ x ≤ 255
  lo : 0 ≤ seq
  hi : seq < 18446744073709551616
theorem StampE.eq {x y : StampE} (h1 : x.name = y.name) (h2 : x.id = y.id) (h3 : x.seq = y.seq) : x = y := by
  cases x; cases y; subst h1 h2 h3; rfl
instance : DecidableEq StampE := fun x y => if h : x.name = y.name ∧ x.id = y.id ∧ x.seq = y.seq then isTrue (StampE.eq h.1 h.2.1 h.2.2) else isFalse fun e => h ⟨e ▸ rfl, e ▸ rfl, e ▸ rfl⟩
instance : Inhabited StampE := ⟨⟨[], List.replicate 32 0, 0, by simp, ⟨by simp, fun x h => by rw [List.eq_of_mem_replicate h]; decide⟩, by decide, by decide⟩⟩
/-- What compareStamps tells. -/
def cmpS (x y : StampE) : Int :=
  if cmpB x.name y.name < 0 then -1 else if cmpB y.name x.name < 0 then 1 else if y.seq < x.seq then -1 else if x.seq < y.seq then 1 else cmpB y.id x.id
/-- Of one name: y counts ahead of x. -/
def Beat (x y : StampE) : Prop := x.seq < y.seq ∨ x.seq = y.seq ∧ cmpB x.id y.id < 0
instance (x y : StampE) : Decidable (Beat x y) := by unfold Beat; infer_instance
theorem beat_total {x y : StampE} (h1 : ¬ Beat x y) (h2 : ¬ Beat y x) (hn : x.name = y.name) : x = y := by
  unfold Beat at h1 h2
  have hs : x.seq = y.seq := by omega
  exact StampE.eq hn (cmpB_total _ _ (fun h => h1 (Or.inr ⟨hs, h⟩)) (fun h => h2 (Or.inr ⟨hs.symm, h⟩))) hs
theorem beat_self (x : StampE) : ¬ Beat x x := fun h => by
  rcases h with h | ⟨_, h⟩
  · exact Int.lt_irrefl _ h
  · exact cmpB_self _ h
theorem beat_asymm {x y : StampE} (h : Beat x y) : ¬ Beat y x := fun k => by
  rcases h with h | ⟨h, h'⟩
  · rcases k with k | ⟨k, _⟩ <;> omega
  · rcases k with k | ⟨_, k'⟩
    · omega
    · exact cmpB_swap _ _ h' k'
theorem beat_trans {x y z : StampE} (h : Beat x y) (k : Beat y z) : Beat x z := by
  rcases h with h | ⟨h, h'⟩
  · rcases k with k | ⟨k, _⟩
    · exact .inl (by omega)
    · exact .inl (by omega)
  · rcases k with k | ⟨k, k'⟩
    · exact .inl (by omega)
    · exact .inr ⟨by omega, cmpB_trans _ _ _ h' k'⟩
theorem cmpS_less {x y : StampE} : cmpS x y < 0 ↔ cmpB x.name y.name < 0 ∨ x.name = y.name ∧ Beat y x := by
  unfold cmpS Beat
  by_cases h1 : cmpB x.name y.name < 0
  · rw [if_pos h1]; simp [h1]
  · rw [if_neg h1]
    by_cases h2 : cmpB y.name x.name < 0
    · rw [if_pos h2]
      constructor
      · intro h; omega
      · rintro (h | ⟨h, _⟩)
        · exact absurd h h1
        · rw [h] at h2; exact absurd h2 (cmpB_self _)
    · rw [if_neg h2]
      have hn : x.name = y.name := cmpB_total _ _ h1 h2
      have hred : (cmpB x.name y.name < 0 ∨ x.name = y.name ∧ (y.seq < x.seq ∨ y.seq = x.seq ∧ cmpB y.id x.id < 0)) ↔ (y.seq < x.seq ∨ y.seq = x.seq ∧ cmpB y.id x.id < 0) := ⟨fun h => h.elim (fun g => absurd g h1) (fun g => g.2), fun h => Or.inr ⟨hn, h⟩⟩
      rw [hred]
      by_cases h3 : y.seq < x.seq
      · rw [if_pos h3]; exact ⟨fun _ => .inl h3, fun _ => by decide⟩
      · rw [if_neg h3]
        by_cases h4 : x.seq < y.seq
        · rw [if_pos h4]
          constructor
          · intro h; omega
          · rintro (h | ⟨h, _⟩) <;> omega
        · rw [if_neg h4]
          exact ⟨fun h => .inr ⟨by omega, h⟩, fun h => h.elim (fun g => absurd g h3) (fun g => g.2)⟩
theorem cmpS_self (x : StampE) : ¬ cmpS x x < 0 := fun h => by
  rcases cmpS_less.1 h with h | ⟨_, h⟩
  · exact cmpB_self _ h
  · exact beat_self _ h
theorem cmpS_trans {x y z : StampE} (h : cmpS x y < 0) (k : cmpS y z < 0) : cmpS x z < 0 := by
  rw [cmpS_less] at *
  rcases h with h | ⟨h, h'⟩
  · rcases k with k | ⟨k, _⟩
    · exact .inl (cmpB_trans _ _ _ h k)
    · exact .inl (k ▸ h)
  · rcases k with k | ⟨k, k'⟩
    · exact .inl (h ▸ k)
    · exact .inr ⟨h.trans k, beat_trans k' h'⟩
/-- What is not less: either greater or the same. -/
theorem cmpS_ge {x y : StampE} (h : ¬ cmpS x y < 0) : cmpS y x < 0 ∨ x = y := by
  rw [cmpS_less] at *
  by_cases h1 : cmpB y.name x.name < 0
  · exact .inl (.inl h1)
  · have hn : x.name = y.name := cmpB_total _ _ (fun g => h (.inl g)) h1
    by_cases h2 : Beat x y
    · exact .inl (.inr ⟨hn.symm, h2⟩)
    · exact .inr (beat_total h2 (fun g => h (.inr ⟨hn, g⟩)) hn)

/-- m: what ins come to. -/
structure MergedTo (ins m : List StampE) : Prop where
  ord : m.Pairwise fun a b => cmpB a.name b.name < 0
  sub : ∀ x, x ∈ m → x ∈ ins
  top : ∀ y, y ∈ ins → ∃ x, x ∈ m ∧ x.name = y.name ∧ ¬ Beat x y
theorem MergedTo.same {ins m : List StampE} (h : MergedTo ins m) {x y : StampE} (hx : x ∈ m) (hy : y ∈ m) (hn : x.name = y.name) : x = y := by
  obtain ⟨i, hi, rfl⟩ := List.getElem_of_mem hx
  obtain ⟨j, hj, rfl⟩ := List.getElem_of_mem hy
  have hp := List.pairwise_iff_getElem.1 h.ord
  rcases Nat.lt_trichotomy i j with g | g | g
  · have := hp i j hi hj g
    rw [hn] at this
    exact absurd this (cmpB_self _)
  · subst g; rfl
  · have := hp j i hj hi g
    rw [hn] at this
    exact absurd this (cmpB_self _)
theorem MergedTo.mono {ins ins' m : List StampE} (h : MergedTo ins m) (he : ∀ x, x ∈ ins ↔ x ∈ ins') : MergedTo ins' m :=
  ⟨h.ord, fun x hx => (he x).1 (h.sub x hx), fun y hy => h.top y ((he y).2 hy)⟩
theorem MergedTo.best {ins m : List StampE} (h : MergedTo ins m) {x y : StampE} (hx : x ∈ m) (hy : y ∈ ins) (hn : x.name = y.name) : ¬ Beat x y := by
  obtain ⟨z, hz, h1, h2⟩ := h.top y hy
  obtain rfl := h.same hz hx (h1.trans hn.symm)
  exact h2
theorem sorted_same : ∀ {l m : List StampE}, l.Pairwise (fun a b => cmpB a.name b.name < 0) → m.Pairwise (fun a b => cmpB a.name b.name < 0) → (∀ x, x ∈ l ↔ x ∈ m) → l = m
  | [], [], _, _, _ => rfl
  | [], b :: m, _, _, h => absurd ((h b).2 (by simp)) (by simp)
  | a :: l, [], _, _, h => absurd ((h a).1 (by simp)) (by simp)
  | a :: l, b :: m, h1, h2, h => by
    have hab : a = b := by
      rcases List.mem_cons.1 ((h a).1 (by simp)) with e | e
      · exact e
      · rcases List.mem_cons.1 ((h b).2 (by simp)) with g | g
        · exact g.symm
        · exact absurd (List.rel_of_pairwise_cons h2 e) (cmpB_swap _ _ (List.rel_of_pairwise_cons h1 g))
    subst hab
    have hm : ∀ x, x ∈ l ↔ x ∈ m := fun x => by
      constructor
      · intro hx
        rcases List.mem_cons.1 ((h x).1 (List.mem_cons_of_mem _ hx)) with e | e
        · subst e; exact absurd (List.rel_of_pairwise_cons h1 hx) (cmpB_self _)
        · exact e
      · intro hx
        rcases List.mem_cons.1 ((h x).2 (List.mem_cons_of_mem _ hx)) with e | e
        · subst e; exact absurd (List.rel_of_pairwise_cons h2 hx) (cmpB_self _)
        · exact e
    rw [sorted_same (List.pairwise_cons.1 h1).2 (List.pairwise_cons.1 h2).2 hm]
theorem MergedTo.uniq {ins m m' : List StampE} (h : MergedTo ins m) (h' : MergedTo ins m') : m = m' := by
  have key : ∀ {m m' : List StampE}, MergedTo ins m → MergedTo ins m' → ∀ x, x ∈ m → x ∈ m' := fun {m m'} h h' x hx => by
    obtain ⟨y, hy, hn, hb⟩ := h'.top x (h.sub x hx)
    have := beat_total (h.best hx (h'.sub y hy) hn.symm) hb hn.symm
    rwa [this]
  exact sorted_same h.ord h'.ord fun x => ⟨key h h' x, key h' h x⟩
/-- What is merged may be merged again, with more. -/
theorem MergedTo.again {A B m m' : List StampE} (h : MergedTo A m) (h' : MergedTo (m ++ B) m') : MergedTo (A ++ B) m' := by
  refine ⟨h'.ord, fun x hx => ?_, fun y hy => ?_⟩
  · rcases List.mem_append.1 (h'.sub x hx) with g | g
    · exact List.mem_append_left _ (h.sub x g)
    · exact List.mem_append_right _ g
  · rcases List.mem_append.1 hy with g | g
    · obtain ⟨z, hz, hn, hb⟩ := h.top y g
      obtain ⟨x, hx, hn', hb'⟩ := h'.top z (List.mem_append_left _ hz)
      refine ⟨x, hx, hn'.trans hn, fun k => ?_⟩
      by_cases hzy : Beat y z
      · exact hb' (beat_trans k hzy)
      · exact hb' (beat_total hzy hb hn.symm ▸ k)
    · exact h'.top y (List.mem_append_right _ g)
theorem MergedTo.self {A m : List StampE} (h : MergedTo A m) : MergedTo m m :=
  ⟨h.ord, fun _ hx => hx, fun y hy => ⟨y, hy, rfl, beat_self y⟩⟩

/-- Of neighbours with one name the first. -/
def compF (p : List Int) : List StampE → List StampE
  | [] => []
  | y :: ys => if y.name = p then compF y.name ys else y :: compF y.name ys
def compN : List StampE → List StampE
  | [] => []
  | y :: ys => y :: compF y.name ys
theorem compF_merged : ∀ {p : List Int} {xs : List StampE}, xs.Pairwise (fun a b => ¬ cmpS b a < 0) → (∀ x, x ∈ xs → ¬ cmpB x.name p < 0) →
    (compF p xs).Pairwise (fun a b => cmpB a.name b.name < 0) ∧ (∀ x, x ∈ compF p xs → x ∈ xs ∧ cmpB p x.name < 0) ∧ ∀ y, y ∈ xs → y.name = p ∨ ∃ x, x ∈ compF p xs ∧ x.name = y.name ∧ ¬ Beat x y
  | p, [], _, _ => ⟨List.Pairwise.nil, by simp [compF], by simp⟩
  | p, y :: ys, hs, hp => by
    have hs' := (List.pairwise_cons.1 hs).2
    have hy : ∀ z, z ∈ ys → ¬ cmpB z.name y.name < 0 := fun z hz h => (List.pairwise_cons.1 hs).1 z hz (cmpS_less.2 (.inl h))
    obtain ⟨i1, i2, i3⟩ := compF_merged hs' hy
    unfold compF
    by_cases e : y.name = p
    · rw [if_pos e]
      refine ⟨i1, fun x hx => ⟨List.mem_cons_of_mem _ (i2 x hx).1, e ▸ (i2 x hx).2⟩, fun z hz => ?_⟩
      rcases List.mem_cons.1 hz with g | g
      · exact .inl (g ▸ e)
      · rcases i3 z g with k | k
        · exact .inl (k.trans e)
        · exact .inr k
    · rw [if_neg e]
      have hlt : cmpB p y.name < 0 := by
        rcases cmpB_ge (hp y (by simp)) with g | g
        · exact g
        · exact absurd g e
      refine ⟨List.pairwise_cons.2 ⟨fun x hx => (i2 x hx).2, i1⟩, fun x hx => ?_, fun z hz => ?_⟩
      · rcases List.mem_cons.1 hx with g | g
        · exact ⟨by simp [g], g ▸ hlt⟩
        · exact ⟨List.mem_cons_of_mem _ (i2 x g).1, cmpB_trans _ _ _ hlt (i2 x g).2⟩
      · rcases List.mem_cons.1 hz with g | g
        · exact .inr ⟨y, by simp, g ▸ rfl, g ▸ beat_self _⟩
        · rcases i3 z g with k | ⟨x, k1, k2, k3⟩
          · refine .inr ⟨y, by simp, k.symm, fun hb => ?_⟩
            exact (List.pairwise_cons.1 hs).1 z g (cmpS_less.2 (.inr ⟨k, hb⟩))
          · exact .inr ⟨x, List.mem_cons_of_mem _ k1, k2, k3⟩
theorem compN_merged {S : List StampE} (hs : S.Pairwise (fun a b => ¬ cmpS b a < 0)) : MergedTo S (compN S) := by
  cases S with
  | nil => exact ⟨List.Pairwise.nil, by simp [compN], by simp⟩
  | cons y ys =>
    have hy : ∀ z, z ∈ ys → ¬ cmpB z.name y.name < 0 := fun z hz h => (List.pairwise_cons.1 hs).1 z hz (cmpS_less.2 (.inl h))
    obtain ⟨i1, i2, i3⟩ := compF_merged (List.pairwise_cons.1 hs).2 hy
    unfold compN
    refine ⟨List.pairwise_cons.2 ⟨fun x hx => (i2 x hx).2, i1⟩, fun x hx => ?_, fun z hz => ?_⟩
    · rcases List.mem_cons.1 hx with g | g
      · simp [g]
      · exact List.mem_cons_of_mem _ (i2 x g).1
    · rcases List.mem_cons.1 hz with g | g
      · exact ⟨y, by simp, g ▸ rfl, g ▸ beat_self _⟩
      · rcases i3 z g with k | ⟨x, k1, k2, k3⟩
        · refine ⟨y, by simp, k.symm, fun hb => ?_⟩
          exact (List.pairwise_cons.1 hs).1 z g (cmpS_less.2 (.inr ⟨k, hb⟩))
        · exact ⟨x, List.mem_cons_of_mem _ k1, k2, k3⟩
end Go.Proofs.Ytmjbaficdoehfaa
