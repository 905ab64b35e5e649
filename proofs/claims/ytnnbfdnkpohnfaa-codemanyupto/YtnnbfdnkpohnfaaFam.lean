/-
  MANY THINGS IN MEMORY, SIDE BY SIDE, each with memory of its own. No Go text is named here.
-/
import Derived.Test.YtnnbfdnkpohnfaaDuo
namespace Go.Proofs.Ytnnbfdnkpohnfaa
open Go.RowKit

/-- Something that is said of a world, and the blocks on which that hangs. -/
structure Thing where
  P : World → Prop
  F : List Nat
  st : ∀ (w w' : World) (T : List Nat), P w → Kept T w w' → (∀ b, b ∈ F → b ∉ T) → P w'

def nilT : Thing := ⟨fun _ => True, [], fun _ _ _ _ _ _ => trivial⟩
def boxT (b : Nat) (c : Array Value) (t : TypeId) : Thing := ⟨fun w => w.heap[b]? = some (.cells c t (0, 0)), [b], fun _ _ _ h k hd => k.heap h (hd b (by simp))⟩

theorem owns_kept {w w' : World} {B : Nat} {e : TypeId} {size n : Nat} {v : Value} {xs : List Value} {T : List Nat} (h : w.ownsRow B e size v n xs) (k : Kept T w w') (hd : ∀ b, v.ownBlock = some b → b ∉ T) : w'.ownsRow B e size v n xs := by
  refine ⟨h.1, ?_⟩
  rcases h.2 with hn | ⟨g, cap', cur, hv, hg, hh, rest⟩
  · exact Or.inl hn
  · exact Or.inr ⟨g, cap', cur, hv, hg, k.heap hh (hd g (by rw [hv]; simp [Value.ownBlock])), rest⟩

/-- A list of one's own, of elements of one cell each. -/
def rowT (e : TypeId) (B : Nat) (v : Value) (xs : List Value) : Thing :=
  ⟨fun w => w.ownsRow B e 1 v xs.length xs, v.ownBlock.toList, fun _ _ _ h k hd => owns_kept h k fun b hb => hd b (by simp [hb])⟩

/-- A Writer and its list. -/
structure Rec where
  r : Nat
  v : Value
  zs : List Int
  S : List Nat
def duoT (B : Nat) (x : Rec) : Thing := ⟨fun w => Duo w x.r B x.v x.zs x.S, foot x.v x.S, fun _ _ _ h k hd => h.kept k hd⟩

section
variable {ι : Type} [DecidableEq ι]

def fset (f : ι → Thing) (i : ι) (t : Thing) : ι → Thing := fun j => if j = i then t else f j
theorem fset_same (f : ι → Thing) (i : ι) (t : Thing) : fset f i t i = t := by simp [fset]
theorem fset_other (f : ι → Thing) (i j : ι) (t : Thing) (h : j ≠ i) : fset f i t j = f j := by simp [fset, h]

/-- All of them hold, none hangs on another's memory, and all of that is new since w. -/
structure Fam {ι : Type} (w wr : World) (f : ι → Thing) : Prop where
  kept : Kept [] w wr
  holds : ∀ i, (f i).P wr
  low : ∀ i b, b ∈ (f i).F → w.heap.size ≤ b ∧ b < wr.heap.size
  dis : ∀ i j, i ≠ j → ∀ b, b ∈ (f i).F → b ∉ (f j).F

omit [DecidableEq ι] in
theorem Fam.box {w wr w' : World} {f : ι → Thing} (h : Fam w wr f) (k : Kept [] wr w') : Fam w w' f :=
  ⟨h.kept.then k, fun i => (f i).st _ _ _ (h.holds i) k (by simp), fun i b hb => ⟨(h.low i b hb).1, Nat.lt_of_lt_of_le (h.low i b hb).2 k.size⟩, h.dis⟩

/-- One of them turns into another; or one comes new (what was nothing turns into something). -/
theorem Fam.put {w wr w' : World} {f : ι → Thing} (h : Fam w wr f) (i : ι) (t : Thing) (k : Kept (f i).F wr w') (hp : t.P w') (hF : ∀ b, b ∈ t.F → (b ∈ (f i).F ∨ wr.heap.size ≤ b) ∧ b < w'.heap.size) : Fam w w' (fset f i t) := by
  have old : ∀ j b, b ∈ (f j).F → b < wr.heap.size := fun j b hb => (h.low j b hb).2
  refine ⟨h.kept.trans k fun b hb => Or.inr (h.low i b hb).1, fun j => ?_, fun j b hb => ?_, fun j l hjl b hb hb' => ?_⟩
  · by_cases hj : j = i
    · subst hj; rw [fset_same]; exact hp
    · rw [fset_other _ _ _ _ hj]; exact (f j).st _ _ _ (h.holds j) k fun b hb => h.dis j i hj b hb
  · by_cases hj : j = i
    · subst hj; rw [fset_same] at hb
      refine ⟨?_, (hF b hb).2⟩
      rcases (hF b hb).1 with h1 | h1
      · exact (h.low j b h1).1
      · exact Nat.le_trans h.kept.size h1
    · rw [fset_other _ _ _ _ hj] at hb
      exact ⟨(h.low j b hb).1, Nat.lt_of_lt_of_le (h.low j b hb).2 k.size⟩
  · by_cases hj : j = i
    · subst hj
      rw [fset_same] at hb
      rw [fset_other _ _ _ _ (Ne.symm hjl)] at hb'
      rcases (hF b hb).1 with h1 | h1
      · exact h.dis j l hjl b h1 hb'
      · exact absurd (old l b hb') (by omega)
    · rw [fset_other _ _ _ _ hj] at hb
      by_cases hl : l = i
      · subst hl
        rw [fset_same] at hb'
        rcases (hF b hb').1 with h1 | h1
        · exact h.dis j l hj b hb h1
        · exact absurd (old j b hb) (by omega)
      · rw [fset_other _ _ _ _ hl] at hb'
        exact h.dis j l hjl b hb hb'

omit [DecidableEq ι] in
/-- Nothing yet. -/
theorem Fam.start (w : World) : Fam w w fun (_ : ι) => nilT := ⟨Kept.refl _ _, fun _ => trivial, fun _ _ hb => by simp [nilT] at hb, fun _ _ _ _ hb => by simp [nilT] at hb⟩
omit [DecidableEq ι] in
theorem Fam.congr {w wr : World} {f g : ι → Thing} (h : Fam w wr f) (e : ∀ i, f i = g i) : Fam w wr g := by
  obtain rfl : f = g := funext e
  exact h
end

/-- Where the cells of such a list lie. -/
theorem owns_at {w : World} {B n : Nat} {e : TypeId} {v : Value} {xs : List Value} (h : w.ownsRow B e 1 v n xs) (hn : 0 < n) :
    ∃ g cap, v = .slice (some ⟨g, 0, none⟩) n cap ∧ n ≤ cap ∧ cap ≤ 9223372036854775807 ∧ B ≤ g ∧ g < w.heap.size ∧ (∀ j, j < n → w.cell? ⟨g, j, none⟩ = xs[j]?) ∧ (∀ j, w.frozen? ⟨g, j, none⟩ = false) := by
  have h0 := h
  rcases h.2 with ⟨h1, h2⟩ | ⟨g, cap, cur, hv, hg, hh, hnc, hcm, hcs, htk⟩
  · omega
  · subst hv
    exact ⟨g, cap, rfl, hnc, hcm, hg, lt_of_block hh, fun j hj => World.ownsRow.cellAt h0 j (by omega), fun j => World.ownsRow.frozenAt h0 j⟩
end Go.Proofs.Ytnnbfdnkpohnfaa
