/-
  A Writer, and beside it the list that the document's own answer keeps: the same bytes, each in memory of its own.
-/
import Derived.Test.YtmambfdfkobjgaaRFix
import Derived.Test.YtmambfdfkobjgaaLent2
import Derived.Test.YtmambfdfkobjgaaOps
namespace Go.Proofs.Ytmambfdfkobjgaa
open Go.RowKit

/-- The memory of both. -/
def foot (v : Value) (S : List Nat) : List Nat := S ++ v.ownBlock.toList

structure Duo (w : World) (wb B : Nat) (v : Value) (zs : List Int) (S : List Nat) : Prop where
  wr : WAt w wb B zs S
  own : OwnB w B v zs
  dis : ∀ x, v.ownBlock = some x → x ∉ S

theorem mem_foot {v : Value} {S : List Nat} {x : Nat} : x ∈ foot v S ↔ x ∈ S ∨ v.ownBlock = some x := by
  simp [foot]
theorem Duo.lt {w : World} {wb B : Nat} {v : Value} {zs : List Int} {S : List Nat} (D : Duo w wb B v zs S) : ∀ x, x ∈ foot v S → B ≤ x ∧ x < w.heap.size := by
  intro x hx
  rcases mem_foot.1 hx with h | h
  · exact D.wr.lt x h
  · exact World.ownsRow.lt D.own x h
theorem Duo.kept {w w' : World} {wb B : Nat} {v : Value} {zs : List Int} {S T : List Nat} (D : Duo w wb B v zs S) (k : Kept T w w') (hd : ∀ x, x ∈ foot v S → x ∉ T) : Duo w' wb B v zs S :=
  ⟨D.wr.kept k fun x hx => hd x (mem_foot.2 (Or.inl hx)), D.own.kept k fun x hx => hd x (mem_foot.2 (Or.inr hx)), D.dis⟩
theorem Duo.box {w w' : World} {wb B : Nat} {v : Value} {zs : List Int} {S : List Nat} (D : Duo w wb B v zs S) (k : Kept [] w w') : Duo w' wb B v zs S := D.kept k fun _ _ => by simp

/-- What a step leaves of both. -/
structure DuoTo (w w' : World) (wb B : Nat) (v : Value) (S : List Nat) (v' : Value) (zs' : List Int) (S' : List Nat) : Prop where
  duo : Duo w' wb B v' zs' S'
  kept : Kept (foot v S) w w'
  new : ∀ x, x ∈ foot v' S' → x ∈ foot v S ∨ w.heap.size ≤ x

theorem Wrote.k {w w' : World} {wb B : Nat} {zs : List Int} {S : List Nat} (h : Wrote w w' wb B zs S) : Kept S w w' := h.elim fun _ q => q.2.1

/-- Both have been laid to: the Writer first, then the list. -/
theorem Duo.lay {w w2 w3 w4 : World} {wb B : Nat} {v v' : Value} {zs us : List Int} {S : List Nat} (D : Duo w wb B v zs S) (hw : Wrote w w2 wb B us S) (k3 : Kept [] w2 w3) (ha : Appended w3 w4 B v v' us) :
    ∃ S', DuoTo w w4 wb B v S v' us S' := by
  obtain ⟨S', hW, kS, hS⟩ := hw
  have hv : ∀ x, v.ownBlock = some x → x < w.heap.size := fun x hx => (World.ownsRow.lt D.own x hx).2
  have ka : Kept v.ownBlock.toList w3 w4 := ha.keep w3 _ (Kept.refl _ _) fun k hk => Or.inl (by simp [hk])
  have h32 : w.heap.size ≤ w3.heap.size := Nat.le_trans kS.size k3.size
  have hdis : ∀ x, x ∈ S' → x ∉ v.ownBlock.toList := by
    intro x hx hm
    have hm : v.ownBlock = some x := by simpa using hm
    rcases hS x hx with h | h
    · exact D.dis x hm h
    · exact absurd (hv x hm) (by omega)
  refine ⟨S', ⟨(hW.kept k3 (by simp)).kept ka hdis, ha.own, fun x hx hm => ?_⟩, ?_, fun x hx => ?_⟩
  · rcases ha.at' with h | h
    · exact hdis x hm (by rw [← h, hx]; simp)
    · rw [h] at hx
      injection hx with hx
      have := (hW.lt x hm).2
      have := k3.size
      omega
  · exact ((kS.more fun x hx => mem_foot.2 (Or.inl hx)).then (k3.more (by simp))).then (ka.more fun x hx => mem_foot.2 (Or.inr (by simpa using hx)))
  · rcases mem_foot.1 hx with h | h
    · rcases hS x h with h | h
      · exact Or.inl (mem_foot.2 (Or.inl h))
      · exact Or.inr h
    · rcases ha.at' with e | e
      · exact Or.inl (mem_foot.2 (Or.inr (e ▸ h)))
      · rw [e] at h
        injection h with h
        exact Or.inr (by omega)

theorem DuoTo.same {w : World} {wb B : Nat} {v : Value} {zs : List Int} {S : List Nat} (D : Duo w wb B v zs S) : DuoTo w w wb B v S v zs S := ⟨D, Kept.refl _ _, fun _ hx => Or.inl hx⟩
/-- New memory ahead of the step. -/
theorem DuoTo.ahead {w w1 w2 : World} {wb B : Nat} {v v' : Value} {zs : List Int} {S S' : List Nat} (k : Kept [] w w1) (h : DuoTo w1 w2 wb B v S v' zs S') : DuoTo w w2 wb B v S v' zs S' :=
  ⟨h.duo, (k.more (by simp)).then h.kept, fun x hx => (h.new x hx).imp id fun h1 => Nat.le_trans k.size h1⟩
/-- Another new block written to behind it. -/
theorem DuoTo.behind {w w1 w2 w3 : World} {wb B g : Nat} {v v' : Value} {zs : List Int} {S S' : List Nat} (D : Duo w wb B v zs S) {zs' : List Int} (k : Kept [] w w1) (h : DuoTo w1 w2 wb B v S v' zs' S') (hg0 : w.heap.size ≤ g) (hg1 : g < w1.heap.size) (k3 : Kept [g] w2 w3) :
    DuoTo w w3 wb B v S v' zs' S' := by
  refine ⟨h.duo.kept k3 fun x hx hm => ?_, ((k.more (by simp)).then h.kept).trans k3 fun x hx => Or.inr (by simp at hx; omega), fun x hx => (h.new x hx).imp id fun h1 => Nat.le_trans k.size h1⟩
  have hm : x = g := by simpa using hm
  subst hm
  rcases h.new x hx with h | h
  · exact absurd (D.lt x h).2 (by omega)
  · omega

/-- What 'writes' comes to. -/
def WritesTo (w w' : World) (wb B : Nat) (v : Value) (zs : List Int) (S : List Nat) (m : Nat) (e : Ending) : Prop :=
  ∃ v' zs' S', e = .returned (.tuple #[v', .bool true]) ∧ DuoTo w w' wb B v S v' zs' S' ∧ zs'.length ≤ zs.length + m + 10

theorem fill_up (ob : List Int) (k : Nat) (h : k < ob.length) : (List.replicate k 238 ++ ob.drop k).set k 238 = List.replicate (k + 1) 238 ++ ob.drop (k + 1) := by
  rw [List.set_append_right _ _ (by simp), List.length_replicate, Nat.sub_self, List.drop_eq_getElem_cons h, List.set_cons_zero, List.replicate_succ', List.append_assoc]
  rfl
/-- What the op's own box holds, whatever has been written elsewhere. -/
theorem Kept.boxed {w w1 : World} {c : Array Value} {t : TypeId} {T : List Nat} (h : Kept T (w.alloc (.cells c t)) w1) (hr : w.heap.size ∉ T) :
    w.heap.size < w1.heap.size ∧ (∀ o, w1.cell? ⟨w.heap.size, o, none⟩ = c[o]?) := by
  have hb : w1.heap[w.heap.size]? = some (.cells c t (0, 0)) := h.heap (heap_alloc_new w _) hr
  exact ⟨lt_of_block hb, fun o => cell_of_row _ _ _ _ _ _ hb⟩
end Go.Proofs.Ytmambfdfkobjgaa
