/-
  (*store.Store).rows: the store's rows, sorted by their ids.
-/
import Derived.Test.YtmhbadkejhbbmaaGreatDoorRw1
import Derived.Test.YtmhbadkejhbbmaaGreatDoorRwS
import Derived.Test.YtmhbadkejhbbmaaGreatDoorSoK
namespace Go.Proofs.YtmhbadkejhbbmaaGreatDoor
open Go.RowKit Go.WideMaps Go.Sort

/-- The rows as they lie in a block of their own. -/
structure RowsB (w : World) (g : Nat) (L : List RowE) : Prop where
  tag : ∃ c, w.heap[g]? = some (.cells c 89 (0, 0))
  cells : ∀ i r, L[i]? = some r → w.rangeAt g (i * 33) (encRow r)
theorem RowsB.same {w w' : World} {g : Nat} {L : List RowE} (h : RowsB w g L) (he : w'.heap[g]? = w.heap[g]?) : RowsB w' g L :=
  ⟨by rw [he]; exact h.tag, fun i r hr j v hv => (World.cell?_of_block (w := w) (a := ⟨g, i * 33 + j, none⟩) he).trans (h.cells i r hr j v hv)⟩
/-- Each id is told once, the least first. -/
def SortedIds (L : List (List Int)) : Prop := L.Pairwise (fun a b => cmpB a b < 0)
theorem Rows_any {w : World} {s b n : Nat} {D : DataW Unit} (h : St w s b n D) (hn : n ≤ 1000000) :
    Calls Tryz.prog 42 #[.pointer (some ⟨s, 0, none⟩)] w fun e w' => ∃ g cap L, e = .returned (.slice (some ⟨g, 0, none⟩) L.length cap) ∧ L.length ≤ 1000000 ∧ RowsB w' g L ∧ RowsOf D L ∧ SortedIds (L.map (·.xs)) ∧ w.heap.size ≤ g ∧ Kept [] w w' := by
  refine rows_any h hn fun W g cap L hL kW hg hown hlen => ?_
  obtain ⟨hH, c, hc⟩ := holdsK_own encRow_len (by decide) hown
  have hs := sortRows_any g 0 cap L.toArray W hH (lt_of_block hc) (by rw [List.size_toArray]; omega)
  rw [List.size_toArray] at hs
  refine hs.mono ?_
  rintro e w' ⟨rfl, d', m, os, hp, hso, rfl⟩
  refine ⟨rfl, g, cap, d'.toList, ?_, ?_, ?_, ?_, ?_, hg, ?_⟩
  · have : d'.toList.length = L.length := by have := hp.1; simpa using this
    rw [this]
  · have : d'.toList.length = L.length := by have := hp.1; simpa using this
    omega
  · obtain ⟨c', hc'⟩ := sortK_heap encRow 33 W g m d' os hc
    exact ⟨⟨c', hc'⟩, rows_of_holdsK encRow_len (holdsK_sortWorldK_c (enc := encRow) (k := 33) (w := W) (blk := g) (off := 0) L.toArray d' m os hH (lt_of_block hc) hp.1)⟩
  · exact hL.perm (by have := perm_of_in (d := L.toArray) (d' := d') (by rw [List.size_toArray]; exact hp); simpa using this)
  · have hperm : d'.toList.Perm L := by have := perm_of_in (d := L.toArray) (d' := d') (by rw [List.size_toArray]; exact hp); simpa using this
    have h1 := sorted_of_in (d := d') (n := L.length) (by have := hp.1; simpa using this.symm) hso
    have h2 := (hL.perm hperm).apart
    unfold SortedIds
    rw [List.pairwise_map]
    refine (h1.and h2).imp fun {a c} hh => ?_
    obtain ⟨q1, q2⟩ := hh
    simp only [ltOf, decide_eq_false_iff_not] at q1
    rcases cmpB_ge q1 with q | q
    · exact q
    · exact absurd q.symm q2
  · exact kept_newP kW (sortK_kept encRow 33 W g m d' os) hg
end Go.Proofs.YtmhbadkejhbbmaaGreatDoor
