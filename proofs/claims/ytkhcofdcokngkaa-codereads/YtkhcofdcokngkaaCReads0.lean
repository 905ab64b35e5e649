/-
  Two pairs of Readers side by side, each in memory of its own; a list that is overwritten.
-/
import Derived.Test.YtkhcofdcokngkaaRead
import Derived.Test.YtkhcofdcokngkaaLend
namespace Go.Proofs.Ytkhcofdcokngkaa
open Go.RowKit

/-- p and q point to a pair over xs, all of whose blocks lie from lo to hi. -/
structure PairIn (w : World) (lo hi : Nat) (p q : Value) (xs : List Int) (r g b h : Nat) : Prop where
  pe : p = .pointer (some ⟨r, 0, none⟩)
  qe : q = .pointer (some ⟨b, 0, none⟩)
  pair : ∃ pl f, Pair w r g b h xs pl f
  r0 : lo ≤ r
  r1 : r < hi
  g0 : lo ≤ g
  g1 : g < hi
  b0 : lo ≤ b
  b1 : b < hi
  h0 : lo ≤ h
  h1 : h < hi

theorem PairIn.kept {w w' : World} {lo hi : Nat} {p q : Value} {xs : List Int} {r g b h : Nat} {S : List Nat} (P : PairIn w lo hi p q xs r g b h) (k : Kept S w w') (hS : ∀ x, x ∈ S → x < lo ∨ hi ≤ x) : PairIn w' lo hi p q xs r g b h := by
  obtain ⟨pl, f, hp⟩ := P.pair
  have out : ∀ x, lo ≤ x → x < hi → x ∉ S := fun x h1 h2 hx => by rcases hS x hx with h | h <;> omega
  exact ⟨P.pe, P.qe, ⟨pl, f, hp.kept k (out _ P.r0 P.r1) (out _ P.g0 P.g1) (out _ P.b0 P.b1) (out _ P.h0 P.h1)⟩, P.r0, P.r1, P.g0, P.g1, P.b0, P.b1, P.h0, P.h1⟩

/-- One of two cells of a row is written. -/
theorem two_set0 {w : World} {k : Nat} {t : TypeId} {a b : Value} (h : w.heap[k]? = some (.cells #[a, b] t (0, 0))) (u : Value) : (w.setCell ⟨k, 0, none⟩ u).heap[k]? = some (.cells #[u, b] t (0, 0)) :=
  (heap_setCell_same _ _ _ _ _ _ h).trans rfl
theorem two_set1 {w : World} {k : Nat} {t : TypeId} {a b : Value} (h : w.heap[k]? = some (.cells #[a, b] t (0, 0))) (u : Value) : (w.setCell ⟨k, 1, none⟩ u).heap[k]? = some (.cells #[a, u] t (0, 0)) :=
  (heap_setCell_same _ _ _ _ _ _ h).trans rfl

/-- The block g holds a row of n cells at least. -/
def Wide (w : World) (g n : Nat) : Prop := ∃ cur, w.heap[g]? = some (.cells cur 5 (0, 0)) ∧ n ≤ cur.size
theorem Wide.cell {w : World} {g n : Nat} (h : Wide w g n) (j : Nat) (hj : j < n) : (∃ u, w.cell? ⟨g, j, none⟩ = some u) ∧ w.frozen? ⟨g, j, none⟩ = false := by
  obtain ⟨cur, hh, hn⟩ := h
  refine ⟨⟨cur[j]'(by omega), ?_⟩, frozen_of_row _ _ _ _ _ hh⟩
  rw [cell_of_row _ _ _ _ _ _ hh]
  exact Array.getElem?_eq_getElem (by omega)
theorem Wide.set {w : World} {g n : Nat} (h : Wide w g n) (j : Nat) (u : Value) : Wide (w.setCell ⟨g, j, none⟩ u) g n := by
  obtain ⟨cur, hh, hn⟩ := h
  exact ⟨_, heap_setCell_same _ _ _ _ _ _ hh, by simpa using hn⟩
theorem Lent.wide {w : World} {B g cap : Nat} {ys : List Int} (h : Lent w B g cap ys) : Wide w g ys.length := by
  rcases h.2 with ⟨h1, h2⟩ | ⟨g', cap', cur, hv, hg, hh, hnc, hcm, hcs, htk⟩
  · cases h1
  · injection hv with a1 a2 a3
    injection a1 with a1
    injection a1 with a1
    subst a1
    refine ⟨cur, hh, ?_⟩
    rw [List.length_append] at hnc
    simp only [Nat.mul_one] at hcs
    omega
end Go.Proofs.Ytkhcofdcokngkaa
