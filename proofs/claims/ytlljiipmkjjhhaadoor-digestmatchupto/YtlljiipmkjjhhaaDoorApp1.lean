/-
  THE BOOK's lists: blocks that hold a mark, and what an append to one of them does.
  'append(l, x)' where l is a list of one's own, of elements of one cell.
-/
import Derived.Test.YtlljiipmkjjhhaaDoorBk0
import Derived.Test.YtlljiipmkjjhhaaDoorBase
import Derived.Test.YtlljiipmkjjhhaaDoorProg
import Derived.Test.YtlljiipmkjjhhaaDoorSha1
import Derived.Maps.AppendAt
namespace Go.Proofs.YtlljiipmkjjhhaaDoor
open Go.RowKit

/-- A block of the book: its mark, how far it is marked, its size. -/
structure MB where
  m : Int
  e : Nat
  s : Nat
structure Blks (W : World) (B : Nat) (D : Nat → Option MB) (S : List Nat) : Prop where
  dom : ∀ g b, D g = some b → g ∈ S
  rng : ∀ x, x ∈ S → B ≤ x ∧ x < W.heap.size
  row : ∀ g b, D g = some b → ∃ cur : Array Value, W.heap[g]? = some (.cells cur 5 (0, 0)) ∧ cur.size = b.s ∧ b.e ≤ b.s ∧ b.s ≤ maxLen ∧ ∀ i, i < b.e → cur[i]? = some (.int .u8 (atM b.m i))
/-- A list of the book. -/
structure Ent where
  v : Value
  m : Int
  n : Nat
def EntIn (D : Nat → Option MB) (x : Ent) : Prop := (x.v = .slice none 0 0 ∧ x.n = 0) ∨ ∃ g cap ext, x.v = .slice (some ⟨g, 0, none⟩) x.n cap ∧ D g = some ⟨x.m, ext, cap⟩ ∧ x.n ≤ ext

theorem Blks.kept {W W' : World} {B : Nat} {D : Nat → Option MB} {S T : List Nat} (P : Blks W B D S) (k : Kept T W W') (hd : ∀ x, x ∈ S → x ∉ T) : Blks W' B D S := by
  refine ⟨P.dom, fun x hx => ⟨(P.rng x hx).1, Nat.lt_of_lt_of_le (P.rng x hx).2 k.size⟩, fun g b hb => ?_⟩
  obtain ⟨cur, h1, h2⟩ := P.row g b hb
  exact ⟨cur, k.heap h1 (hd g (P.dom g b hb)), h2⟩
theorem EntIn.own {W : World} {B : Nat} {D : Nat → Option MB} {S : List Nat} {x : Ent} (h : EntIn D x) (P : Blks W B D S) : OwnB W B x.v (marks x.m x.n) := by
  rcases h with ⟨h1, h2⟩ | ⟨g, cap, ext, h1, h2, h3⟩
  · rw [h1, h2]
    exact World.ownsRow_nil _ _ _ _
  · obtain ⟨cur, c1, c2, c3, c4, c5⟩ := P.row g _ h2
    refine ⟨by rw [List.length_map, marks_len, Nat.mul_one], Or.inr ⟨g, cap, cur, by rw [marks_len]; exact h1, (P.rng g (P.dom g _ h2)).1, c1, by rw [marks_len]; exact Nat.le_trans h3 c3, c4, by rw [Nat.mul_one]; exact c2, ?_⟩⟩
    rw [marks_len, Nat.mul_one]
    apply List.ext_getElem?
    intro i
    by_cases hi : i < x.n
    · rw [List.getElem?_take_of_lt hi, Array.getElem?_toList, c5 i (by dsimp only; omega), List.getElem?_map, marks_get _ _ _ hi]
      rfl
    · rw [List.getElem?_take_eq_none (by omega), List.getElem?_eq_none (by rw [List.length_map, marks_len]; omega)]
def upd (D : Nat → Option MB) (g : Nat) (b : MB) : Nat → Option MB := fun x => if x = g then some b else D x
theorem upd_same (D : Nat → Option MB) (g : Nat) (b : MB) : upd D g b g = some b := if_pos rfl
theorem upd_other (D : Nat → Option MB) {g x : Nat} (b : MB) (h : x ≠ g) : upd D g b x = D x := if_neg h

/-- A new block. -/
theorem Blks.fresh {W W' : World} {B : Nat} {D : Nat → Option MB} {S : List Nat} (P : Blks W B D S) (hB : B ≤ W.heap.size) (k : Kept [] W W') {b : MB} {cur : Array Value} (h : W'.heap[W.heap.size]? = some (.cells cur 5 (0, 0))) (hs : cur.size = b.s) (he : b.e ≤ b.s) (hm : b.s ≤ maxLen) (hc : ∀ i, i < b.e → cur[i]? = some (.int .u8 (atM b.m i))) :
    Blks W' B (upd D W.heap.size b) (W.heap.size :: S) ∧ ∀ x, EntIn D x → EntIn (upd D W.heap.size b) x := by
  have hn : ∀ g c, D g = some c → g ≠ W.heap.size := fun g c hg => by have := (P.rng g (P.dom g c hg)).2; omega
  have P1 := P.kept k (fun _ _ => by simp)
  refine ⟨⟨fun g c hg => ?_, fun x hx => ?_, fun g c hg => ?_⟩, fun x hx => ?_⟩
  · by_cases e : g = W.heap.size
    · simp [e]
    · rw [upd_other D b e] at hg
      exact List.mem_cons_of_mem _ (P.dom g c hg)
  · rcases List.mem_cons.1 hx with e | e
    · rw [e]; exact ⟨hB, lt_of_block h⟩
    · exact P1.rng x e
  · by_cases e : g = W.heap.size
    · rw [e, upd_same] at hg
      cases hg
      rw [e]
      exact ⟨cur, h, hs, he, hm, hc⟩
    · rw [upd_other D b e] at hg
      exact P1.row g c hg
  · rcases hx with h1 | ⟨g, cap, ext, h1, h2, h3⟩
    · exact Or.inl h1
    · exact Or.inr ⟨g, cap, ext, h1, by rw [upd_other D b (hn g _ h2)]; exact h2, h3⟩
/-- A block that is marked farther. -/
theorem Blks.more {W W' : World} {B : Nat} {D : Nat → Option MB} {S : List Nat} (P : Blks W B D S) {g : Nat} {b : MB} (hg : D g = some b) (k : Kept [g] W W') {e : Nat} {cur : Array Value} (h : W'.heap[g]? = some (.cells cur 5 (0, 0))) (hs : cur.size = b.s) (he : e ≤ b.s) (hbe : b.e ≤ e) (hc : ∀ i, i < e → cur[i]? = some (.int .u8 (atM b.m i))) :
    Blks W' B (upd D g ⟨b.m, e, b.s⟩) S ∧ ∀ x, EntIn D x → EntIn (upd D g ⟨b.m, e, b.s⟩) x := by
  obtain ⟨_, _, _, _, hm, _⟩ := P.row g b hg
  refine ⟨⟨fun x c hx => ?_, fun x hx => ⟨(P.rng x hx).1, Nat.lt_of_lt_of_le (P.rng x hx).2 k.size⟩, fun x c hx => ?_⟩, fun x hx => ?_⟩
  · by_cases e1 : x = g
    · rw [e1]; exact P.dom g b hg
    · rw [upd_other D _ e1] at hx
      exact P.dom x c hx
  · by_cases e1 : x = g
    · rw [e1, upd_same] at hx
      cases hx
      rw [e1]
      exact ⟨cur, h, hs, he, hm, hc⟩
    · rw [upd_other D _ e1] at hx
      obtain ⟨cu, h1, h2⟩ := P.row x c hx
      exact ⟨cu, k.heap h1 (by simpa using e1), h2⟩
  · rcases hx with h1 | ⟨y, cap, ext, h1, h2, h3⟩
    · exact Or.inl h1
    · by_cases e1 : y = g
      · subst e1
        rw [hg] at h2
        cases h2
        exact Or.inr ⟨y, cap, e, h1, upd_same _ _ _, Nat.le_trans h3 hbe⟩
      · exact Or.inr ⟨y, cap, ext, h1, by rw [upd_other D _ e1]; exact h2, h3⟩

end Go.Proofs.YtlljiipmkjjhhaaDoor

namespace Go.Proofs.YtlljiipmkjjhhaaDoor
open Go.RowKit

theorem owns_row {w : World} {B : Nat} {e : TypeId} {n : Nat} {v : Value} {xs : List Value} (h : w.ownsRow B e 1 v n xs) {g : Nat} (hg : v.ownBlock = some g) : ∃ cur, w.heap[g]? = some (.cells cur e (0, 0)) := by
  rcases h.2 with ⟨hv, _⟩ | ⟨g', cap', cur, hv, _, hh, _⟩
  · rw [hv] at hg; cases hg
  · rw [hv] at hg
    cases hg
    exact ⟨cur, hh⟩
end Go.Proofs.YtlljiipmkjjhhaaDoor
