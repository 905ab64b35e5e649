/-
  A CROWD of Hashes in memory, and the list that names them.
-/
import Derived.Test.YtbhhkonhoknifaaDoorDSt0
import Derived.Test.YtbhhkonhoknifaaDoorStep
namespace Go.Proofs.YtbhhkonhoknifaaDoor
open Go.RowKit

theorem Tryd.info_ph : (Tryd.prog.info? 22).map (fun i => (i.zero, i.size, i.bytes)) = some (some (.pointer none), 1, 8) := by kernel_rfl

/-- Pointers to these blocks. -/
def ptrL (hs : List Nat) : List Value := hs.map fun b => .pointer (some ⟨b, 0, none⟩)

structure Crowd (w W : World) (bx : Array Value) (v4 : Value) (hs : List Nat) (cont : Nat → List Int) : Prop where
  box : W.heap[w.heap.size]? = some (.cells bx 34 (0, 0))
  own : W.ownsRow (w.heap.size + 1) 22 1 v4 hs.length (ptrL hs)
  nodup : hs.Nodup
  hash : ∀ i b, hs[i]? = some b → HashX W b (cont i)
  old : ∀ b, b ∈ hs → w.heap.size < b
  apart : ∀ g, v4.ownBlock = some g → g ∉ hs
  kept : Kept [] w W

theorem nodup_at {hs : List Nat} (h : hs.Nodup) {i j b : Nat} (hi : hs[i]? = some b) (hj : hs[j]? = some b) : i = j := by
  obtain ⟨a, ha⟩ := List.getElem?_eq_some_iff.1 hi
  obtain ⟨c, hc⟩ := List.getElem?_eq_some_iff.1 hj
  rcases Nat.lt_trichotomy i j with q | q | q
  · exact absurd (ha.trans hc.symm) (List.pairwise_iff_getElem.1 h i j a c q)
  · exact q
  · exact absurd (hc.trans ha.symm) (List.pairwise_iff_getElem.1 h j i c a q)
theorem ownsRow_kept {W W' : World} {B : Nat} {ty : TypeId} {v : Value} {n : Nat} {xs : List Value} {S : List Nat} (h : W.ownsRow B ty 1 v n xs) (k : Kept S W W') (hd : ∀ x, v.ownBlock = some x → x ∉ S) : W'.ownsRow B ty 1 v n xs := by
  refine ⟨h.1, ?_⟩
  rcases h.2 with hn | ⟨g, cap', cur, hv, hg, hh, rest⟩
  · exact Or.inl hn
  · refine Or.inr ⟨g, cap', cur, hv, hg, k.heap hh (hd g ?_), rest⟩
    rw [hv]; rfl
theorem Crowd.next {w W W' : World} {bx : Array Value} {v4 : Value} {hs : List Nat} {cont : Nat → List Int} (c : Crowd w W bx v4 hs cont) (k : Kept [] W W') : Crowd w W' bx v4 hs cont :=
  ⟨k.heap c.box (by simp), ownsRow_kept c.own k (by simp), c.nodup, fun i b hb => (c.hash i b hb).kept k (by simp), c.old, c.apart, c.kept.then k⟩
theorem Crowd.write {w W W' : World} {bx : Array Value} {v4 : Value} {hs : List Nat} {cont cont' : Nat → List Int} (c : Crowd w W bx v4 hs cont) {i b : Nat} (hb : hs[i]? = some b) (k : Kept [b] W W') (hX : HashX W' b (cont' i)) (hc : ∀ j, j ≠ i → cont' j = cont j) : Crowd w W' bx v4 hs cont' := by
  have hm := List.mem_of_getElem? hb
  have ho := c.old b hm
  refine ⟨k.heap c.box (by simp; omega), ownsRow_kept c.own k (fun x hx h => c.apart x hx (by simp at h; rw [h]; exact hm)), c.nodup, fun j d hd => ?_, c.old, c.apart, c.kept.trans k (fun x hx => Or.inr (by simp at hx; omega))⟩
  by_cases hj : j = i
  · subst hj
    obtain rfl : d = b := Option.some.inj (hd.symm.trans hb)
    exact hX
  · rw [hc j hj]
    refine (c.hash j d hd).kept k (by
      simp
      rintro rfl
      exact hj (nodup_at c.nodup hd hb))
theorem Crowd.more {w W : World} {bx : Array Value} {v4 : Value} {hs : List Nat} {cont cont' : Nat → List Int} (c : Crowd w W bx v4 hs cont) (hc : ∀ j, j < hs.length → cont' j = cont j) : Crowd w W bx v4 hs cont' :=
  ⟨c.box, c.own, c.nodup, fun i b hb => by rw [hc i (List.getElem?_eq_some_iff.1 hb).1]; exact c.hash i b hb, c.old, c.apart, c.kept⟩
theorem Crowd.lt {w W : World} {bx : Array Value} {v4 : Value} {hs : List Nat} {cont : Nat → List Int} (c : Crowd w W bx v4 hs cont) : ∀ b, b ∈ hs → b < W.heap.size := fun b hb => by
  obtain ⟨i, hi, rfl⟩ := List.mem_iff_getElem.1 hb
  exact (c.hash i _ (List.getElem?_eq_getElem hi)).lt
/-- One Hash more. -/
theorem Crowd.add {w W W1 W2 W3 : World} {bx : Array Value} {v4 v' : Value} {hs : List Nat} {cont : Nat → List Int} {o : Obj} (c : Crowd w W bx v4 hs cont) (k1 : Kept [] W W1) (hX : HashX W1 W.heap.size (cont hs.length)) (e2 : W2 = W1.alloc o)
    (hown : W3.ownsRow (w.heap.size + 1) 22 1 v' (hs.length + 1) (ptrL hs ++ [.pointer (some ⟨W.heap.size, 0, none⟩)])) (hg : W2.grownBy W3 v4.ownBlock) (hat : v'.ownBlock = v4.ownBlock ∨ v'.ownBlock = some W2.heap.size) :
    Crowd w W3 bx v' (hs ++ [W.heap.size]) cont := by
  have hbx : w.heap.size < W.heap.size := lt_of_block c.box
  have hn : W.heap.size ∉ hs := fun h => Nat.lt_irrefl _ (c.lt _ h)
  have k2 : Kept [] W W2 := by rw [e2]; exact k1.alloc _
  have hb : ∀ x, v4.ownBlock = some x → w.heap.size + 1 ≤ x ∧ x < W.heap.size := fun x hx => World.ownsRow.lt c.own x hx
  have k3 : Kept v4.ownBlock.toList W2 W3 := (Kept.refl _ W2).grown hg (fun k hk => Or.inl (by simp [hk]))
  have ha : ∀ y, y = w.heap.size ∨ y ∈ hs ∨ y = W.heap.size → y ∉ v4.ownBlock.toList := by
    intro y hy hm
    have hm : v4.ownBlock = some y := by simpa using hm
    have h1 := hb y hm
    rcases hy with rfl | hy | rfl
    · omega
    · exact c.apart y hm hy
    · omega
  refine ⟨k3.heap (k2.heap c.box (by simp)) (ha _ (Or.inl rfl)), ?_, ?_, fun i b hib => ?_, ?_, ?_, (c.kept.then k2).trans k3 (fun x hx => Or.inr (by have := (hb x (by simpa using hx)).1; omega))⟩
  · rw [List.length_append, ptrL, List.map_append]
    exact hown
  · rw [List.nodup_append]
    refine ⟨c.nodup, by simp, fun a ha' b hb' => ?_⟩
    obtain rfl : b = W.heap.size := by simpa using hb'
    rintro rfl
    exact hn ha'
  · rcases Nat.lt_or_ge i hs.length with h | h
    · rw [List.getElem?_append_left h] at hib
      exact ((c.hash i b hib).kept k2 (by simp)).kept k3 (ha _ (Or.inr (Or.inl (List.mem_of_getElem? hib))))
    · rw [List.getElem?_append_right h] at hib
      have hi : i - hs.length < 1 := by simpa using (List.getElem?_eq_some_iff.1 hib).1
      obtain rfl : i = hs.length := by omega
      obtain rfl : W.heap.size = b := by simpa using hib
      have k12 : Kept [] W1 W2 := by rw [e2]; exact (Kept.refl [] W1).alloc _
      exact (hX.kept k12 (by simp)).kept k3 (ha _ (Or.inr (Or.inr rfl)))
  · intro b hbm
    rcases List.mem_append.1 hbm with h | h
    · exact c.old b h
    · obtain rfl : b = W.heap.size := by simpa using h
      exact hbx
  · intro g hgv hgm
    have hsz : W.heap.size < W2.heap.size := by
      have h1 := hX.lt
      rw [e2]
      simp
      omega
    rcases hat with h | h
    · rw [h] at hgv
      have h1 := hb g hgv
      rcases List.mem_append.1 hgm with h2 | h2
      · exact c.apart g hgv h2
      · obtain rfl : g = W.heap.size := by simpa using h2
        omega
    · rw [h] at hgv
      obtain rfl : W2.heap.size = g := by simpa using hgv
      rcases List.mem_append.1 hgm with h2 | h2
      · have := c.lt _ h2; omega
      · have : W2.heap.size = W.heap.size := by simpa using h2
        omega
/-- The shape of the list, and what stands at a place. -/
theorem Crowd.shape {w W : World} {bx : Array Value} {v4 : Value} {hs : List Nat} {cont : Nat → List Int} (c : Crowd w W bx v4 hs cont) (h : 0 < hs.length) : ∃ g cap, v4 = .slice (some ⟨g, 0, none⟩) hs.length cap ∧ hs.length ≤ cap := by
  rcases c.own.2 with ⟨_, h0⟩ | ⟨g, cap', cur, hv, hg, hh, hnc, hcm, hcs, htk⟩
  · omega
  · exact ⟨g, cap', hv, hnc⟩
theorem Crowd.cell {w W : World} {bx : Array Value} {g cap : Nat} {hs : List Nat} {cont : Nat → List Int} (c : Crowd w W bx (.slice (some ⟨g, 0, none⟩) hs.length cap) hs cont) {i b : Nat} (hb : hs[i]? = some b) : W.cell? ⟨g, i, none⟩ = some (.pointer (some ⟨b, 0, none⟩)) := by
  have hi := (List.getElem?_eq_some_iff.1 hb).1
  rw [World.ownsRow.cellAt c.own i (by omega), ptrL, List.getElem?_map, hb]
  rfl
theorem one_new (W : World) (x : Value) (ty : TypeId) : ∀ j u, [x][j]? = some u → (W.alloc (.cells #[x] ty)).cell? ((⟨W.heap.size, 0, none⟩ : Addr).add j) = some u := by
  intro j u hj
  rw [Addr.add_mid, Nat.zero_add, cell_of_row _ _ _ _ _ _ (heap_alloc_new W _), ← Array.getElem?_toList]
  exact hj

/-- What each Hash has been given behind k rounds. -/
def contL (k j : Nat) : List Int := (List.range k).flatMap fun (q : Nat) => [(j : Int) % 256, (j : Int) / 256, (q : Int)]
theorem contL_succ (k j : Nat) : contL (k + 1) j = contL k j ++ [(j : Int) % 256, (j : Int) / 256, (k : Int)] := by
  unfold contL; rw [List.range_succ, List.flatMap_append]; simp
theorem contL_len (k j : Nat) : (contL k j).length = 3 * k := by
  induction k with
  | zero => rfl
  | succ k ih => rw [contL_succ, List.length_append, ih]; simp; omega
end Go.Proofs.YtbhhkonhoknifaaDoor
