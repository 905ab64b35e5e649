/-
  A list of structs that the library's sort has sorted, in plain words. No Go text is named here.
-/
import Derived.Test.YtmjbaficdoehfaaRows0
import Derived.Shelf.SlSortCmp.InsertionK
namespace Go.Proofs.Ytmjbaficdoehfaa
open Go.RowKit Go.Shelf Go.Lib Go.Sort
section
variable {α : Type} [Inhabited α]
theorem perm_of_in {d d' : Array α} (h : PermIn 0 d.size d d') : d'.toList.Perm d.toList := by
  obtain ⟨h1, _, h3⟩ := h
  have e1 : d'.extract 0 d.size = d' := by rw [← h1]; exact Array.extract_size
  have e2 : d.extract 0 d.size = d := Array.extract_size
  rw [e1, e2] at h3
  exact h3
theorem sorted_of_in {lt : α → α → Bool} {d : Array α} {n : Nat} (hn : n = d.size) (h : SortedIn lt 0 n d) : d.toList.Pairwise (fun a b => lt b a = false) := by
  rw [List.pairwise_iff_getElem]
  intro i j hi hj hij
  have hi' : i < d.size := by simpa using hi
  have hj' : j < d.size := by simpa using hj
  have := h i j (Nat.zero_le _) hij (by omega)
  rw [getElem!_pos d i hi', getElem!_pos d j hj'] at this
  simpa using this
theorem sortK_kept (enc : α → List Value) (k : Nat) (w : World) (blk n : Nat) (d : Array α) (os : Array Obj) : Kept [blk] w (sortWorldK enc k w blk 0 n d os) := by
  have e : (putRow id (Sort.ahead w n) blk 0 (flatK enc k d)).heap.size = w.heap.size := by simp [putRow, mapBlock, Sort.ahead]
  refine ⟨rfl, rfl, rfl, ?_, fun i hi hn => ?_⟩
  · show w.heap.size ≤ (grow (putRow id (Sort.ahead w n) blk 0 (flatK enc k d)) os).heap.size
    rw [size_grow, e]
    omega
  · show (grow (putRow id (Sort.ahead w n) blk 0 (flatK enc k d)) os).heap[i]? = _
    rw [heap_grow_old _ _ (by rw [e]; exact hi)]
    show (w.heap.modify blk (onCells _))[i]? = _
    rw [Array.getElem?_modify, if_neg (fun e => hn (by simp [e]))]
theorem holdsK_own {enc : α → List Value} {k : Nat} (hk : ∀ x, (enc x).length = k) (h0 : 0 < k) {w : World} {B g cap : Nat} {t : TypeId} {L : List α} (h : w.ownsRow B t k (.slice (some ⟨g, 0, none⟩) L.length cap) L.length (L.map enc).flatten) : HoldsK enc k w g 0 L.toArray ∧ ∃ c, w.heap[g]? = some (.cells c t (0, 0)) := by
  obtain ⟨hl, ⟨hv, _⟩ | ⟨g', cap', cur, hv, hB, hg, h1, h2, h3, h4⟩⟩ := h
  · cases hv
  · injection hv with hv1 hv2 hv3
    injection hv1 with hv1
    injection hv1 with hv1 _ _
    subst hv1
    refine ⟨fun j hj => ?_, _, hg⟩
    have hj2 : j < L.length * k := by simpa using hj
    have hr : ∀ r, r ∈ L.map enc → r.length = k := fun r hr => by
      obtain ⟨x, _, rfl⟩ := List.mem_map.1 hr
      exact hk x
    have hi : j / k < L.length := Nat.div_lt_of_lt_mul (by rw [Nat.mul_comm]; exact hj2)
    have hm : j % k < k := Nat.mod_lt _ h0
    have e1 : (L.map enc).flatten[j]? = some (enc L[j / k])[j % k]! := by
      rw [flat_bind k h0 _ hr, List.getElem?_map, List.getElem?_eq_getElem hi]
      show (enc L[j / k])[j % k]? = _
      rw [List.getElem?_eq_getElem (by rw [hk]; exact hm), getElem!_pos _ _ (by rw [hk]; exact hm)]
    rw [cell_of_row _ _ _ _ _ _ hg, frozen_of_row _ _ _ _ _ hg]
    refine ⟨?_, rfl⟩
    rw [Nat.zero_add, get_flatK _ _ _ _ (by simpa using hj2)]
    rw [← h4, List.getElem?_take_of_lt (by exact hj2)] at e1
    rw [← Array.getElem?_toList, e1]
    simp [hi]
theorem rows_of_holdsK {enc : α → List Value} {k : Nat} (hk : ∀ x, (enc x).length = k) {w : World} {g : Nat} {d : Array α} (h : HoldsK enc k w g 0 d) : ∀ i x, d.toList[i]? = some x → w.rangeAt g (i * k) (enc x) := fun i x hx j v hv => by
  have hi : i < d.size := by simpa using (List.getElem?_eq_some_iff.1 hx).1
  have hj : j < k := by rw [← hk x]; exact (List.getElem?_eq_some_iff.1 hv).1
  have h1 := (h.cell hi hj).1
  rw [Nat.zero_add] at h1
  rw [h1]
  have e : d[i]! = x := by
    rw [getElem!_pos d i hi]
    have := List.getElem?_eq_some_iff.1 hx
    simpa using this.2
  rw [e, getElem!_pos _ _ (by rw [hk]; exact hj)]
  obtain ⟨_, h2⟩ := List.getElem?_eq_some_iff.1 hv
  rw [h2]
end
end Go.Proofs.Ytmjbaficdoehfaa
