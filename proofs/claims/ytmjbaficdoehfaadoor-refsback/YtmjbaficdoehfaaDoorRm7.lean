/-
  CONTRACTS: lists of texts cloned, sorted, each once.
-/
import Derived.Test.YtmjbaficdoehfaaDoorRm6
import Derived.Test.YtmjbaficdoehfaaDoorRc0
import Derived.Test.YtmjbaficdoehfaaDoorShSrt
namespace Go.Proofs.YtmjbaficdoehfaaDoor
open Go.RowKit Go.Sort

theorem holds_kept {w w' : World} {g : Nat} {d : Array (List UInt8)} {T : List Nat} (h : Holds encStr w g 0 d) (hg : g < w.heap.size) (k : Kept T w w') (hT : g ∉ T) : Holds encStr w' g 0 d := fun j hj => by
  have hb := k.block g hg hT
  obtain ⟨h1, h2⟩ := h j hj
  constructor
  · rw [← h1]
    unfold World.cell?
    simp only [hb]
  · rw [← h2]
    unfold World.frozen?
    simp only [hb]
theorem putRow_kept (w0 w : World) (g : Nat) (d : Array (List UInt8)) (h : Kept [g] w0 w) : Kept [g] w0 (putRow encStr w g 0 d) :=
  h.then ⟨rfl, rfl, rfl, by simp [putRow, mapBlock], fun i _ hn => by
    show (w.heap.modify g (onCells _))[i]? = _
    rw [Array.getElem?_modify, if_neg (fun e => hn (by simp [e]))]⟩
theorem grow_kept (w : World) (S : List Nat) (os : Array Obj) : Kept S w (grow w os) :=
  ⟨rfl, rfl, rfl, by rw [size_grow]; omega, fun i hi _ => heap_grow_old _ _ hi⟩
theorem ahead_kept (w : World) (S : List Nat) (n : Nat) : Kept S w (Sort.ahead w n) := ⟨rfl, rfl, rfl, Nat.le_refl _, fun _ _ _ => rfl⟩
theorem holds_heap {w w' : World} {g : Nat} {d : Array (List UInt8)} (h : Holds encStr w g 0 d) (he : w'.heap[g]? = w.heap[g]?) : Holds encStr w' g 0 d := fun j hj => by
  obtain ⟨h1, h2⟩ := h j hj
  constructor
  · rw [← h1]
    unfold World.cell?
    simp only [he]
  · rw [← h2]
    unfold World.frozen?
    simp only [he]
theorem holds_pre {w : World} {g : Nat} {a b : List (List UInt8)} (h : Holds encStr w g 0 (a ++ b).toArray) : Holds encStr w g 0 a.toArray := fun j hj => by
  have hj' : j < a.length := by simpa using hj
  have h1 := h j (by simp; omega)
  have e : (a ++ b).toArray[j]! = a.toArray[j]! := by
    rw [getElem!_pos _ j (by simp; omega), getElem!_pos _ j (by simpa using hj')]
    simp [List.getElem_append_left hj']
  rwa [e] at h1
set_option maxHeartbeats 1000000 in
theorem SortS_any {w : World} {g cap : Nat} {U : List (List UInt8)} (hH : Holds encStr w g 0 U.toArray) (hg : g < w.heap.size) (hl : U.length ≤ 1000000) :
    Calls Tryd.prog 28 #[.slice (some ⟨g, 0, none⟩) U.length cap] w fun e w' => e = .returned (.tuple #[]) ∧ Holds encStr w' g 0 (U.mergeSort fun x y => decide (x ≤ y)).toArray ∧ Kept [g] w w' := by
  refine (Any.slices_Sort_string Tryd.laysSortS g 0 cap U w hH hg (by omega)).mono ?_
  rintro e w' ⟨he, n, os, rfl⟩
  have hlen : (U.mergeSort fun x y => decide (x ≤ y)).toArray.size = U.toArray.size := by simp
  have hA : Holds encStr (Sort.ahead w n) g 0 U.toArray := holds_heap hH rfl
  have hP := holds_putRow encStr (Sort.ahead w n) g 0 U.toArray (U.mergeSort fun x y => decide (x ≤ y)).toArray hA hlen
  have hk := putRow_kept w (Sort.ahead w n) g (U.mergeSort fun x y => decide (x ≤ y)).toArray (ahead_kept w [g] n)
  refine ⟨he, ?_, hk.then (grow_kept _ _ _)⟩
  exact holds_heap hP (heap_grow_old _ _ (Nat.lt_of_lt_of_le hg hk.size))
theorem CompS_any {w : World} {g cap : Nat} {U : List (List UInt8)} (hH : Holds encStr w g 0 U.toArray) (hl : U.length ≤ 1000000) (hc : U.length ≤ cap) :
    Calls Tryd.prog 29 #[.slice (some ⟨g, 0, none⟩) U.length cap] w fun e w' => e = .returned (.slice (some ⟨g, 0, none⟩) (Lib.compact U).length cap) ∧ Holds encStr w' g 0 (Lib.compact U).toArray ∧ Kept [g] w w' := by
  refine (Any.slices_Compact_string Tryd.laysCompS g 0 cap U w hH (by omega) hc).mono ?_
  rintro e w' ⟨he, q, rfl⟩
  have hle := Lib.compact_length_le U
  refine ⟨he, ?_, putRow_kept _ _ _ _ ((Kept.refl [g] w).drewN q)⟩
  exact holds_pre (holds_putRow encStr (w.drewN q) g 0 U.toArray _ (holds_heap hH rfl) (by simp; omega))

/-- A list of texts lies so. -/
def StrsAt (w : World) (v : Value) (L : List (List Int)) : Prop := ∃ ao cap, v = .slice ao L.length cap ∧ L.length ≤ cap ∧ (ao = none → cap = 0) ∧ (L ≠ [] → ∃ b off, ao = some ⟨b, off, none⟩ ∧ ∀ (i : Nat) p, L[i]? = some p → w.cell? ⟨b, off + i, none⟩ = some (.string (strOfNums p)))
theorem StrsAt.kept {w w' : World} {v : Value} {L : List (List Int)} (h : StrsAt w v L) (k : Kept [] w w') : StrsAt w' v L := by
  obtain ⟨ao, cap, h1, h2, h3, h4⟩ := h
  exact ⟨ao, cap, h1, h2, h3, fun hne => by
    obtain ⟨b, off, h5, h6⟩ := h4 hne
    exact ⟨b, off, h5, fun i p hi => k.cell (h6 i p hi) (by simp)⟩⟩
theorem own_holds {w : World} {B n : Nat} {v : Value} {U : List (List UInt8)} (h : w.ownsRow B 9 1 v n (U.map encStr)) (hn : n = U.length) (hne : U ≠ []) : ∃ g cap, v = .slice (some ⟨g, 0, none⟩) U.length cap ∧ B ≤ g ∧ g < w.heap.size ∧ U.length ≤ cap ∧ Holds encStr w g 0 U.toArray := by
  subst hn
  rcases h.2 with ⟨_, h0⟩ | ⟨g, cap', cur, hv, hg, hh, hnc, hcm, hcs, htk⟩
  · exact absurd (List.eq_nil_of_length_eq_zero h0) hne
  · refine ⟨g, cap', hv, hg, lt_of_block hh, by omega, fun j hj => ?_⟩
    have hj' : j < U.length := by simpa using hj
    rw [cell_of_row _ _ _ _ _ _ hh, frozen_of_row _ _ _ _ _ hh, ← Array.getElem?_toList, Nat.zero_add]
    refine ⟨?_, rfl⟩
    have h2 : (cur.toList.take (U.length * 1))[j]? = cur.toList[j]? := List.getElem?_take_of_lt (by omega)
    rw [← h2, htk]
    simp [hj']
theorem CloneS_any (v : Value) (L : List (List Int)) (w : World) (hv : StrsAt w v L) (hl : L.length ≤ 1000000) :
    Calls Tryd.prog 27 #[v] w fun e w' => ∃ v', e = .returned v' ∧ ((L = [] ∧ ∃ p cap, v' = .slice p 0 cap) ∨ (L ≠ [] ∧ ∃ g cap, v' = .slice (some ⟨g, 0, none⟩) (L.map bytesU).length cap ∧ w.heap.size ≤ g ∧ g < w'.heap.size ∧ (L.map bytesU).length ≤ cap ∧ Holds encStr w' g 0 (L.map bytesU).toArray)) ∧ Kept [] w w' := by
  obtain ⟨ao, cap, rfl, hcap, hnil, hc⟩ := hv
  by_cases hne : L = []
  · subst hne
    cases ao with
    | none =>
      refine (Any.slices_Clone_string_nil Tryd.laysClone _ _ w).mono ?_
      rintro e w' ⟨rfl, rfl⟩
      exact ⟨_, rfl, Or.inl ⟨rfl, _, _, rfl⟩, Kept.refl _ _⟩
    | some a =>
      refine (Any.slices_Clone_string_zero Tryd.laysClone a cap w).mono ?_
      rintro e w' ⟨v', rfl, h1, _, h3⟩
      refine ⟨v', rfl, Or.inl ⟨rfl, ?_⟩, kept_of_below h3⟩
      rcases h1.2 with ⟨h, _⟩ | ⟨g, c, _, h, _⟩
      · exact ⟨_, _, h⟩
      · exact ⟨_, _, h⟩
  · obtain ⟨b, off, rfl, hh⟩ := hc hne
    have hcl := Any.slices_Clone_string Tryd.laysClone b off L.length cap (L.map strOfNums) w (by rw [List.length_map]; exact Nat.le_refl _) (by omega) (fun j hj => by
      rw [List.length_map] at hj
      rw [hh j L[j] (List.getElem?_eq_getElem hj), List.getD_eq_getElem?_getD, List.getElem?_map, List.getElem?_eq_getElem hj]
      rfl)
    refine hcl.mono ?_
    rintro e w' ⟨v', rfl, h1, _, h3⟩
    have e1 : ((L.map strOfNums).take L.length).map Value.string = (L.map bytesU).map encStr := by
      rw [List.take_of_length_le (by rw [List.length_map]; exact Nat.le_refl _), List.map_map, List.map_map]
      refine List.map_congr_left fun p _ => ?_
      show Value.string (strOfNums p) = Value.string ⟨(bytesU p).toArray⟩
      rw [← str_of_bytes]
    rw [e1] at h1
    obtain ⟨g, cap', hv, hB, hgs, hcp, hH⟩ := own_holds h1 (by rw [List.length_map]) (by simpa using hne)
    exact ⟨v', rfl, Or.inr ⟨hne, g, cap', hv, hB, hgs, hcp, hH⟩, kept_of_below h3⟩
theorem ownsK_on' {w w' : World} {B : Nat} {e : TypeId} {k : Nat} {v : Value} {n : Nat} {xs : List Value} (h : w.ownsRow B e k v n xs) (q : Kept [] w w') : w'.ownsRow B e k v n xs := by
  obtain ⟨hl, h | ⟨g, cap, cur, hv, hB, hg, h1, h2, h3, h4⟩⟩ := h
  · exact ⟨hl, Or.inl h⟩
  · exact ⟨hl, Or.inr ⟨g, cap, cur, hv, hB, q.heap hg (by simp), h1, h2, h3, h4⟩⟩
end Go.Proofs.YtmjbaficdoehfaaDoor
