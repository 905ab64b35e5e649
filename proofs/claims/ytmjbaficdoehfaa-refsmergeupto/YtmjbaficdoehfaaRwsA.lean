/-
  Lists of rows of k cells in memory.
-/
import Derived.Test.YtmjbaficdoehfaaId0
import Derived.Test.YtmjbaficdoehfaaRows0
import Derived.Deep.WholeRow
namespace Go.Proofs.Ytmjbaficdoehfaa
open Go.RowKit

/-- A list of rows of k cells lies so. -/
def RowsAt (w : World) (v : Value) (k : Nat) (rows : List (List Value)) : Prop :=
  ∃ ao cap, v = .slice ao rows.length cap ∧ rows.length ≤ cap ∧ (ao = none → cap = 0) ∧ rows.length ≤ 140737488351232 ∧ (rows ≠ [] → ∃ b off, ao = some ⟨b, off, none⟩ ∧ ∀ (i : Nat) (cs : List Value), rows[i]? = some cs → w.rangeAt b (off + i * k) cs)
theorem RowsAt.keep {w w' : World} {v : Value} {k : Nat} {rows : List (List Value)} {T : List Nat} (h : RowsAt w v k rows) (q : Kept T w w') (hn : rows ≠ [] → ∀ b, blkOf v = some b → b ∉ T) : RowsAt w' v k rows := by
  obtain ⟨ao, cap, rfl, h1, h0, h2, hc⟩ := h
  refine ⟨ao, cap, rfl, h1, h0, h2, fun hne => ?_⟩
  obtain ⟨b, off, rfl, hh⟩ := hc hne
  exact ⟨b, off, rfl, fun i xs hi => range_kept (hh i xs hi) q (hn hne b rfl)⟩
theorem setL_put (cs : List Value) (o : Nat) (vs : List Value) (h : o + vs.length ≤ cs.length) : setL cs.toArray o vs = (putL cs o vs).toArray := by
  obtain ⟨s1, s2⟩ := setL_spec vs o cs.toArray
  apply Array.ext_getElem?
  intro j
  have e1 : (putL cs o vs).toArray[j]? = (putL cs o vs)[j]? := by simp
  have e2 : cs.toArray[j]? = cs[j]? := by simp
  rw [s2 j, e1, e2, putL_get h, List.size_toArray]
  by_cases hc : o ≤ j ∧ j < o + vs.length
  · rw [if_pos hc, if_pos ⟨hc.1, hc.2, by omega⟩]
  · rw [if_neg hc, if_neg (by omega)]
theorem RowsAt.take {w : World} {ao : Option Addr} {n cap k : Nat} {rows : List (List Value)} {m : Nat} (h : RowsAt w (.slice ao n cap) k rows) (hm : m ≤ rows.length) : RowsAt w (.slice ao m cap) k (rows.take m) := by
  obtain ⟨ao', cap', he, h1, h0, h2, hc⟩ := h
  injection he with e1 e2 e3
  subst e1 e3
  refine ⟨ao, cap, by rw [List.length_take, Nat.min_eq_left hm], by rw [List.length_take]; omega, h0, by rw [List.length_take]; omega, fun hne => ?_⟩
  obtain ⟨b, off, hb, hh⟩ := hc (fun e => hne (by rw [e]; simp))
  refine ⟨b, off, hb, fun i cs hi => hh i cs ?_⟩
  by_cases him : i < m
  · rwa [List.getElem?_take_of_lt him] at hi
  · rw [List.getElem?_eq_none (by rw [List.length_take]; omega)] at hi
    cases hi
theorem foldl_setL (off : Nat) : ∀ (l : List Value) (s : Nat) (cs : Array Value), (l.zipIdx s).foldl (fun cs (x : Value × Nat) => cs.setIfInBounds (off + x.2) x.1) cs = setL cs (off + s) l
  | [], _, _ => rfl
  | v :: r, s, cs => by
    rw [List.zipIdx_cons, List.foldl_cons, foldl_setL off r (s + 1)]
    rfl
theorem fill_step (place : Nat → Option (Nat × Nat)) (cells : Array Value) (i : Nat) (v : Value) (rest : List (Nat × Value)) (off size : Nat) (hp : place i = some (off, size)) (hs : v.cells.size = size) (hc : off + size ≤ cells.size) :
    Instr.fill place cells ((i, v) :: rest) = Instr.fill place (setL cells off v.cells.toList) rest := by
  rw [Instr.fill, hp]
  simp only [hs]
  rw [if_neg (by simp; omega)]
  congr 1
  have h := foldl_setL off v.cells.toList 0 cells
  rw [Nat.add_zero] at h
  rw [← h, ← Array.foldl_toList, Array.toList_zipIdx]
theorem fill_nil (place : Nat → Option (Nat × Nat)) (cells : Array Value) : Instr.fill place cells [] = some cells := rfl
theorem RowsAt.drop {w : World} {ao : Option Addr} {n cap k : Nat} {rows : List (List Value)} {m : Nat} (h : RowsAt w (.slice ao n cap) k rows) (hm : m ≤ rows.length) : RowsAt w (.slice (if cap = m then ao else ao.map (·.add (m * k))) (n - m) (cap - m)) k (rows.drop m) := by
  obtain ⟨ao', cap', he, h1, h0, h2, hc⟩ := h
  injection he with e1 e2 e3
  subst e1 e3
  refine ⟨_, cap - m, by rw [List.length_drop, e2], by rw [List.length_drop]; omega, fun hn => ?_, by rw [List.length_drop]; omega, fun hne => ?_⟩
  · by_cases hc' : cap = m
    · omega
    · rw [if_neg hc'] at hn
      have : ao = none := by cases ao with
        | none => rfl
        | some b => simp at hn
      rw [h0 this]
      omega
  · have hml : m < rows.length := by
      rcases Nat.lt_or_ge m rows.length with h | h
      · exact h
      · exact absurd (List.drop_eq_nil_of_le h) hne
    obtain ⟨b, off, hb, hh⟩ := hc (fun e => by rw [e] at hml; simp at hml)
    refine ⟨b, off + m * k, by rw [if_neg (by omega), hb, Option.map_some, Addr.add_mid], fun i cs hi => ?_⟩
    rw [List.getElem?_drop] at hi
    have := hh (m + i) cs hi
    rwa [Nat.add_mul, ← Nat.add_assoc] at this
end Go.Proofs.Ytmjbaficdoehfaa
