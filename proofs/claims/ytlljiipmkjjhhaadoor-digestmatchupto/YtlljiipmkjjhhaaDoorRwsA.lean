/-
  Lists of bytes that are one's own.
  Bytes turned into a string; strings of bytes that are the same.
  Lists of rows of k cells in memory.
-/
import Derived.Test.YtlljiipmkjjhhaaDoorSha1
import Derived.Laws.OwnMore
import Derived.Deep.Onto
import Derived.Laws.BytesArg
import Derived.Test.YtlljiipmkjjhhaaDoorRw0
import Derived.Deep.WholeRow
namespace Go.Proofs.YtlljiipmkjjhhaaDoor
open Go.RowKit

/-- v is a list of the bytes ys in memory of its own, none of it below B. -/
def OwnB (w : World) (B : Nat) (v : Value) (ys : List Int) : Prop := w.ownsRow B 5 1 v ys.length (ys.map (Value.int .u8))

theorem OwnB.bytes {w : World} {B : Nat} {v : Value} {ys : List Int} (h : OwnB w B v ys) : BytesAt w v ys := by
  rcases h.2 with ⟨hv, hn⟩ | ⟨g, cap', cur, hv, hg, hh, hnc, hcm, hcs, htk⟩
  · obtain rfl : ys = [] := List.eq_nil_of_length_eq_zero hn
    rw [hv]; exact BytesAt.nil w
  · rw [hv]
    refine ⟨_, cap', rfl, hnc, fun e => (by simp at e), fun _ => ⟨g, 0, rfl, fun i u hu => ?_⟩⟩
    have hi : i < ys.length := (List.getElem?_eq_some_iff.1 hu).1
    rw [cell_of_row w g (0 + i) _ _ _ hh, Nat.zero_add, ← Array.getElem?_toList]
    have h2 : (cur.toList.take (ys.length * 1))[i]? = cur.toList[i]? := List.getElem?_take_of_lt (by omega)
    rw [← h2, htk]
    simp [hu]
theorem OwnB.kept {w w' : World} {B : Nat} {v : Value} {ys : List Int} {T : List Nat} (h : OwnB w B v ys) (k : Kept T w w') (hd : ∀ x, v.ownBlock = some x → x ∉ T) : OwnB w' B v ys := by
  refine ⟨h.1, ?_⟩
  rcases h.2 with hn | ⟨g, cap', cur, hv, hg, hh, rest⟩
  · exact Or.inl hn
  · refine Or.inr ⟨g, cap', cur, hv, hg, k.heap hh (hd g ?_), rest⟩
    rw [hv]; rfl
theorem OwnB.mono {w : World} {B B' : Nat} {v : Value} {ys : List Int} (h : OwnB w B v ys) (hb : B' ≤ B) : OwnB w B' v ys := World.ownsRow.mono h hb
theorem OwnB.form {w : World} {B : Nat} {v : Value} {ys : List Int} (h : OwnB w B v ys) (hn : ys ≠ []) : ∃ g cap, v = .slice (some ⟨g, 0, none⟩) ys.length cap ∧ B ≤ g ∧ g < w.heap.size := by
  rcases h.2 with ⟨_, h0⟩ | ⟨g, cap', cur, hv, hg, hh, rest⟩
  · exact absurd (List.eq_nil_of_length_eq_zero h0) hn
  · exact ⟨g, cap', hv, (hg), lt_of_block hh⟩
end Go.Proofs.YtlljiipmkjjhhaaDoor

namespace Go.Proofs.YtlljiipmkjjhhaaDoor
open Go.RowKit

theorem BytesAt.conv {w : World} {v : Value} {ys : List Int} (h : BytesAt w v ys) : (convert 25 9 v).run Tryd.prog w = .ok (.string (strOfNums ys)) w := by
  obtain ⟨ao, cap, rfl, hc, hnil, hcell⟩ := h
  by_cases hy : ys = []
  · subst hy
    cases ao with
    | none => exact run_convert_bytes_nil w _ 5 Tryd.underlying25 Tryd.underlying5 0 cap 9 Tryd.underlying9
    | some a =>
      have hl : (loadCells a 0).run Tryd.prog w = .ok (([] : List Int).map (Value.int .u8)).toArray w := run_loadCells_list (P := Tryd.prog) w a [] (fun j v hj => by simp at hj)
      rw [List.length_nil, run_convert_bytes_string w _ 9 5 _ 0 cap Tryd.underlying25 Tryd.underlying5 Tryd.underlying9, run_bytesToString w _ 0 cap [] hl]
      rfl
  · obtain ⟨b, off, rfl, hh⟩ := hcell hy
    refine run_convert_bytes_arg w _ 5 Tryd.underlying25 Tryd.underlying5 b off ys.length cap ys rfl (fun i hi => ?_) 9 Tryd.underlying9
    rw [hh i ys[i] (List.getElem?_eq_getElem hi)]
    simp [List.getD, List.getElem?_eq_getElem hi]

theorem strOfNums_inj {xs ys : List Int} (hx : Octs xs) (hy : Octs ys) : strOfNums xs = strOfNums ys ↔ xs = ys := by
  constructor
  · intro h
    have h1 : (strOfNums xs).data.toList = (strOfNums ys).data.toList := by rw [h]
    rw [strOfNums_data, strOfNums_data] at h1
    apply List.ext_getElem?
    intro i
    have h2 := congrArg (fun l => l[i]?) h1
    simp only [List.getElem?_map] at h2
    cases h3 : xs[i]? with
    | none =>
      rw [h3] at h2
      cases h4 : ys[i]? with
      | none => rfl
      | some b => rw [h4] at h2; simp at h2
    | some a =>
      rw [h3] at h2
      cases h4 : ys[i]? with
      | none => rw [h4] at h2; simp at h2
      | some b =>
        rw [h4] at h2
        simp only [Option.map_some, Option.some.injEq] at h2
        have ha := hx a (List.mem_of_getElem? h3)
        have hb := hy b (List.mem_of_getElem? h4)
        have h5 := congrArg UInt8.toNat h2
        simp only [UInt8.toNat_ofNat'] at h5
        congr 1
        omega
  · rintro rfl; rfl
end Go.Proofs.YtlljiipmkjjhhaaDoor

namespace Go.Proofs.YtlljiipmkjjhhaaDoor
open Go.RowKit

/-- A list of rows of k cells lies so. -/
def RowsAt (w : World) (v : Value) (k : Nat) (rows : List (List Value)) : Prop :=
  ∃ ao cap, v = .slice ao rows.length cap ∧ rows.length ≤ cap ∧ (ao = none → cap = 0) ∧ rows.length ≤ 140737488351232 ∧ (rows ≠ [] → ∃ b off, ao = some ⟨b, off, none⟩ ∧ ∀ (i : Nat) (cs : List Value), rows[i]? = some cs → w.rangeAt b (off + i * k) cs)
theorem RowsAt.keep {w w' : World} {v : Value} {k : Nat} {rows : List (List Value)} {T : List Nat} (h : RowsAt w v k rows) (q : Kept T w w') (hn : rows ≠ [] → ∀ b, blkOf v = some b → b ∉ T) : RowsAt w' v k rows := by
  obtain ⟨ao, cap, rfl, h1, h0, h2, hc⟩ := h
  refine ⟨ao, cap, rfl, h1, h0, h2, fun hne => ?_⟩
  obtain ⟨b, off, rfl, hh⟩ := hc hne
  exact ⟨b, off, rfl, fun i xs hi => range_kept (hh i xs hi) q (hn hne b rfl)⟩
theorem row_range {w : World} {b : Nat} {cs : List Value} {t : TypeId} {fr : Nat × Nat} (h : w.heap[b]? = some (.cells cs.toArray t fr)) : w.rangeAt b 0 cs := fun j v hj => by
  rw [cell_of_row _ _ _ _ _ _ h, Nat.zero_add, List.getElem?_toArray]; exact hj
theorem setL_put (cs : List Value) (o : Nat) (vs : List Value) (h : o + vs.length ≤ cs.length) : setL cs.toArray o vs = (putL cs o vs).toArray := by
  obtain ⟨s1, s2⟩ := setL_spec vs o cs.toArray
  apply Array.ext_getElem?
  intro j
  have e1 : (putL cs o vs).toArray[j]? = (putL cs o vs)[j]? := by simp
  have e2 : cs.toArray[j]? = cs[j]? := by simp
  rw [s2 j, e1, e2, putL_get h, List.size_toArray]
  by_cases hc : o ≤ j ∧ j < o + vs.length
  · rw [if_pos hc, if_pos ⟨hc.1, hc.2, by omega⟩]
  · rw [if_neg hc, if_neg (by omega)]
theorem RowsAt.take {w : World} {ao : Option Addr} {n cap k : Nat} {rows : List (List Value)} {m : Nat} (h : RowsAt w (.slice ao n cap) k rows) (hm : m ≤ rows.length) : RowsAt w (.slice ao m cap) k (rows.take m) := by
  obtain ⟨ao', cap', he, h1, h0, h2, hc⟩ := h
  injection he with e1 e2 e3
  subst e1 e3
  refine ⟨ao, cap, by rw [List.length_take, Nat.min_eq_left hm], by rw [List.length_take]; omega, h0, by rw [List.length_take]; omega, fun hne => ?_⟩
  obtain ⟨b, off, hb, hh⟩ := hc (fun e => hne (by rw [e]; simp))
  refine ⟨b, off, hb, fun i cs hi => hh i cs ?_⟩
  by_cases him : i < m
  · rwa [List.getElem?_take_of_lt him] at hi
  · rw [List.getElem?_eq_none (by rw [List.length_take]; omega)] at hi
    cases hi
theorem foldl_setL (off : Nat) : ∀ (l : List Value) (s : Nat) (cs : Array Value), (l.zipIdx s).foldl (fun cs (x : Value × Nat) => cs.setIfInBounds (off + x.2) x.1) cs = setL cs (off + s) l
  | [], _, _ => rfl
  | v :: r, s, cs => by
    rw [List.zipIdx_cons, List.foldl_cons, foldl_setL off r (s + 1)]
    rfl
theorem fill_step (place : Nat → Option (Nat × Nat)) (cells : Array Value) (i : Nat) (v : Value) (rest : List (Nat × Value)) (off size : Nat) (hp : place i = some (off, size)) (hs : v.cells.size = size) (hc : off + size ≤ cells.size) :
    Instr.fill place cells ((i, v) :: rest) = Instr.fill place (setL cells off v.cells.toList) rest := by
  rw [Instr.fill, hp]
  simp only [hs]
  rw [if_neg (by simp; omega)]
  congr 1
  have h := foldl_setL off v.cells.toList 0 cells
  rw [Nat.add_zero] at h
  rw [← h, ← Array.foldl_toList, Array.toList_zipIdx]
theorem fill_nil (place : Nat → Option (Nat × Nat)) (cells : Array Value) : Instr.fill place cells [] = some cells := rfl
theorem RowsAt.drop {w : World} {ao : Option Addr} {n cap k : Nat} {rows : List (List Value)} {m : Nat} (h : RowsAt w (.slice ao n cap) k rows) (hm : m ≤ rows.length) : RowsAt w (.slice (if cap = m then ao else ao.map (·.add (m * k))) (n - m) (cap - m)) k (rows.drop m) := by
  obtain ⟨ao', cap', he, h1, h0, h2, hc⟩ := h
  injection he with e1 e2 e3
  subst e1 e3
  refine ⟨_, cap - m, by rw [List.length_drop, e2], by rw [List.length_drop]; omega, fun hn => ?_, by rw [List.length_drop]; omega, fun hne => ?_⟩
  · by_cases hc' : cap = m
    · omega
    · rw [if_neg hc'] at hn
      have : ao = none := by cases ao with
        | none => rfl
        | some b => simp at hn
      rw [h0 this]
      omega
  · have hml : m < rows.length := by
      rcases Nat.lt_or_ge m rows.length with h | h
      · exact h
      · exact absurd (List.drop_eq_nil_of_le h) hne
    obtain ⟨b, off, hb, hh⟩ := hc (fun e => by rw [e] at hml; simp at hml)
    refine ⟨b, off + m * k, by rw [if_neg (by omega), hb, Option.map_some, Addr.add_mid], fun i cs hi => ?_⟩
    rw [List.getElem?_drop] at hi
    have := hh (m + i) cs hi
    rwa [Nat.add_mul, ← Nat.add_assoc] at this
end Go.Proofs.YtlljiipmkjjhhaaDoor
