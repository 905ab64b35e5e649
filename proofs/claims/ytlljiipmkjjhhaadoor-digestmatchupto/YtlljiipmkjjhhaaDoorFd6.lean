/-
  WALK: digest.Match at unlike ids: just those that begin so.
  PLAIN, AND LAWS: a list of ids without equal neighbours; a list of ids that is written to; clear of one.
-/
import Derived.Test.YtlljiipmkjjhhaaDoorFd1
import Derived.Test.YtlljiipmkjjhhaaDoorHex2
import Derived.Test.YtlljiipmkjjhhaaDoorShort2
import Derived.Maps.AppendAt
namespace Go.Proofs.YtlljiipmkjjhhaaDoor
open Go.RowKit Go.Shelf

/-- An id begins with these digits. -/
def hitL (p : List Int) (id : List Int) : Bool := decide (p.length ≤ comL id (begL p p.length))
theorem begL_good (p : List Int) : GoodID (begL p p.length) := ⟨begL_len _ _, fun x hx => by
  unfold begL at hx
  obtain ⟨j, _, rfl⟩ := List.mem_map.1 hx
  have h1 := vAt_fits p p.length (2 * j)
  have h2 := vAt_fits p p.length (2 * j + 1)
  omega⟩
theorem filter_succ (f : List Int → Bool) (ids : List (List Int)) (k : Nat) (o : List Int) (h : ids[k]? = some o) : (ids.take (k + 1)).filter f = (ids.take k).filter f ++ (if f o = true then [o] else []) := by
  rw [List.take_add_one, h]
  simp only [Option.toList_some, List.filter_append]
  congr 1
  by_cases hf : f o = true
  · simp [hf]
  · simp [hf]
end Go.Proofs.YtlljiipmkjjhhaaDoor

namespace Go.Proofs.YtlljiipmkjjhhaaDoor
open Go.RowKit Go.Shelf

/-- Of equal neighbours the first. -/
def ddL (A : List (List Int)) : List (List Int) := A.foldl (fun acc x => if acc.getLast? = some x then acc else acc ++ [x]) []
theorem ddL_snoc (A : List (List Int)) (x : List Int) : ddL (A ++ [x]) = if (ddL A).getLast? = some x then ddL A else ddL A ++ [x] := by
  unfold ddL
  rw [List.foldl_append]
  rfl
theorem ddL_last (A : List (List Int)) : (ddL A).getLast? = A.getLast? := by
  rcases List.eq_nil_or_concat A with rfl | ⟨B, x, rfl⟩
  · rfl
  · rw [List.concat_eq_append, ddL_snoc, List.getLast?_append]
    split
    · rename_i h
      rw [h]
      simp
    · rw [List.getLast?_append]
      simp
theorem ddL_take {M : List (List Int)} {t : Nat} {x y : List Int} (hx : M[t + 1]? = some x) (hy : M[t]? = some y) : ddL (M.take (t + 2)) = if y = x then ddL (M.take (t + 1)) else ddL (M.take (t + 1)) ++ [x] := by
  have e1 : M.take (t + 2) = M.take (t + 1) ++ [x] := by rw [List.take_add_one, hx]; rfl
  have e2 : (M.take (t + 1)).getLast? = some y := by rw [List.take_add_one, hy]; simp
  rw [e1, ddL_snoc, ddL_last, e2]
  by_cases h : y = x
  · rw [if_pos h, if_pos (by rw [h])]
  · rw [if_neg h, if_neg (fun e => h (Option.some.inj e))]
theorem ddL_one {M : List (List Int)} (h : M.length < 2) : ddL M = M := by
  match M, h with
  | [], _ => rfl
  | [x], _ => rfl
/-- A list of ids as it lies in a block. -/
structure IdIn (W : World) (g cap : Nat) (A : List (List Int)) : Prop where
  blk : ∃ cur : Array Value, W.heap[g]? = some (.cells cur 24 (0, 0)) ∧ cur.size = cap * 32
  le : A.length ≤ cap
  good : ∀ id, id ∈ A → GoodID id
  row : ∀ (i : Nat) (x : List Int), A[i]? = some x → W.rangeAt g (i * 32) (x.map (Value.int .u8))
section
variable {W W' : World} {g cap : Nat} {A : List (List Int)}
theorem IdIn.on (h : IdIn W g cap A) (k : Kept [] W W') : IdIn W' g cap A := by
  obtain ⟨cur, h1, h2⟩ := h.blk
  exact ⟨⟨cur, k.heap h1 (by simp), h2⟩, h.le, h.good, fun i x hx => range_kept (h.row i x hx) k (by simp)⟩
theorem IdIn.at (h : IdIn W g cap A) (hl : A.length ≤ 1000000) {n : Nat} (hn : n ≤ A.length) : IdsAt W (.slice (some ⟨g, 0, none⟩) n cap) (A.take n) := by
  have e : (A.take n).length = n := by rw [List.length_take]; omega
  have := h.le
  refine ⟨some ⟨g, 0, none⟩, cap, by rw [e], by rw [e]; omega, (fun h => by cases h), by rw [e]; omega, fun _ => ⟨g, 0, rfl, fun i x hx => ?_⟩⟩
  rw [Nat.zero_add]
  refine h.row i x ?_
  rw [List.getElem?_take] at hx
  split at hx
  · exact hx
  · cases hx
theorem IdIn.there (h : IdIn W g cap A) {o n : Nat} (hn : o + n ≤ cap * 32) : W.there g o n := fun j hj => by
  obtain ⟨cur, h1, h2⟩ := h.blk
  rw [cell_of_row _ _ _ _ _ _ h1, frozen_of_row _ _ _ _ _ h1]
  exact ⟨by rw [Array.getElem?_eq_getElem (by omega)]; rfl, rfl⟩
theorem setL_size : ∀ (vs : List Value) (c : Array Value) (o : Nat), (setL c o vs).size = c.size
  | [], _, _ => rfl
  | v :: vs, c, o => by
    unfold setL
    rw [setL_size vs]
    simp
/-- A row is written. -/
theorem IdIn.set (h : IdIn W g cap A) {k : Nat} (hk : k < A.length) {x : List Int} (hx : GoodID x) : IdIn (W.setCells g (k * 32) (x.map (Value.int .u8))) g cap (A.set k x) := by
  obtain ⟨cur, h1, h2⟩ := h.blk
  have hle := h.le
  have hxl : (x.map (Value.int .u8)).length = 32 := by rw [List.length_map, hx.1]
  refine ⟨⟨_, setCells_heap g 24 _ _ W cur h1, by rw [setL_size]; exact h2⟩, by rw [List.length_set]; exact hle, fun id hid => ?_, fun i y hy j v hv => ?_⟩
  · rcases List.mem_or_eq_of_mem_set hid with h3 | rfl
    · exact h.good id h3
    · exact hx
  · rw [List.getElem?_set] at hy
    by_cases e : k = i
    · subst e
      rw [if_pos rfl, if_pos hk] at hy
      injection hy with hy
      subst hy
      have hj : j < (x.map (Value.int .u8)).length := (List.getElem?_eq_some_iff.1 hv).1
      have h4 := World.cell?_setCells_in g (x.map (Value.int .u8)) (k * 32) W (fun j' hj' => (h.there (o := k * 32) (n := 32) (by omega) j' (by omega)).1) j hj
      rw [h4]
      obtain ⟨_, h5⟩ := List.getElem?_eq_some_iff.1 hv
      rw [h5]
    · rw [if_neg e] at hy
      have hyg := h.good y (List.mem_of_getElem? hy)
      have hj : j < 32 := by have := (List.getElem?_eq_some_iff.1 hv).1; rw [List.length_map, hyg.1] at this; exact this
      rw [World.cell?_setCells_out g _ _ _ _ (fun _ _ => by
        show i * 32 + j < k * 32 ∨ k * 32 + (x.map (Value.int .u8)).length ≤ i * 32 + j
        rw [hxl]
        rcases Nat.lt_or_gt_of_ne e with h6 | h6 <;> omega)]
      exact h.row i y hy j v hv
/-- What lies behind the first n is written. -/
theorem IdIn.behind (h : IdIn W g cap A) {n : Nat} (hn : n ≤ A.length) (vs : List Value) : IdIn (W.setCells g (n * 32) vs) g cap (A.take n) := by
  obtain ⟨cur, h1, h2⟩ := h.blk
  have hle := h.le
  refine ⟨⟨_, setCells_heap g 24 _ _ W cur h1, by rw [setL_size]; exact h2⟩, by rw [List.length_take]; omega, fun id hid => h.good id (List.mem_of_mem_take hid), fun i y hy j v hv => ?_⟩
  rw [List.getElem?_take] at hy
  split at hy
  · rename_i hi
    have hyg := h.good y (List.mem_of_getElem? hy)
    have hj : j < 32 := by have := (List.getElem?_eq_some_iff.1 hv).1; rw [List.length_map, hyg.1] at this; exact this
    rw [World.cell?_setCells_out g _ _ _ _ (fun _ _ => by
      show i * 32 + j < n * 32 ∨ _
      left
      omega)]
    exact h.row i y hy j v hv
  · cases hy
end
/-- 'clear(s)' of a list of ids. -/
theorem run_clear_ids (w : World) (ty : TypeId) (g o n c : Nat) (hn : 0 < n) (ht : w.there g o (n * 32)) : ∃ vs : List Value, (Builtin.clear_ #[22] ty #[.slice (some ⟨g, o, none⟩) n c]).run Tryd.prog w = .ok (.tuple #[]) (w.setCells g o vs) := by
  obtain ⟨vs, hvs⟩ : ∃ vs : List Value, vs = (Builtin.zeroCells (Value.agg (zero32.map (Value.int .u8)).toArray).cells n).toList := ⟨_, rfl⟩
  have hzc : (Value.agg (zero32.map (Value.int .u8)).toArray).cells.size = 32 := Tryd.idZero
  have hvl : vs.length = n * 32 := by
    rw [hvs]
    unfold Builtin.zeroCells
    simp [hzc]
  have hv1 : ∀ v, v ∈ vs → v.oneCell' = true := fun v hv => by
    rw [hvs] at hv
    unfold Builtin.zeroCells at hv
    rw [Array.toList_map, List.mem_map] at hv
    obtain ⟨i, _, rfl⟩ := hv
    have hi : i % (Value.agg (zero32.map (Value.int .u8)).toArray).cells.size < (Value.agg (zero32.map (Value.int .u8)).toArray).cells.size := Nat.mod_lt _ (by rw [hzc]; omega)
    rw [getElem!_pos (Value.agg (zero32.map (Value.int .u8)).toArray).cells (i % (Value.agg (zero32.map (Value.int .u8)).toArray).cells.size) hi]
    have h1 : ((Value.agg (zero32.map (Value.int .u8)).toArray).cells).all (·.oneCell') = true := by kernel_rfl
    exact (Array.all_eq_true.1 h1) _ hi
  have hst := run_storeCells_cells (P := Tryd.prog) g o vs 0 w (fun j hj => (ht j (by omega)).1) (fun j hj => (ht j (by omega)).2) hv1
  simp only [Nat.add_zero] at hst
  have hz : ∀ W, (zeroValue 24).run Tryd.prog W = .ok (.agg (zero32.map (Value.int .u8)).toArray) W := fun W => by kernel_rfl
  refine ⟨vs, ?_⟩
  obtain ⟨m, rfl⟩ : ∃ m, n = m + 1 := ⟨n - 1, by omega⟩
  rw [hvs] at hst ⊢
  simp [Builtin.clear_, run_underlying Tryd.underlying22, hz, hst]
end Go.Proofs.YtlljiipmkjjhhaaDoor
