/-
  An id, or one byte of an id, written into a list of ids of one's own.
-/
import Derived.Test.YtonnapjbplknlaaShort7
namespace Go.Proofs.Ytonnapjbplknlaa
open Go.RowKit

def setL (cur : Array Value) : Nat → List Value → Array Value
  | _, [] => cur
  | o, v :: r => setL (cur.setIfInBounds o v) (o + 1) r
theorem setL_spec : ∀ (vs : List Value) (o : Nat) (cur : Array Value), (setL cur o vs).size = cur.size ∧ ∀ k, (setL cur o vs)[k]? = if o ≤ k ∧ k < o + vs.length ∧ k < cur.size then vs[k - o]? else cur[k]?
  | [], o, cur => ⟨rfl, fun k => by rw [if_neg (by simp only [List.length_nil]; omega)]; rfl⟩
  | v :: r, o, cur => by
    obtain ⟨h1, h2⟩ := setL_spec r (o + 1) (cur.setIfInBounds o v)
    refine ⟨by unfold setL; rw [h1]; simp, fun k => ?_⟩
    unfold setL
    rw [h2 k]
    simp only [Array.size_setIfInBounds, List.length_cons]
    by_cases hk : o = k
    · subst hk
      rw [if_neg (by omega)]
      by_cases hs : o < cur.size
      · rw [if_pos ⟨Nat.le_refl _, by omega, hs⟩]
        simp [hs]
      · rw [if_neg (by omega)]
        simp [hs]
    · by_cases hin : o + 1 ≤ k ∧ k < o + 1 + r.length ∧ k < cur.size
      · rw [if_pos hin, if_pos (by omega)]
        have e : k - o = (k - (o + 1)) + 1 := by omega
        rw [e, List.getElem?_cons_succ]
      · rw [if_neg hin, if_neg (by omega)]
        simp [hk]
theorem setCells_heap (b : Nat) (t : TypeId) : ∀ (vs : List Value) (o : Nat) (w : World) (cur : Array Value), w.heap[b]? = some (.cells cur t (0, 0)) → (w.setCells b o vs).heap[b]? = some (.cells (setL cur o vs) t (0, 0))
  | [], _, _, _, h => h
  | v :: r, o, w, cur, h => by
    unfold World.setCells setL
    exact setCells_heap b t r (o + 1) _ _ (heap_setCell_same _ _ _ _ _ _ h)
theorem Kept.setCells {S : List Nat} {a : World} (b : Nat) (hp : b ∈ S ∨ a.heap.size ≤ b) : ∀ (vs : List Value) (o : Nat) (w : World), Kept S a w → Kept S a (w.setCells b o vs)
  | [], _, _, h => h
  | v :: r, o, w, h => by
    unfold World.setCells
    exact Kept.setCells b hp r (o + 1) _ (h.setCell hp v)

theorem OwnI.of_cells {w : World} {B g n cap : Nat} {ids : List (List Int)} (cur : Array Value) (hn : n = ids.length) (hg : ∀ o, o ∈ ids → GoodID o) (hB : B ≤ g) (hh : w.heap[g]? = some (.cells cur 24 (0, 0))) (hnc : n ≤ cap) (hcm : cap ≤ maxLen) (hcs : cur.size = cap * 32)
    (hk : ∀ k, k < ids.length * 32 → cur[k]? = ((ids.map fun x => Value.agg (idC x))[k / 32]?).bind fun v => v.cells[k % 32]?) : OwnI w B (.slice (some ⟨g, 0, none⟩) n cap) ids := by
  subst hn
  refine ⟨flatI_len ids hg, Or.inr ⟨g, cap, cur, rfl, hB, hh, hnc, hcm, hcs, ?_⟩⟩
  apply List.ext_getElem?
  intro k
  by_cases hlt : k < ids.length * 32
  · rw [List.getElem?_take_of_lt hlt, Array.getElem?_toList, hk k hlt, flatI_bind ids hg k hlt]
  · rw [List.getElem?_eq_none (l := flatI ids) (by rw [flatI_len ids hg]; omega), List.getElem?_eq_none (by rw [List.length_take]; omega)]

theorem OwnI.cur {w : World} {B g n cap : Nat} {ids : List (List Int)} (h : OwnI w B (.slice (some ⟨g, 0, none⟩) n cap) ids) (hg : ∀ o, o ∈ ids → GoodID o) :
    ∃ cur : Array Value, n = ids.length ∧ B ≤ g ∧ w.heap[g]? = some (.cells cur 24 (0, 0)) ∧ n ≤ cap ∧ cap ≤ maxLen ∧ cur.size = cap * 32 ∧ ∀ k, k < ids.length * 32 → cur[k]? = ((ids.map fun x => Value.agg (idC x))[k / 32]?).bind fun v => v.cells[k % 32]? := by
  rcases h.2 with ⟨hv, _⟩ | ⟨g', cap', cur, hv, hb, hh, hnc, hcm, hcs, htk⟩
  · cases hv
  · cases hv
    refine ⟨cur, rfl, hb, hh, hnc, hcm, hcs, fun k hk => ?_⟩
    rw [← flatI_bind ids hg k hk, ← htk, List.getElem?_take_of_lt hk, Array.getElem?_toList]

theorem good_set {ids : List (List Int)} (hg : ∀ o, o ∈ ids → GoodID o) (i : Nat) {xs : List Int} (hx : GoodID xs) : ∀ o, o ∈ ids.set i xs → GoodID o := fun o ho => by
  rcases List.mem_or_eq_of_mem_set ho with h | rfl
  · exact hg o h
  · exact hx
theorem idC_at (xs : List Int) (j : Nat) : (Value.agg (idC xs)).cells[j]? = (xs.map (Value.int .u8))[j]? := by
  show (idC xs)[j]? = _
  unfold idC
  exact List.getElem?_toArray

/-- An id is written into a list of one's own. -/
theorem OwnI.put {w : World} {B g n cap : Nat} {ids : List (List Int)} (h : OwnI w B (.slice (some ⟨g, 0, none⟩) n cap) ids) (hg : ∀ o, o ∈ ids → GoodID o) (i : Nat) (hi : i < ids.length) (xs : List Int) (hx : GoodID xs) :
    OwnI (w.setCells g (i * 32) (xs.map (Value.int .u8))) B (.slice (some ⟨g, 0, none⟩) n cap) (ids.set i xs) := by
  obtain ⟨cur, hn, hb, hh, hnc, hcm, hcs, hk⟩ := h.cur hg
  obtain ⟨s1, s2⟩ := setL_spec (xs.map (Value.int .u8)) (i * 32) cur
  refine OwnI.of_cells _ (by rw [List.length_set]; exact hn) (good_set hg i hx) hb (setCells_heap g _ _ _ _ _ hh) hnc hcm (by rw [s1]; exact hcs) fun k hlt => ?_
  rw [List.length_set] at hlt
  rw [s2 k, List.length_map, hx.1]
  have hkc : k < cur.size := by rw [hcs]; have : ids.length * 32 ≤ cap * 32 := Nat.mul_le_mul_right 32 (by omega); omega
  by_cases hin : k / 32 = i
  · rw [if_pos ⟨by omega, by omega, hkc⟩, List.map_set, List.getElem?_set, if_pos hin.symm, if_pos (by rw [List.length_map]; omega), Option.bind_some, idC_at, show k - i * 32 = k % 32 by omega]
  · rw [if_neg (by omega), hk k hlt, List.map_set, List.getElem?_set, if_neg (Ne.symm hin)]

/-- One byte of one of them is written. -/
theorem OwnI.put1 {w : World} {B g n cap : Nat} {ids : List (List Int)} (h : OwnI w B (.slice (some ⟨g, 0, none⟩) n cap) ids) (hg : ∀ o, o ∈ ids → GoodID o) (i : Nat) (xs : List Int) (hi : ids[i]? = some xs) (j : Nat) (hj : j < 32) (c : Int) (hc : 0 ≤ c ∧ c ≤ 255) :
    OwnI (w.setCell ⟨g, i * 32 + j, none⟩ (.int .u8 c)) B (.slice (some ⟨g, 0, none⟩) n cap) (ids.set i (xs.set j c)) := by
  have hgx := hg xs (List.mem_of_getElem? hi)
  have hil : i < ids.length := (List.getElem?_eq_some_iff.1 hi).1
  have hx : GoodID (xs.set j c) := ⟨by rw [List.length_set]; exact hgx.1, fun u hu => by
    rcases List.mem_or_eq_of_mem_set hu with h | rfl
    · exact hgx.2 u h
    · exact hc⟩
  obtain ⟨cur, hn, hb, hh, hnc, hcm, hcs, hk⟩ := h.cur hg
  refine OwnI.of_cells _ (by rw [List.length_set]; exact hn) (good_set hg i hx) hb (heap_setCell_same _ _ _ _ _ _ hh) hnc hcm (by simpa using hcs) fun k hlt => ?_
  rw [List.length_set] at hlt
  have hkc : k < cur.size := by rw [hcs]; have : ids.length * 32 ≤ cap * 32 := Nat.mul_le_mul_right 32 (by omega); omega
  rw [Array.getElem?_setIfInBounds]
  by_cases hin : k / 32 = i
  · have e : ((((ids.set i (xs.set j c)).map fun x => Value.agg (idC x))[k / 32]?).bind fun v => v.cells[k % 32]?) = if j = k % 32 then some (Value.int .u8 c) else (xs.map (Value.int .u8))[k % 32]? := by
      rw [List.map_set, List.getElem?_set, if_pos hin.symm, if_pos (by rw [List.length_map]; omega), Option.bind_some, idC_at, List.map_set, List.getElem?_set]
      by_cases hjk : j = k % 32
      · rw [if_pos hjk, if_pos hjk, if_pos (by rw [List.length_map, hgx.1]; exact hj)]
      · rw [if_neg hjk, if_neg hjk]
    rw [e]
    by_cases hjk : j = k % 32
    · rw [if_pos hjk, if_pos (by omega), if_pos (by omega)]
    · rw [if_neg hjk, if_neg (by omega), hk k hlt, List.getElem?_map, hin, hi, Option.map_some, Option.bind_some, idC_at]
  · rw [if_neg (by omega), hk k hlt, List.map_set, List.getElem?_set, if_neg (Ne.symm hin)]

theorem OwnI.there {w : World} {B g n cap : Nat} {ids : List (List Int)} (h : OwnI w B (.slice (some ⟨g, 0, none⟩) n cap) ids) (hg : ∀ o, o ∈ ids → GoodID o) (i : Nat) (hi : i < ids.length) : w.there g (i * 32) 32 := by
  obtain ⟨cur, hn, hb, hh, hnc, hcm, hcs, hk⟩ := h.cur hg
  intro j hj
  have hkc : i * 32 + j < cur.size := by rw [hcs]; have : ids.length * 32 ≤ cap * 32 := Nat.mul_le_mul_right 32 (by omega); omega
  refine ⟨?_, frozen_of_row w g _ _ _ hh⟩
  rw [cell_of_row w g _ _ _ _ hh, Array.getElem?_eq_getElem hkc]
  rfl

theorem wpList_put_id {ops : Array Oper} {rest : List Oper} {o : Oper} {a : Act} {w : World} {Q : Exit → Act → World → Prop} (hgd : o.guard = none) (x y : Operand) (ho : o.op = .store 24 x y) {B g n cap : Nat} {ids : List (List Int)} (i : Nat) (xs : List Int)
    (hx : a.eval x = .pointer (some ⟨g, i * 32, none⟩)) (hy : a.eval y = .agg (idC xs)) (hown : OwnI w B (.slice (some ⟨g, 0, none⟩) n cap) ids) (hg : ∀ o, o ∈ ids → GoodID o) (hi : i < ids.length) (hgx : GoodID xs)
    (h : ∀ w', OwnI w' B (.slice (some ⟨g, 0, none⟩) n cap) (ids.set i xs) → Kept [g] w w' → wpList Try.prog ops Q rest (a.put o.dst undef) w') : wpList Try.prog ops Q (o :: rest) a w :=
  wpList_store_mid hgd 24 x y ho g (i * 32) (idC xs) hx hy (by rw [idC_size hgx.1]; exact hown.there hg i hi) (by rw [idC_size hgx.1]; exact Try.infoID) (all_oneCell_toArray (map_oneCell _))
    (h _ (hown.put hg i hi xs hgx) (Kept.setCells g (Or.inl (by simp)) _ _ _ (Kept.refl _ _)))
theorem wpList_build_id1 {ops : Array Oper} {rest : List Oper} {o : Oper} {a : Act} {w : World} {Q : Exit → Act → World → Prop} (hgd : o.guard = none) (x : Operand) (ho : o.op = .buildSlice 22 1 #[(0, x)])
    (xs : List Int) (hg : GoodID xs) (hx : a.eval x = .agg (idC xs))
    (h : wpList Try.prog ops Q rest (a.put o.dst (.slice (some ⟨w.heap.size, 0, none⟩) 1 1)) (w.alloc (.cells (flatI [xs]).toArray 24))) : wpList Try.prog ops Q (o :: rest) a w :=
  wpList_build_ids hgd _ 1 ho [xs] (fun o ho => by rw [List.mem_singleton.1 ho]; exact hg) rfl (by decide) (by decide) (by simp [hx]) h
end Go.Proofs.Ytonnapjbplknlaa
