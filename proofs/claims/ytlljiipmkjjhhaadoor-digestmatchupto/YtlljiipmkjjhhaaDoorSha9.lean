/-
  An id, or one byte of an id, written into a list of ids of one's own.
  WALK: satchellaw2.shortPlaced.
  WALK: satchellaw2.right answers true.
-/
import Derived.Test.YtlljiipmkjjhhaaDoorShort7
import Derived.Test.YtlljiipmkjjhhaaDoorRw0
import Derived.Test.YtlljiipmkjjhhaaDoorSha8
import Derived.Test.YtlljiipmkjjhhaaDoorHex1
import Derived.KernelRfl
import Derived.Lib.SlBytesConst
namespace Go.Proofs.YtlljiipmkjjhhaaDoor
open Go.RowKit

theorem OwnI.of_cells {w : World} {B g n cap : Nat} {ids : List (List Int)} (cur : Array Value) (hn : n = ids.length) (hg : ∀ o, o ∈ ids → GoodID o) (hB : B ≤ g) (hh : w.heap[g]? = some (.cells cur 24 (0, 0))) (hnc : n ≤ cap) (hcm : cap ≤ maxLen) (hcs : cur.size = cap * 32)
    (hk : ∀ k, k < ids.length * 32 → cur[k]? = ((ids.map fun x => Value.agg (idC x))[k / 32]?).bind fun v => v.cells[k % 32]?) : OwnI w B (.slice (some ⟨g, 0, none⟩) n cap) ids := by
  subst hn
  refine ⟨flatI_len ids hg, Or.inr ⟨g, cap, cur, rfl, hB, hh, hnc, hcm, hcs, ?_⟩⟩
  apply List.ext_getElem?
  intro k
  by_cases hlt : k < ids.length * 32
  · rw [List.getElem?_take_of_lt hlt, Array.getElem?_toList, hk k hlt, flatI_bind ids hg k hlt]
  · rw [List.getElem?_eq_none (l := flatI ids) (by rw [flatI_len ids hg]; omega), List.getElem?_eq_none (by rw [List.length_take]; omega)]

theorem OwnI.cur {w : World} {B g n cap : Nat} {ids : List (List Int)} (h : OwnI w B (.slice (some ⟨g, 0, none⟩) n cap) ids) (hg : ∀ o, o ∈ ids → GoodID o) :
    ∃ cur : Array Value, n = ids.length ∧ B ≤ g ∧ w.heap[g]? = some (.cells cur 24 (0, 0)) ∧ n ≤ cap ∧ cap ≤ maxLen ∧ cur.size = cap * 32 ∧ ∀ k, k < ids.length * 32 → cur[k]? = ((ids.map fun x => Value.agg (idC x))[k / 32]?).bind fun v => v.cells[k % 32]? := by
  rcases h.2 with ⟨hv, _⟩ | ⟨g', cap', cur, hv, hb, hh, hnc, hcm, hcs, htk⟩
  · cases hv
  · cases hv
    refine ⟨cur, rfl, hb, hh, hnc, hcm, hcs, fun k hk => ?_⟩
    rw [← flatI_bind ids hg k hk, ← htk, List.getElem?_take_of_lt hk, Array.getElem?_toList]

theorem good_set {ids : List (List Int)} (hg : ∀ o, o ∈ ids → GoodID o) (i : Nat) {xs : List Int} (hx : GoodID xs) : ∀ o, o ∈ ids.set i xs → GoodID o := fun o ho => by
  rcases List.mem_or_eq_of_mem_set ho with h | rfl
  · exact hg o h
  · exact hx
theorem idC_at (xs : List Int) (j : Nat) : (Value.agg (idC xs)).cells[j]? = (xs.map (Value.int .u8))[j]? := by
  show (idC xs)[j]? = _
  unfold idC
  exact List.getElem?_toArray

/-- An id is written into a list of one's own. -/
theorem OwnI.put {w : World} {B g n cap : Nat} {ids : List (List Int)} (h : OwnI w B (.slice (some ⟨g, 0, none⟩) n cap) ids) (hg : ∀ o, o ∈ ids → GoodID o) (i : Nat) (hi : i < ids.length) (xs : List Int) (hx : GoodID xs) :
    OwnI (w.setCells g (i * 32) (xs.map (Value.int .u8))) B (.slice (some ⟨g, 0, none⟩) n cap) (ids.set i xs) := by
  obtain ⟨cur, hn, hb, hh, hnc, hcm, hcs, hk⟩ := h.cur hg
  obtain ⟨s1, s2⟩ := setL_spec (xs.map (Value.int .u8)) (i * 32) cur
  refine OwnI.of_cells _ (by rw [List.length_set]; exact hn) (good_set hg i hx) hb (setCells_heap g _ _ _ _ _ hh) hnc hcm (by rw [s1]; exact hcs) fun k hlt => ?_
  rw [List.length_set] at hlt
  rw [s2 k, List.length_map, hx.1]
  have hkc : k < cur.size := by rw [hcs]; have : ids.length * 32 ≤ cap * 32 := Nat.mul_le_mul_right 32 (by omega); omega
  by_cases hin : k / 32 = i
  · rw [if_pos ⟨by omega, by omega, hkc⟩, List.map_set, List.getElem?_set, if_pos hin.symm, if_pos (by rw [List.length_map]; omega), Option.bind_some, idC_at, show k - i * 32 = k % 32 by omega]
  · rw [if_neg (by omega), hk k hlt, List.map_set, List.getElem?_set, if_neg (Ne.symm hin)]

/-- One byte of one of them is written. -/
theorem OwnI.put1 {w : World} {B g n cap : Nat} {ids : List (List Int)} (h : OwnI w B (.slice (some ⟨g, 0, none⟩) n cap) ids) (hg : ∀ o, o ∈ ids → GoodID o) (i : Nat) (xs : List Int) (hi : ids[i]? = some xs) (j : Nat) (hj : j < 32) (c : Int) (hc : 0 ≤ c ∧ c ≤ 255) :
    OwnI (w.setCell ⟨g, i * 32 + j, none⟩ (.int .u8 c)) B (.slice (some ⟨g, 0, none⟩) n cap) (ids.set i (xs.set j c)) := by
  have hgx := hg xs (List.mem_of_getElem? hi)
  have hil : i < ids.length := (List.getElem?_eq_some_iff.1 hi).1
  have hx : GoodID (xs.set j c) := ⟨by rw [List.length_set]; exact hgx.1, fun u hu => by
    rcases List.mem_or_eq_of_mem_set hu with h | rfl
    · exact hgx.2 u h
    · exact hc⟩
  obtain ⟨cur, hn, hb, hh, hnc, hcm, hcs, hk⟩ := h.cur hg
  refine OwnI.of_cells _ (by rw [List.length_set]; exact hn) (good_set hg i hx) hb (heap_setCell_same _ _ _ _ _ _ hh) hnc hcm (by simpa using hcs) fun k hlt => ?_
  rw [List.length_set] at hlt
  have hkc : k < cur.size := by rw [hcs]; have : ids.length * 32 ≤ cap * 32 := Nat.mul_le_mul_right 32 (by omega); omega
  rw [Array.getElem?_setIfInBounds]
  by_cases hin : k / 32 = i
  · have e : ((((ids.set i (xs.set j c)).map fun x => Value.agg (idC x))[k / 32]?).bind fun v => v.cells[k % 32]?) = if j = k % 32 then some (Value.int .u8 c) else (xs.map (Value.int .u8))[k % 32]? := by
      rw [List.map_set, List.getElem?_set, if_pos hin.symm, if_pos (by rw [List.length_map]; omega), Option.bind_some, idC_at, List.map_set, List.getElem?_set]
      by_cases hjk : j = k % 32
      · rw [if_pos hjk, if_pos hjk, if_pos (by rw [List.length_map, hgx.1]; exact hj)]
      · rw [if_neg hjk, if_neg hjk]
    rw [e]
    by_cases hjk : j = k % 32
    · rw [if_pos hjk, if_pos (by omega), if_pos (by omega)]
    · rw [if_neg hjk, if_neg (by omega), hk k hlt, List.getElem?_map, hin, hi, Option.map_some, Option.bind_some, idC_at]
  · rw [if_neg (by omega), hk k hlt, List.map_set, List.getElem?_set, if_neg (Ne.symm hin)]

theorem OwnI.there {w : World} {B g n cap : Nat} {ids : List (List Int)} (h : OwnI w B (.slice (some ⟨g, 0, none⟩) n cap) ids) (hg : ∀ o, o ∈ ids → GoodID o) (i : Nat) (hi : i < ids.length) : w.there g (i * 32) 32 := by
  obtain ⟨cur, hn, hb, hh, hnc, hcm, hcs, hk⟩ := h.cur hg
  intro j hj
  have hkc : i * 32 + j < cur.size := by rw [hcs]; have : ids.length * 32 ≤ cap * 32 := Nat.mul_le_mul_right 32 (by omega); omega
  refine ⟨?_, frozen_of_row w g _ _ _ hh⟩
  rw [cell_of_row w g _ _ _ _ hh, Array.getElem?_eq_getElem hkc]
  rfl

theorem wpList_build_id1 {ops : Array Oper} {rest : List Oper} {o : Oper} {a : Act} {w : World} {Q : Exit → Act → World → Prop} (hgd : o.guard = none) (x : Operand) (ho : o.op = .buildSlice 22 1 #[(0, x)])
    (xs : List Int) (hg : GoodID xs) (hx : a.eval x = .agg (idC xs))
    (h : wpList Tryd.prog ops Q rest (a.put o.dst (.slice (some ⟨w.heap.size, 0, none⟩) 1 1)) (w.alloc (.cells (flatI [xs]).toArray 24))) : wpList Tryd.prog ops Q (o :: rest) a w :=
  wpList_build_ids hgd _ 1 ho [xs] (fun o ho => by rw [List.mem_singleton.1 ho]; exact hg) rfl (by decide) (by decide) (by simp [hx]) h
end Go.Proofs.YtlljiipmkjjhhaaDoor

namespace Go.Proofs.YtlljiipmkjjhhaaDoor
open Go.RowKit

def at1 (l : List Int) (i : Nat) : Int := l[i]?.getD 0
theorem OwnI.above {w : World} {B : Nat} {v : Value} {ids : List (List Int)} (h : OwnI w B v ids) (b : Nat) (hb : v.ownBlock = some b) : B ≤ b := by
  rcases h.2 with ⟨hv, _⟩ | ⟨g, cap', cur, hv, hg, _⟩
  · rw [hv] at hb; cases hb
  · rw [hv] at hb; cases hb; exact hg
theorem OwnI.cell {w : World} {B g n cap : Nat} {ids : List (List Int)} (h : OwnI w B (.slice (some ⟨g, 0, none⟩) n cap) ids) (hg : ∀ o, o ∈ ids → GoodID o) (i : Nat) (xs : List Int) (hi : ids[i]? = some xs) (j : Nat) (hj : j < 32) : w.cell? ⟨g, i * 32 + j, none⟩ = some (.int .u8 (at1 xs j)) := by
  obtain ⟨cur, hn, hb, hh, hnc, hcm, hcs, hk⟩ := h.cur hg
  have hil : i < ids.length := (List.getElem?_eq_some_iff.1 hi).1
  have h32 := (hg xs (List.mem_of_getElem? hi)).1
  rw [cell_of_row w g _ _ _ _ hh, hk _ (by omega), show (i * 32 + j) / 32 = i by omega, show (i * 32 + j) % 32 = j by omega, List.getElem?_map, hi, Option.map_some, Option.bind_some, idC_at, List.getElem?_map, List.getElem?_eq_getElem (by omega)]
  unfold at1
  rw [List.getElem?_eq_getElem (by omega)]
  rfl
theorem OwnI.frozen {w : World} {B g n cap : Nat} {ids : List (List Int)} (h : OwnI w B (.slice (some ⟨g, 0, none⟩) n cap) ids) (i : Nat) : w.frozen? ⟨g, i, none⟩ = false := by
  rcases h.2 with ⟨hv, _⟩ | ⟨g', cap', cur, hv, hg, hh, rest⟩
  · cases hv
  · cases hv
    exact frozen_of_row w g i _ _ hh

end Go.Proofs.YtlljiipmkjjhhaaDoor

namespace Go.Proofs.YtlljiipmkjjhhaaDoor
open Go.RowKit

theorem abc_hex : strOfNums (hexL (digL [97, 98, 99])) = { data := #[98, 97, 55, 56, 49, 54, 98, 102, 56, 102, 48, 49, 99, 102, 101, 97, 52, 49, 52, 49, 52, 48, 100, 101, 53, 100, 97, 101, 50, 50, 50, 51, 98, 48, 48, 51, 54, 49, 97, 51, 57, 54, 49, 55, 55, 97, 57, 99, 98, 52, 49, 48, 102, 102, 54, 49, 102, 50, 48, 48, 49, 53, 97, 100] } := by kernel_rfl

theorem row_bytes_any {w : World} {q : Nat} {fr : Nat × Nat} {ys : List Int} (h : w.heap[q]? = some (.cells (ys.map (Value.int .u8)).toArray 5 fr)) : BytesAt w (.slice (some ⟨q, 0, none⟩) ys.length ys.length) ys := by
  refine ⟨_, _, rfl, Nat.le_refl _, fun e => (by simp at e), fun _ => ⟨q, 0, rfl, fun i u hu => ?_⟩⟩
  rw [cell_of_row _ _ _ _ _ _ h, Nat.zero_add, ← Array.getElem?_toList]
  simp [hu]

set_option maxRecDepth 100000 in
set_option maxHeartbeats 4000000 in
theorem right2_any (w : World) (hV : Vars w) : Calls Tryd.prog 7 #[] w fun e w' => e = .returned (.bool true) ∧ Kept [] w w' := by
  have HS := Sum_any (w.alloc (.cells #[.int .u8 97, .int .u8 98, .int .u8 99] 5 (3, 4))) (.slice (some ⟨w.heap.size, 0, none⟩) 3 3) [97, 98, 99] (hV.kept ((Kept.refl [] w).alloc _) (by simp) (by simp)) (row_bytes_any (ys := [97, 98, 99]) (heap_alloc_new w _)) (by intro u hu; simp at hu; omega) (by decide)
  have HX := fun W => Hex_any (digL [97, 98, 99]) W (digL_len _) (digL_octs _)
  rw [abc_hex] at HX
  generalize idC (digL [97, 98, 99]) = ic at *
  have kc := fun (w : World) (C : Array Value) (n c : Nat) => Lib.run_convert_bytes_const (P := Tryd.prog) w 25 5 C n c Tryd.underlying25 Tryd.underlying5
  go_enter Tryd.func7, Tryd.ntmps7
  go_wp2_with (first
    | (go_at_call 24; refine HS.mono ?_; rintro e w1 ⟨rfl, hk1⟩)
    | (go_at_call 11; refine (HX _).mono ?_; rintro e w2 ⟨rfl, hk2⟩))
  go_ret
  exact ⟨rfl, (((Kept.refl [] w).alloc _).then hk1).then hk2⟩
end Go.Proofs.YtlljiipmkjjhhaaDoor
