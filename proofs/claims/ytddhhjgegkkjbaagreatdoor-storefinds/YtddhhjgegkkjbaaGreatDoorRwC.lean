/-
  WALK: the comparison that Store.rows sorts by.
-/
import Derived.Test.YtddhhjgegkkjbaaGreatDoorSha2
import Derived.Test.YtddhhjgegkkjbaaGreatDoorCmpB
import Derived.Deep.QuietTactic
import Derived.BigQuiet
namespace Go.Proofs.YtddhhjgegkkjbaaGreatDoor
open Go.RowKit

/-- A row: an id, its encoding. -/
def rowC (xs : List Int) (v : Value) : Array Value := (xs.map (Value.int .u8) ++ [v]).toArray
theorem rowC_cell {w : World} {g : Nat} {xs : List Int} {v : Value} {t : TypeId} {fr : Nat × Nat} (h : w.heap[g]? = some (.cells (rowC xs v) t fr)) (i : Nat) (x : Int) (hx : xs[i]? = some x) : w.cell? ((⟨g, 0, none⟩ : Addr).add i) = some (.int .u8 x) := by
  have hi : i < xs.length := (List.getElem?_eq_some_iff.1 hx).1
  have e : (⟨g, 0, none⟩ : Addr).add i = ⟨g, 0 + i, none⟩ := by unfold Addr.add; split <;> simp_all
  rw [e, cell_of_row _ _ _ _ _ _ h, Nat.zero_add, ← Array.getElem?_toList]
  show (xs.map (Value.int .u8) ++ [v])[i]? = _
  rw [List.getElem?_append_left (by simpa using hi), List.getElem?_map, hx]
  rfl

set_option maxHeartbeats 1000000 in
set_option maxRecDepth 100000 in
/-- Rows are held against each other by their ids. -/
theorem rowCmp_any (xs ys : List Int) (u v : Value) (W : World) (hx : GoodID xs) (hy : GoodID ys) :
    Calls Tryz.prog 37 #[.agg (rowC xs u), .agg (rowC ys v)] W fun e w' => e = .returned (.int .i64 (cmpB xs ys)) ∧ ∃ n, w' = ((W.alloc (.cells (rowC xs u) 68)).alloc (.cells (rowC ys v) 68)).drewN n := by
  have hcmp : ∀ n, Calls Tryz.prog 38 #[.slice (some ⟨W.heap.size, 0, none⟩) 32 32, .slice (some ⟨W.heap.size + 1, 0, none⟩) 32 32] (((W.alloc (.cells (rowC xs u) 68)).alloc (.cells (rowC ys v) 68)).drewN n) fun e w' => e = .returned (.int .i64 (cmpB xs ys)) ∧ w' = ((W.alloc (.cells (rowC xs u) 68)).alloc (.cells (rowC ys v) 68)).drewN n := fun n => by
    have h := Compare_any ⟨W.heap.size, 0, none⟩ ⟨W.heap.size + 1, 0, none⟩ 32 32 xs ys (((W.alloc (.cells (rowC xs u) 68)).alloc (.cells (rowC ys v) 68)).drewN n)
      (rowC_cell (xs := xs) (v := u) (t := 68) (fr := (0, 0)) (by
        show ((W.alloc _).alloc _).heap[W.heap.size]? = _
        rw [Below.heap_alloc _ _ _ (by rw [World.size_alloc]; omega)]
        exact heap_alloc_new W _))
      (rowC_cell (xs := ys) (v := v) (t := 68) (fr := (0, 0)) (by
        have := heap_alloc_new (W.alloc (.cells (rowC xs u) 68)) (.cells (rowC ys v) 68)
        rw [World.size_alloc] at this
        exact this))
      (fun x h => hx.2 x h) (fun x h => hy.2 x h)
    rw [hx.1, hy.1] at h
    exact h
  have s1 : (rowC xs u).size = 33 := by simp [rowC, hx.1]
  have s2 : (rowC ys v).size = 33 := by simp [rowC, hy.1]
  clear hx hy
  generalize rowC xs u = c1 at *
  generalize rowC ys v = c2 at *
  generalize cmpB xs ys = z at *
  go_enter Tryz.func37, Tryz.ntmps37
  go_wp2
  go_quiet (first | (go_at_call 38; exact Calls.quiet_of_same (hcmp _)))
  go_wp2
  go_ret
  exact ⟨rfl, _, rfl⟩
end Go.Proofs.YtddhhjgegkkjbaaGreatDoor
