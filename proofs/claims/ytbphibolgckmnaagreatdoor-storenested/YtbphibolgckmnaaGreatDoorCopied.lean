/-
  WALK: the comparison that Store.rows sorts by.
  WALK: code.copied, for every slice of bytes: a new row that holds the same bytes.
-/
import Derived.Test.YtbphibolgckmnaaGreatDoorSha2
import Derived.Test.YtbphibolgckmnaaGreatDoorCmpB
import Derived.Deep.QuietTactic
import Derived.BigQuiet
import Derived.Test.YtbphibolgckmnaaGreatDoorPlain
namespace Go.Proofs.YtbphibolgckmnaaGreatDoor
open Go.RowKit

/-- A row: an id, its encoding. -/
def rowC (xs : List Int) (v : Value) : Array Value := (xs.map (Value.int .u8) ++ [v]).toArray
theorem rowC_cell {w : World} {g : Nat} {xs : List Int} {v : Value} {t : TypeId} {fr : Nat × Nat} (h : w.heap[g]? = some (.cells (rowC xs v) t fr)) (i : Nat) (x : Int) (hx : xs[i]? = some x) : w.cell? ((⟨g, 0, none⟩ : Addr).add i) = some (.int .u8 x) := by
  have hi : i < xs.length := (List.getElem?_eq_some_iff.1 hx).1
  have e : (⟨g, 0, none⟩ : Addr).add i = ⟨g, 0 + i, none⟩ := by unfold Addr.add; split <;> simp_all
  rw [e, cell_of_row _ _ _ _ _ _ h, Nat.zero_add, ← Array.getElem?_toList]
  show (xs.map (Value.int .u8) ++ [v])[i]? = _
  rw [List.getElem?_append_left (by simpa using hi), List.getElem?_map, hx]
  rfl

set_option maxHeartbeats 1000000 in
set_option maxRecDepth 100000 in
/-- Rows are held against each other by their ids. -/
theorem rowCmp_any (xs ys : List Int) (u v : Value) (W : World) (hx : GoodID xs) (hy : GoodID ys) :
    Calls Tryz.prog 52 #[.agg (rowC xs u), .agg (rowC ys v)] W fun e w' => e = .returned (.int .i64 (cmpB xs ys)) ∧ ∃ n, w' = ((W.alloc (.cells (rowC xs u) 89)).alloc (.cells (rowC ys v) 89)).drewN n := by
  have hcmp : ∀ n, Calls Tryz.prog 53 #[.slice (some ⟨W.heap.size, 0, none⟩) 32 32, .slice (some ⟨W.heap.size + 1, 0, none⟩) 32 32] (((W.alloc (.cells (rowC xs u) 89)).alloc (.cells (rowC ys v) 89)).drewN n) fun e w' => e = .returned (.int .i64 (cmpB xs ys)) ∧ w' = ((W.alloc (.cells (rowC xs u) 89)).alloc (.cells (rowC ys v) 89)).drewN n := fun n => by
    have h := Compare_any ⟨W.heap.size, 0, none⟩ ⟨W.heap.size + 1, 0, none⟩ 32 32 xs ys (((W.alloc (.cells (rowC xs u) 89)).alloc (.cells (rowC ys v) 89)).drewN n)
      (rowC_cell (xs := xs) (v := u) (t := 89) (fr := (0, 0)) (by
        show ((W.alloc _).alloc _).heap[W.heap.size]? = _
        rw [Below.heap_alloc _ _ _ (by rw [World.size_alloc]; omega)]
        exact heap_alloc_new W _))
      (rowC_cell (xs := ys) (v := v) (t := 89) (fr := (0, 0)) (by
        have := heap_alloc_new (W.alloc (.cells (rowC xs u) 89)) (.cells (rowC ys v) 89)
        rw [World.size_alloc] at this
        exact this))
      (fun x h => hx.2 x h) (fun x h => hy.2 x h)
    rw [hx.1, hy.1] at h
    exact h
  have s1 : (rowC xs u).size = 33 := by simp [rowC, hx.1]
  have s2 : (rowC ys v).size = 33 := by simp [rowC, hy.1]
  clear hx hy
  generalize rowC xs u = c1 at *
  generalize rowC ys v = c2 at *
  generalize cmpB xs ys = z at *
  go_enter Tryz.func52, Tryz.ntmps52
  go_wp2
  go_quiet (first | (go_at_call 53; exact Calls.quiet_of_same (hcmp _)))
  go_wp2
  go_ret
  exact ⟨rfl, _, rfl⟩
end Go.Proofs.YtbphibolgckmnaaGreatDoor

namespace Go.Proofs.YtbphibolgckmnaaGreatDoor
open Go.RowKit

set_option maxHeartbeats 400000 in
theorem copied_any (v : Value) (ys : List Int) (w : World) (h : BytesAt w v ys) (hm : ys.length ≤ 140737488355328) :
    Calls Tryz.prog 71 #[v] w fun e w' => e = .returned (.slice (some ⟨w.heap.size, 0, none⟩) ys.length ys.length) ∧
      w'.heap[w.heap.size]? = some (.cells (ys.map (Value.int .u8)).toArray 5 (0, 0)) ∧ Kept [] w w' := by
  obtain ⟨ao, cap, rfl, hc, hnil, hcell⟩ := h
  have hmk := run_make_row' (P := Tryz.prog) 33 5 (.int .u8 0) 1 Tryz.underlying33 Tryz.info_u8 rfl .i64 .i64 ys.length (by omega) (by omega)
  obtain ⟨cs, hcs⟩ : ∃ cs, cs = ys.map (Value.int .u8) := ⟨_, rfl⟩
  have HC : Hid (cs = ys.map (Value.int .u8)) := hcs
  clear hcs
  go_enter Tryz.func71, Tryz.ntmps71
  go_wp2_with (refine wpList_copy_splice rfl (.tmp 7) (.tmp 8) 33 33 rfl 5 Tryz.underlying33 Tryz.size_u8 _ _ _ _ _ _ rfl rfl w.heap.size 0 (List.replicate ys.length (.int .u8 0)) 5 ?cg cs ?cn ?cp ?cf ?co w.heap.size w ?cb (Nat.le_refl _) ?_)
  case cg => rw [← toList_madeCells_one]; exact heap_alloc_new w _
  case cn => rw [HC.out]; simp
  case cp =>
    intro h0
    rw [HC.out] at h0
    obtain ⟨b, off, rfl, hh⟩ := hcell (by rintro rfl; simp at h0)
    refine ⟨_, rfl, fun j u hu => ?_⟩
    rw [HC.out] at hu
    simp only [List.getElem?_map, Option.map_eq_some_iff] at hu
    obtain ⟨z, hz, rfl⟩ := hu
    rw [Addr.add_mid, World.cell?_alloc_lt]
    · exact hh j z hz
    · exact World.block_lt_of_cell? w _ (hh j z hz)
  case cf => rw [HC.out]; simp
  case co => rw [HC.out]; exact map_oneCell ys
  case cb => exact (Below.refl _ _).alloc (Nat.le_refl _) _
  intro w2 hg hb
  go_wp2
  go_ret
  refine ⟨rfl, ?_, kept_of_below hb⟩
  rw [hg.out, splice_all _ _ _ (by rw [HC.out]; simp), HC.out]

end Go.Proofs.YtbphibolgckmnaaGreatDoor
