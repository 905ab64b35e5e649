/-
  WALKS: object.objectOf of a commit, of a tag.
-/
import Derived.Test.YtmambfdfkobjgaaDoorPar0
namespace Go.Proofs.YtmambfdfkobjgaaDoor
open Go.RowKit

set_option maxRecDepth 100000 in
set_option maxHeartbeats 2000000 in
theorem objectOfCom (c : ComL) (pv : Value) (w : World) (hl : c.tree.length = 32) (hpo : (comO c pv).row.toArray.all (·.oneCell') = true) (hp1 : (c.row pv).toArray.all (·.oneCell') = true) :
    Calls Tryd.prog 18 #[.iface 71 (.agg (c.row pv).toArray)] w fun e w' => e = .returned (.agg (comO c pv).row.toArray) ∧ Kept [] w w' := by
  have hbl := built_comO c pv hl
  have hsz : (c.row pv).toArray.size = 36 := com_len c pv hl
  have hsi : (Tryd.prog.info? 71).map (·.size) = some (c.row pv).toArray.size := by rw [hsz]; kernel_rfl
  have hoz : (comO c pv).row.toArray.size = 76 := obj_len _ hl rfl
  have hos : (Tryd.prog.info? 33).map (·.size) = some (comO c pv).row.toArray.size := by rw [hoz]; kernel_rfl
  have HZ : Hid ((w.alloc (.cells Tryd.zeroCells33 33)).heap[w.heap.size]? = some (.cells Tryd.zeroCells33 33 (0, 0))) := heap_alloc_new w _
  have hzz : Tryd.zeroCells33.size = (comO c pv).row.toArray.size := by rw [hoz]; kernel_rfl
  have HZ2 : Hid (((w.alloc (.cells Tryd.zeroCells33 33)).alloc (.cells (c.row pv).toArray 71)).heap[w.heap.size]? = some (.cells Tryd.zeroCells33 33 (0, 0))) := (Below.heap_alloc _ _ _ (by rw [World.size_alloc]; omega)).trans HZ.out
  have HC2 : Hid (((w.alloc (.cells Tryd.zeroCells33 33)).alloc (.cells (c.row pv).toArray 71)).heap[w.heap.size + 1]? = some (.cells (c.row pv).toArray 71 (0, 0))) := by
    have h := heap_alloc_new (w.alloc (.cells Tryd.zeroCells33 33)) (.cells (c.row pv).toArray 71)
    rw [World.size_alloc] at h
    exact h
  have HKF : Hid (Kept [] w (((w.alloc (.cells Tryd.zeroCells33 33)).alloc (.cells (c.row pv).toArray 71)).setRow w.heap.size (comO c pv).row.toArray)) := kept_setRow (((Kept.refl [] w).alloc _).alloc _) (Nat.le_refl _) _
  have hin : (w.alloc (.cells Tryd.zeroCells33 33)).heap.size = w.heap.size + 1 := World.size_alloc _ _
  have HOR : Hid (∃ x, x = (comO c pv).row.toArray) := ⟨_, rfl⟩
  generalize (c.row pv).toArray = cr at *
  generalize hob : (comO c pv).row.toArray = orr at *
  clear hob HOR
  have ta1 : ∀ W, (Instr.typeAssert (.iface 71 (.agg cr)) 54 69 true).run Tryd.prog W = .ok (.tuple #[.slice none 0 0, .bool false]) W := fun W => by kernel_rfl
  have ta2 : ∀ W, (Instr.typeAssert (.iface 71 (.agg cr)) 54 70 true).run Tryd.prog W = .ok (.tuple #[.slice none 0 0, .bool false]) W := fun W => by kernel_rfl
  have ta3 : ∀ W, (Instr.typeAssert (.iface 71 (.agg cr)) 54 71 true).run Tryd.prog W = .ok (.tuple #[.agg cr, .bool true]) W := fun W => by kernel_rfl
  go_enter Tryd.func18, Tryd.ntmps18
  go_wp2_with (first
    | (refine wpList_store_new (by rfl) 71 (.tmp 5) (.tmp 20) (by rfl) (w.alloc (.cells Tryd.zeroCells33 33)) _ cr (by simp [hin]; rfl) (by rfl) hsi (by rw [hsz]; rfl) hp1 ?_)
    | (refine wpList_load_row (by rfl) 71 (.tmp 5) (by rfl) (w.heap.size + 1) (by rfl) 71 cr (0, 0) _ HC2.out Tryd.underlying71 rfl hsi ?_)
    | (refine wpList_build_some (by rfl) 33 _ (by rfl) orr (by simp; exact hbl) ?_)
    | (refine wpList_store_row (by rfl) 33 (.tmp 2) (.tmp 22) (by rfl) w.heap.size orr (by rfl) (by rfl) 33 _ HZ2.out hos hzz hpo ?_))
  refine bodyPost_ret (v := .agg orr) ?_ rfl ⟨rfl, HKF.out⟩
  rw [results_cell1 rfl]
  have hld := run_loadVar_row (P := Tryd.prog) (((w.alloc (.cells Tryd.zeroCells33 33)).alloc (.cells cr 71)).setRow w.heap.size orr) w.heap.size 33 33 orr (0, 0) _ (setRow_heap _ _ _ _ _ _ HZ2.out) Tryd.underlying33 rfl hos
  exact hld

set_option maxRecDepth 100000 in
set_option maxHeartbeats 2000000 in
theorem objectOfTag (t : TagL) (w : World) (hl : t.target.length = 32) (hpo : (tagO t).row.toArray.all (·.oneCell') = true) (hp1 : t.row.toArray.all (·.oneCell') = true) :
    Calls Tryd.prog 18 #[.iface 72 (.agg t.row.toArray)] w fun e w' => e = .returned (.agg (tagO t).row.toArray) ∧ Kept [] w w' := by
  have hbl := built_tagO t hl
  have hsz : t.row.toArray.size = 37 := tag_len t hl
  have hsi : (Tryd.prog.info? 72).map (·.size) = some t.row.toArray.size := by rw [hsz]; kernel_rfl
  have hoz : (tagO t).row.toArray.size = 76 := obj_len _ rfl hl
  have hos : (Tryd.prog.info? 33).map (·.size) = some (tagO t).row.toArray.size := by rw [hoz]; kernel_rfl
  have HZ : Hid ((w.alloc (.cells Tryd.zeroCells33 33)).heap[w.heap.size]? = some (.cells Tryd.zeroCells33 33 (0, 0))) := heap_alloc_new w _
  have hzz : Tryd.zeroCells33.size = (tagO t).row.toArray.size := by rw [hoz]; kernel_rfl
  have HZ2 : Hid (((w.alloc (.cells Tryd.zeroCells33 33)).alloc (.cells t.row.toArray 72)).heap[w.heap.size]? = some (.cells Tryd.zeroCells33 33 (0, 0))) := (Below.heap_alloc _ _ _ (by rw [World.size_alloc]; omega)).trans HZ.out
  have HC2 : Hid (((w.alloc (.cells Tryd.zeroCells33 33)).alloc (.cells t.row.toArray 72)).heap[w.heap.size + 1]? = some (.cells t.row.toArray 72 (0, 0))) := by
    have h := heap_alloc_new (w.alloc (.cells Tryd.zeroCells33 33)) (.cells t.row.toArray 72)
    rw [World.size_alloc] at h
    exact h
  have HKF : Hid (Kept [] w (((w.alloc (.cells Tryd.zeroCells33 33)).alloc (.cells t.row.toArray 72)).setRow w.heap.size (tagO t).row.toArray)) := kept_setRow (((Kept.refl [] w).alloc _).alloc _) (Nat.le_refl _) _
  have hin : (w.alloc (.cells Tryd.zeroCells33 33)).heap.size = w.heap.size + 1 := World.size_alloc _ _
  have HOR : Hid (∃ x, x = (tagO t).row.toArray) := ⟨_, rfl⟩
  generalize t.row.toArray = cr at *
  generalize hob : (tagO t).row.toArray = orr at *
  clear hob HOR
  have ta1 : ∀ W, (Instr.typeAssert (.iface 72 (.agg cr)) 54 69 true).run Tryd.prog W = .ok (.tuple #[.slice none 0 0, .bool false]) W := fun W => by kernel_rfl
  have ta2 : ∀ W, (Instr.typeAssert (.iface 72 (.agg cr)) 54 70 true).run Tryd.prog W = .ok (.tuple #[.slice none 0 0, .bool false]) W := fun W => by kernel_rfl
  have ta3 : ∀ W, (Instr.typeAssert (.iface 72 (.agg cr)) 54 71 true).run Tryd.prog W = .ok (.tuple #[.agg (zeroC.row (.slice none 0 0)).toArray, .bool false]) W := fun W => by kernel_rfl
  have ta4 : ∀ W, (Instr.typeAssert (.iface 72 (.agg cr)) 54 72 true).run Tryd.prog W = .ok (.tuple #[.agg cr, .bool true]) W := fun W => by kernel_rfl
  generalize (zeroC.row (.slice none 0 0)).toArray = zcr at *
  go_enter Tryd.func18, Tryd.ntmps18
  go_wp2_with (first
    | (refine wpList_store_new (by rfl) 72 (.tmp 6) (.tmp 25) (by rfl) (w.alloc (.cells Tryd.zeroCells33 33)) _ cr (by simp [hin]; rfl) (by rfl) hsi (by rw [hsz]; rfl) hp1 ?_)
    | (refine wpList_load_row (by rfl) 72 (.tmp 6) (by rfl) (w.heap.size + 1) (by rfl) 72 cr (0, 0) _ HC2.out Tryd.underlying72 rfl hsi ?_)
    | (refine wpList_build_some (by rfl) 33 _ (by rfl) orr (by simp; exact hbl) ?_)
    | (refine wpList_store_row (by rfl) 33 (.tmp 2) (.tmp 27) (by rfl) w.heap.size orr (by rfl) (by rfl) 33 _ HZ2.out hos hzz hpo ?_))
  refine bodyPost_ret (v := .agg orr) ?_ rfl ⟨rfl, HKF.out⟩
  rw [results_cell1 rfl]
  have hld := run_loadVar_row (P := Tryd.prog) (((w.alloc (.cells Tryd.zeroCells33 33)).alloc (.cells cr 72)).setRow w.heap.size orr) w.heap.size 33 33 orr (0, 0) _ (setRow_heap _ _ _ _ _ _ HZ2.out) Tryd.underlying33 rfl hos
  exact hld
end Go.Proofs.YtmambfdfkobjgaaDoor
