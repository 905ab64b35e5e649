/-
  WALKS: object.Parse, over what object.read answers.
-/
import Derived.Test.YtmambfdfkobjgaaDoorPar1
namespace Go.Proofs.YtmambfdfkobjgaaDoor
open Go.RowKit

theorem comO_one (c : ComL) (pv : Value) (hp : pv.oneCell' = true) : (comO c pv).row.toArray.all (·.oneCell') = true := all_oneCell_toArray fun v hv => by
  unfold ObjL.row at hv
  rcases List.mem_append.1 hv with h | h
  · simp [comO, zeroO] at h
    rcases h with rfl | rfl <;> rfl
  · rcases List.mem_append.1 h with h | h
    · exact Array.all_eq_true_iff_forall_mem.1 (com_one c pv hp) v (by rw [List.mem_toArray]; exact h)
    · exact Array.all_eq_true_iff_forall_mem.1 (tag_one zeroG) v (by rw [List.mem_toArray]; exact h)
theorem tagO_one (t : TagL) : (tagO t).row.toArray.all (·.oneCell') = true := all_oneCell_toArray fun v hv => by
  unfold ObjL.row at hv
  rcases List.mem_append.1 hv with h | h
  · simp [tagO, zeroO] at h
    rcases h with rfl | rfl <;> rfl
  · rcases List.mem_append.1 h with h | h
    · exact Array.all_eq_true_iff_forall_mem.1 (com_one zeroC (.slice none 0 0) rfl) v (by rw [List.mem_toArray]; exact h)
    · exact Array.all_eq_true_iff_forall_mem.1 (tag_one t) v (by rw [List.mem_toArray]; exact h)

set_option maxRecDepth 100000 in
set_option maxHeartbeats 2000000 in
theorem parseCom (v : Value) (w : World) (c : ComL) (n : Nat) (hf : ∃ ao n c, v = .slice ao n c) (hl : c.tree.length = 32)
    (hrd : ∀ W, Kept [] w W → Calls Tryd.prog 17 #[v] W fun e w' => Kept [] W w' ∧ ∃ b, e = .returned (.tuple #[.iface 71 (.agg (c.row (.slice (some ⟨b, 0, none⟩) n n)).toArray), .int .i64 0]) ∧ RowsIn w' b 25 (c.parents.map idRow) ∧ W.heap.size ≤ b) :
    Calls Tryd.prog 8 #[v] w fun e w' => Kept [] w w' ∧ ∃ b, e = .returned (.tuple #[.agg (comO c (.slice (some ⟨b, 0, none⟩) n n)).row.toArray, .int .i64 0]) ∧ RowsIn w' b 25 (c.parents.map idRow) ∧ w.heap.size < b := by
  have HK0 : Hid (Kept [] w (w.alloc (.cells Tryd.zeroCells33 33))) := (Kept.refl _ _).alloc _
  have HZ : Hid ((w.alloc (.cells Tryd.zeroCells33 33)).heap[w.heap.size]? = some (.cells Tryd.zeroCells33 33 (0, 0))) := heap_alloc_new w _
  have hsw : (w.alloc (.cells Tryd.zeroCells33 33)).heap.size = w.heap.size + 1 := World.size_alloc _ _
  have hrd0 := hrd _ HK0.out
  have HOB : Hid (∀ W b, Calls Tryd.prog 18 #[.iface 71 (.agg (c.row (.slice (some ⟨b, 0, none⟩) n n)).toArray)] W fun e w' => e = .returned (.agg (comO c (.slice (some ⟨b, 0, none⟩) n n)).row.toArray) ∧ Kept [] W w') := fun W b => objectOfCom c _ W hl (comO_one c _ rfl) (com_one c _ rfl)
  have HOZ : Hid (∀ b, (comO c (.slice (some ⟨b, 0, none⟩) n n)).row.toArray.size = 76) := fun b => obj_len _ hl rfl
  have HO1 : Hid (∀ b, (comO c (.slice (some ⟨b, 0, none⟩) n n)).row.toArray.all (·.oneCell') = true) := fun b => comO_one c _ rfl
  obtain ⟨ao, m, cc, rfl⟩ := hf
  clear hrd
  go_enter Tryd.func8, Tryd.ntmps8
  go_wp2_with (first
    | (go_at_call 17; refine hrd0.mono ?_; rintro e w1 ⟨hk1, b1, rfl, hr1, hb1⟩
       have HK1 : Hid (Kept [] w w1) := HK0.out.then hk1
       have HZ1 : Hid (w1.heap[w.heap.size]? = some (.cells Tryd.zeroCells33 33 (0, 0))) := hk1.heap HZ.out (by simp)
       have HR1 : Hid (RowsIn w1 b1 25 (c.parents.map idRow)) := hr1
       have hoz := HOZ.out b1
       have ho1 := HO1.out b1
       have hos : (Tryd.prog.info? 33).map (·.size) = some (comO c (.slice (some ⟨b1, 0, none⟩) n n)).row.toArray.size := by rw [hoz]; kernel_rfl
       have hzz : Tryd.zeroCells33.size = (comO c (.slice (some ⟨b1, 0, none⟩) n n)).row.toArray.size := by rw [hoz]; kernel_rfl
       have hcall := fun W => HOB.out W b1
       clear hr1 hk1 hoz
       generalize hob : (comO c (.slice (some ⟨b1, 0, none⟩) n n)).row.toArray = orr at *
       generalize (c.row (.slice (some ⟨b1, 0, none⟩) n n)).toArray = cr at *)
    | (go_at_call 18; refine (hcall _).mono ?_; rintro e w2 ⟨rfl, hk2⟩
       have HK2 : Hid (Kept [] w w2) := HK1.out.then hk2
       have HZ2 : Hid (w2.heap[w.heap.size]? = some (.cells Tryd.zeroCells33 33 (0, 0))) := hk2.heap HZ1.out (by simp)
       have HR2 : Hid (RowsIn w2 b1 25 (c.parents.map idRow)) := HR1.out.kept hk2 (by simp)
       clear hk2)
    | (refine wpList_store_row (by rfl) 33 (.tmp 2) (.tmp 16) (by rfl) w.heap.size orr (by rfl) (by rfl) 33 _ HZ2.out hos hzz ho1 ?_))
  rw [hsw] at hb1
  refine bodyPost_ret (v := .tuple #[.agg orr, .int .i64 0]) ?_ rfl ⟨kept_setRow HK2.out (Nat.le_refl _) _, b1, by rw [hob], (setRow_other _ _ _ _ (by omega)).trans HR2.out, by omega⟩
  rw [results_cell_tmp rfl]
  have hld := run_loadVar_row (P := Tryd.prog) (w2.setRow w.heap.size orr) w.heap.size 33 33 orr (0, 0) _ (setRow_heap _ _ _ _ _ _ HZ2.out) Tryd.underlying33 rfl hos
  simp [asAddr, Result.andThen, hld]

set_option maxRecDepth 100000 in
set_option maxHeartbeats 2000000 in
theorem parseTag (v : Value) (w : World) (t : TagL) (hf : ∃ ao n c, v = .slice ao n c) (hl : t.target.length = 32)
    (hrd : ∀ W, Kept [] w W → Calls Tryd.prog 17 #[v] W fun e w' => Kept [] W w' ∧ e = .returned (.tuple #[.iface 72 (.agg t.row.toArray), .int .i64 0])) :
    Calls Tryd.prog 8 #[v] w fun e w' => Kept [] w w' ∧ e = .returned (.tuple #[.agg (tagO t).row.toArray, .int .i64 0]) := by
  have HK0 : Hid (Kept [] w (w.alloc (.cells Tryd.zeroCells33 33))) := (Kept.refl _ _).alloc _
  have HZ : Hid ((w.alloc (.cells Tryd.zeroCells33 33)).heap[w.heap.size]? = some (.cells Tryd.zeroCells33 33 (0, 0))) := heap_alloc_new w _
  have hrd0 := hrd _ HK0.out
  have hoz : (tagO t).row.toArray.size = 76 := obj_len _ rfl hl
  have ho1 := tagO_one t
  have hos : (Tryd.prog.info? 33).map (·.size) = some (tagO t).row.toArray.size := by rw [hoz]; kernel_rfl
  have hzz : Tryd.zeroCells33.size = (tagO t).row.toArray.size := by rw [hoz]; kernel_rfl
  have hcall := fun W => objectOfTag t W hl (tagO_one t) (tag_one t)
  obtain ⟨ao, m, cc, rfl⟩ := hf
  clear hrd hoz
  generalize (tagO t).row.toArray = orr at *
  generalize t.row.toArray = cr at *
  go_enter Tryd.func8, Tryd.ntmps8
  go_wp2_with (first
    | (go_at_call 17; refine hrd0.mono ?_; rintro e w1 ⟨hk1, rfl⟩
       have HK1 : Hid (Kept [] w w1) := HK0.out.then hk1
       have HZ1 : Hid (w1.heap[w.heap.size]? = some (.cells Tryd.zeroCells33 33 (0, 0))) := hk1.heap HZ.out (by simp)
       clear hk1)
    | (go_at_call 18; refine (hcall _).mono ?_; rintro e w2 ⟨rfl, hk2⟩
       have HK2 : Hid (Kept [] w w2) := HK1.out.then hk2
       have HZ2 : Hid (w2.heap[w.heap.size]? = some (.cells Tryd.zeroCells33 33 (0, 0))) := hk2.heap HZ1.out (by simp)
       clear hk2)
    | (refine wpList_store_row (by rfl) 33 (.tmp 2) (.tmp 16) (by rfl) w.heap.size orr (by rfl) (by rfl) 33 _ HZ2.out hos hzz ho1 ?_))
  refine bodyPost_ret (v := .tuple #[.agg orr, .int .i64 0]) ?_ rfl ⟨kept_setRow HK2.out (Nat.le_refl _) _, rfl⟩
  rw [results_cell_tmp rfl]
  have hld := run_loadVar_row (P := Tryd.prog) (w2.setRow w.heap.size orr) w.heap.size 33 33 orr (0, 0) _ (setRow_heap _ _ _ _ _ _ HZ2.out) Tryd.underlying33 rfl hos
  simp [asAddr, Result.andThen, hld]
end Go.Proofs.YtmambfdfkobjgaaDoor
