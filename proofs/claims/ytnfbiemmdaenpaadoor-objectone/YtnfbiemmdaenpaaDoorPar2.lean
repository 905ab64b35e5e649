/-
  WALKS: object.objectOf of a commit, of a tag.
  WALKS: object.Parse, over what object.read answers.
-/
import Derived.Test.YtnfbiemmdaenpaaDoorPar0
namespace Go.Proofs.YtnfbiemmdaenpaaDoor
open Go.RowKit

set_option maxRecDepth 100000 in
set_option maxHeartbeats 2000000 in
theorem objectOfCom (c : ComL) (pv : Value) (w : World) (hl : c.tree.length = 32) (hpo : (comO c pv).row.toArray.all (·.oneCell') = true) (hp1 : (c.row pv).toArray.all (·.oneCell') = true) :
    Calls Tryd.prog 27 #[.iface 82 (.agg (c.row pv).toArray)] w fun e w' => e = .returned (.agg (comO c pv).row.toArray) ∧ Kept [] w w' := by
  have hbl := built_comO c pv hl
  have hsz : (c.row pv).toArray.size = 36 := com_len c pv hl
  have hsi : (Tryd.prog.info? 82).map (·.size) = some (c.row pv).toArray.size := by rw [hsz]; kernel_rfl
  have hoz : (comO c pv).row.toArray.size = 76 := obj_len _ hl rfl
  have hos : (Tryd.prog.info? 33).map (·.size) = some (comO c pv).row.toArray.size := by rw [hoz]; kernel_rfl
  have HZ : Hid ((w.alloc (.cells Tryd.zeroCells33 33)).heap[w.heap.size]? = some (.cells Tryd.zeroCells33 33 (0, 0))) := heap_alloc_new w _
  have hzz : Tryd.zeroCells33.size = (comO c pv).row.toArray.size := by rw [hoz]; kernel_rfl
  have HZ2 : Hid (((w.alloc (.cells Tryd.zeroCells33 33)).alloc (.cells (c.row pv).toArray 82)).heap[w.heap.size]? = some (.cells Tryd.zeroCells33 33 (0, 0))) := (Below.heap_alloc _ _ _ (by rw [World.size_alloc]; omega)).trans HZ.out
  have HC2 : Hid (((w.alloc (.cells Tryd.zeroCells33 33)).alloc (.cells (c.row pv).toArray 82)).heap[w.heap.size + 1]? = some (.cells (c.row pv).toArray 82 (0, 0))) := by
    have h := heap_alloc_new (w.alloc (.cells Tryd.zeroCells33 33)) (.cells (c.row pv).toArray 82)
    rw [World.size_alloc] at h
    exact h
  have HKF : Hid (Kept [] w (((w.alloc (.cells Tryd.zeroCells33 33)).alloc (.cells (c.row pv).toArray 82)).setRow w.heap.size (comO c pv).row.toArray)) := kept_setRow (((Kept.refl [] w).alloc _).alloc _) (Nat.le_refl _) _
  have hin : (w.alloc (.cells Tryd.zeroCells33 33)).heap.size = w.heap.size + 1 := World.size_alloc _ _
  have HOR : Hid (∃ x, x = (comO c pv).row.toArray) := ⟨_, rfl⟩
  generalize (c.row pv).toArray = cr at *
  generalize hob : (comO c pv).row.toArray = orr at *
  clear hob HOR
  have ta1 : ∀ W, (Instr.typeAssert (.iface 82 (.agg cr)) 60 80 true).run Tryd.prog W = .ok (.tuple #[.slice none 0 0, .bool false]) W := fun W => by kernel_rfl
  have ta2 : ∀ W, (Instr.typeAssert (.iface 82 (.agg cr)) 60 81 true).run Tryd.prog W = .ok (.tuple #[.slice none 0 0, .bool false]) W := fun W => by kernel_rfl
  have ta3 : ∀ W, (Instr.typeAssert (.iface 82 (.agg cr)) 60 82 true).run Tryd.prog W = .ok (.tuple #[.agg cr, .bool true]) W := fun W => by kernel_rfl
  go_enter Tryd.func27, Tryd.ntmps27
  go_wp2_with (first
    | (refine wpList_store_new (by rfl) 82 (.tmp 5) (.tmp 20) (by rfl) (w.alloc (.cells Tryd.zeroCells33 33)) _ cr (by simp [hin]; rfl) (by rfl) hsi (by rw [hsz]; rfl) hp1 ?_)
    | (refine wpList_load_row (by rfl) 82 (.tmp 5) (by rfl) (w.heap.size + 1) (by rfl) 82 cr (0, 0) _ HC2.out Tryd.underlying82 rfl hsi ?_)
    | (refine wpList_build_some (by rfl) 33 _ (by rfl) orr (by simp; exact hbl) ?_)
    | (refine wpList_store_row (by rfl) 33 (.tmp 2) (.tmp 22) (by rfl) w.heap.size orr (by rfl) (by rfl) 33 _ HZ2.out hos hzz hpo ?_))
  refine bodyPost_ret (v := .agg orr) ?_ rfl ⟨rfl, HKF.out⟩
  rw [results_cell1 rfl]
  have hld := run_loadVar_row (P := Tryd.prog) (((w.alloc (.cells Tryd.zeroCells33 33)).alloc (.cells cr 82)).setRow w.heap.size orr) w.heap.size 33 33 orr (0, 0) _ (setRow_heap _ _ _ _ _ _ HZ2.out) Tryd.underlying33 rfl hos
  exact hld

set_option maxRecDepth 100000 in
set_option maxHeartbeats 2000000 in
theorem objectOfTag (t : TagL) (w : World) (hl : t.target.length = 32) (hpo : (tagO t).row.toArray.all (·.oneCell') = true) (hp1 : t.row.toArray.all (·.oneCell') = true) :
    Calls Tryd.prog 27 #[.iface 83 (.agg t.row.toArray)] w fun e w' => e = .returned (.agg (tagO t).row.toArray) ∧ Kept [] w w' := by
  have hbl := built_tagO t hl
  have hsz : t.row.toArray.size = 37 := tag_len t hl
  have hsi : (Tryd.prog.info? 83).map (·.size) = some t.row.toArray.size := by rw [hsz]; kernel_rfl
  have hoz : (tagO t).row.toArray.size = 76 := obj_len _ rfl hl
  have hos : (Tryd.prog.info? 33).map (·.size) = some (tagO t).row.toArray.size := by rw [hoz]; kernel_rfl
  have HZ : Hid ((w.alloc (.cells Tryd.zeroCells33 33)).heap[w.heap.size]? = some (.cells Tryd.zeroCells33 33 (0, 0))) := heap_alloc_new w _
  have hzz : Tryd.zeroCells33.size = (tagO t).row.toArray.size := by rw [hoz]; kernel_rfl
  have HZ2 : Hid (((w.alloc (.cells Tryd.zeroCells33 33)).alloc (.cells t.row.toArray 83)).heap[w.heap.size]? = some (.cells Tryd.zeroCells33 33 (0, 0))) := (Below.heap_alloc _ _ _ (by rw [World.size_alloc]; omega)).trans HZ.out
  have HC2 : Hid (((w.alloc (.cells Tryd.zeroCells33 33)).alloc (.cells t.row.toArray 83)).heap[w.heap.size + 1]? = some (.cells t.row.toArray 83 (0, 0))) := by
    have h := heap_alloc_new (w.alloc (.cells Tryd.zeroCells33 33)) (.cells t.row.toArray 83)
    rw [World.size_alloc] at h
    exact h
  have HKF : Hid (Kept [] w (((w.alloc (.cells Tryd.zeroCells33 33)).alloc (.cells t.row.toArray 83)).setRow w.heap.size (tagO t).row.toArray)) := kept_setRow (((Kept.refl [] w).alloc _).alloc _) (Nat.le_refl _) _
  have hin : (w.alloc (.cells Tryd.zeroCells33 33)).heap.size = w.heap.size + 1 := World.size_alloc _ _
  have HOR : Hid (∃ x, x = (tagO t).row.toArray) := ⟨_, rfl⟩
  generalize t.row.toArray = cr at *
  generalize hob : (tagO t).row.toArray = orr at *
  clear hob HOR
  have ta1 : ∀ W, (Instr.typeAssert (.iface 83 (.agg cr)) 60 80 true).run Tryd.prog W = .ok (.tuple #[.slice none 0 0, .bool false]) W := fun W => by kernel_rfl
  have ta2 : ∀ W, (Instr.typeAssert (.iface 83 (.agg cr)) 60 81 true).run Tryd.prog W = .ok (.tuple #[.slice none 0 0, .bool false]) W := fun W => by kernel_rfl
  have ta3 : ∀ W, (Instr.typeAssert (.iface 83 (.agg cr)) 60 82 true).run Tryd.prog W = .ok (.tuple #[.agg (zeroC.row (.slice none 0 0)).toArray, .bool false]) W := fun W => by kernel_rfl
  have ta4 : ∀ W, (Instr.typeAssert (.iface 83 (.agg cr)) 60 83 true).run Tryd.prog W = .ok (.tuple #[.agg cr, .bool true]) W := fun W => by kernel_rfl
  generalize (zeroC.row (.slice none 0 0)).toArray = zcr at *
  go_enter Tryd.func27, Tryd.ntmps27
  go_wp2_with (first
    | (refine wpList_store_new (by rfl) 83 (.tmp 6) (.tmp 25) (by rfl) (w.alloc (.cells Tryd.zeroCells33 33)) _ cr (by simp [hin]; rfl) (by rfl) hsi (by rw [hsz]; rfl) hp1 ?_)
    | (refine wpList_load_row (by rfl) 83 (.tmp 6) (by rfl) (w.heap.size + 1) (by rfl) 83 cr (0, 0) _ HC2.out Tryd.underlying83 rfl hsi ?_)
    | (refine wpList_build_some (by rfl) 33 _ (by rfl) orr (by simp; exact hbl) ?_)
    | (refine wpList_store_row (by rfl) 33 (.tmp 2) (.tmp 27) (by rfl) w.heap.size orr (by rfl) (by rfl) 33 _ HZ2.out hos hzz hpo ?_))
  refine bodyPost_ret (v := .agg orr) ?_ rfl ⟨rfl, HKF.out⟩
  rw [results_cell1 rfl]
  have hld := run_loadVar_row (P := Tryd.prog) (((w.alloc (.cells Tryd.zeroCells33 33)).alloc (.cells cr 83)).setRow w.heap.size orr) w.heap.size 33 33 orr (0, 0) _ (setRow_heap _ _ _ _ _ _ HZ2.out) Tryd.underlying33 rfl hos
  exact hld
end Go.Proofs.YtnfbiemmdaenpaaDoor

namespace Go.Proofs.YtnfbiemmdaenpaaDoor
open Go.RowKit

theorem comO_one (c : ComL) (pv : Value) (hp : pv.oneCell' = true) : (comO c pv).row.toArray.all (·.oneCell') = true := all_oneCell_toArray fun v hv => by
  unfold ObjL.row at hv
  rcases List.mem_append.1 hv with h | h
  · simp [comO, zeroO] at h
    rcases h with rfl | rfl <;> rfl
  · rcases List.mem_append.1 h with h | h
    · exact Array.all_eq_true_iff_forall_mem.1 (com_one c pv hp) v (by rw [List.mem_toArray]; exact h)
    · exact Array.all_eq_true_iff_forall_mem.1 (tag_one zeroG) v (by rw [List.mem_toArray]; exact h)
theorem tagO_one (t : TagL) : (tagO t).row.toArray.all (·.oneCell') = true := all_oneCell_toArray fun v hv => by
  unfold ObjL.row at hv
  rcases List.mem_append.1 hv with h | h
  · simp [tagO, zeroO] at h
    rcases h with rfl | rfl <;> rfl
  · rcases List.mem_append.1 h with h | h
    · exact Array.all_eq_true_iff_forall_mem.1 (com_one zeroC (.slice none 0 0) rfl) v (by rw [List.mem_toArray]; exact h)
    · exact Array.all_eq_true_iff_forall_mem.1 (tag_one t) v (by rw [List.mem_toArray]; exact h)

set_option maxRecDepth 100000 in
set_option maxHeartbeats 2000000 in
theorem parseCom (v : Value) (w : World) (c : ComL) (n : Nat) (hf : ∃ ao n c, v = .slice ao n c) (hl : c.tree.length = 32)
    (hrd : ∀ W, Kept [] w W → Calls Tryd.prog 26 #[v] W fun e w' => Kept [] W w' ∧ ∃ b, e = .returned (.tuple #[.iface 82 (.agg (c.row (.slice (some ⟨b, 0, none⟩) n n)).toArray), .int .i64 0]) ∧ RowsIn w' b 25 (c.parents.map idRow) ∧ W.heap.size ≤ b) :
    Calls Tryd.prog 9 #[v] w fun e w' => Kept [] w w' ∧ ∃ b, e = .returned (.tuple #[.agg (comO c (.slice (some ⟨b, 0, none⟩) n n)).row.toArray, .int .i64 0]) ∧ RowsIn w' b 25 (c.parents.map idRow) ∧ w.heap.size < b := by
  have HK0 : Hid (Kept [] w (w.alloc (.cells Tryd.zeroCells33 33))) := (Kept.refl _ _).alloc _
  have HZ : Hid ((w.alloc (.cells Tryd.zeroCells33 33)).heap[w.heap.size]? = some (.cells Tryd.zeroCells33 33 (0, 0))) := heap_alloc_new w _
  have hsw : (w.alloc (.cells Tryd.zeroCells33 33)).heap.size = w.heap.size + 1 := World.size_alloc _ _
  have hrd0 := hrd _ HK0.out
  have HOB : Hid (∀ W b, Calls Tryd.prog 27 #[.iface 82 (.agg (c.row (.slice (some ⟨b, 0, none⟩) n n)).toArray)] W fun e w' => e = .returned (.agg (comO c (.slice (some ⟨b, 0, none⟩) n n)).row.toArray) ∧ Kept [] W w') := fun W b => objectOfCom c _ W hl (comO_one c _ rfl) (com_one c _ rfl)
  have HOZ : Hid (∀ b, (comO c (.slice (some ⟨b, 0, none⟩) n n)).row.toArray.size = 76) := fun b => obj_len _ hl rfl
  have HO1 : Hid (∀ b, (comO c (.slice (some ⟨b, 0, none⟩) n n)).row.toArray.all (·.oneCell') = true) := fun b => comO_one c _ rfl
  obtain ⟨ao, m, cc, rfl⟩ := hf
  clear hrd
  go_enter Tryd.func9, Tryd.ntmps9
  go_wp2_with (first
    | (go_at_call 26; refine hrd0.mono ?_; rintro e w1 ⟨hk1, b1, rfl, hr1, hb1⟩
       have HK1 : Hid (Kept [] w w1) := HK0.out.then hk1
       have HZ1 : Hid (w1.heap[w.heap.size]? = some (.cells Tryd.zeroCells33 33 (0, 0))) := hk1.heap HZ.out (by simp)
       have HR1 : Hid (RowsIn w1 b1 25 (c.parents.map idRow)) := hr1
       have hoz := HOZ.out b1
       have ho1 := HO1.out b1
       have hos : (Tryd.prog.info? 33).map (·.size) = some (comO c (.slice (some ⟨b1, 0, none⟩) n n)).row.toArray.size := by rw [hoz]; kernel_rfl
       have hzz : Tryd.zeroCells33.size = (comO c (.slice (some ⟨b1, 0, none⟩) n n)).row.toArray.size := by rw [hoz]; kernel_rfl
       have hcall := fun W => HOB.out W b1
       clear hr1 hk1 hoz
       generalize hob : (comO c (.slice (some ⟨b1, 0, none⟩) n n)).row.toArray = orr at *
       generalize (c.row (.slice (some ⟨b1, 0, none⟩) n n)).toArray = cr at *)
    | (go_at_call 27; refine (hcall _).mono ?_; rintro e w2 ⟨rfl, hk2⟩
       have HK2 : Hid (Kept [] w w2) := HK1.out.then hk2
       have HZ2 : Hid (w2.heap[w.heap.size]? = some (.cells Tryd.zeroCells33 33 (0, 0))) := hk2.heap HZ1.out (by simp)
       have HR2 : Hid (RowsIn w2 b1 25 (c.parents.map idRow)) := HR1.out.kept hk2 (by simp)
       clear hk2)
    | (refine wpList_store_row (by rfl) 33 (.tmp 2) (.tmp 16) (by rfl) w.heap.size orr (by rfl) (by rfl) 33 _ HZ2.out hos hzz ho1 ?_))
  rw [hsw] at hb1
  refine bodyPost_ret (v := .tuple #[.agg orr, .int .i64 0]) ?_ rfl ⟨kept_setRow HK2.out (Nat.le_refl _) _, b1, by rw [hob], (setRow_other _ _ _ _ (by omega)).trans HR2.out, by omega⟩
  rw [results_cell_tmp rfl]
  have hld := run_loadVar_row (P := Tryd.prog) (w2.setRow w.heap.size orr) w.heap.size 33 33 orr (0, 0) _ (setRow_heap _ _ _ _ _ _ HZ2.out) Tryd.underlying33 rfl hos
  simp [asAddr, Result.andThen, hld]

set_option maxRecDepth 100000 in
set_option maxHeartbeats 2000000 in
theorem parseTag (v : Value) (w : World) (t : TagL) (hf : ∃ ao n c, v = .slice ao n c) (hl : t.target.length = 32)
    (hrd : ∀ W, Kept [] w W → Calls Tryd.prog 26 #[v] W fun e w' => Kept [] W w' ∧ e = .returned (.tuple #[.iface 83 (.agg t.row.toArray), .int .i64 0])) :
    Calls Tryd.prog 9 #[v] w fun e w' => Kept [] w w' ∧ e = .returned (.tuple #[.agg (tagO t).row.toArray, .int .i64 0]) := by
  have HK0 : Hid (Kept [] w (w.alloc (.cells Tryd.zeroCells33 33))) := (Kept.refl _ _).alloc _
  have HZ : Hid ((w.alloc (.cells Tryd.zeroCells33 33)).heap[w.heap.size]? = some (.cells Tryd.zeroCells33 33 (0, 0))) := heap_alloc_new w _
  have hrd0 := hrd _ HK0.out
  have hoz : (tagO t).row.toArray.size = 76 := obj_len _ rfl hl
  have ho1 := tagO_one t
  have hos : (Tryd.prog.info? 33).map (·.size) = some (tagO t).row.toArray.size := by rw [hoz]; kernel_rfl
  have hzz : Tryd.zeroCells33.size = (tagO t).row.toArray.size := by rw [hoz]; kernel_rfl
  have hcall := fun W => objectOfTag t W hl (tagO_one t) (tag_one t)
  obtain ⟨ao, m, cc, rfl⟩ := hf
  clear hrd hoz
  generalize (tagO t).row.toArray = orr at *
  generalize t.row.toArray = cr at *
  go_enter Tryd.func9, Tryd.ntmps9
  go_wp2_with (first
    | (go_at_call 26; refine hrd0.mono ?_; rintro e w1 ⟨hk1, rfl⟩
       have HK1 : Hid (Kept [] w w1) := HK0.out.then hk1
       have HZ1 : Hid (w1.heap[w.heap.size]? = some (.cells Tryd.zeroCells33 33 (0, 0))) := hk1.heap HZ.out (by simp)
       clear hk1)
    | (go_at_call 27; refine (hcall _).mono ?_; rintro e w2 ⟨rfl, hk2⟩
       have HK2 : Hid (Kept [] w w2) := HK1.out.then hk2
       have HZ2 : Hid (w2.heap[w.heap.size]? = some (.cells Tryd.zeroCells33 33 (0, 0))) := hk2.heap HZ1.out (by simp)
       clear hk2)
    | (refine wpList_store_row (by rfl) 33 (.tmp 2) (.tmp 16) (by rfl) w.heap.size orr (by rfl) (by rfl) 33 _ HZ2.out hos hzz ho1 ?_))
  refine bodyPost_ret (v := .tuple #[.agg orr, .int .i64 0]) ?_ rfl ⟨kept_setRow HK2.out (Nat.le_refl _) _, rfl⟩
  rw [results_cell_tmp rfl]
  have hld := run_loadVar_row (P := Tryd.prog) (w2.setRow w.heap.size orr) w.heap.size 33 33 orr (0, 0) _ (setRow_heap _ _ _ _ _ _ HZ2.out) Tryd.underlying33 rfl hos
  simp [asAddr, Result.andThen, hld]
end Go.Proofs.YtnfbiemmdaenpaaDoor
