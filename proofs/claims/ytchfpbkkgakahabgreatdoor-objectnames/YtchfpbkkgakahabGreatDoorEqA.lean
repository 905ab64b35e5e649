/-
  WALKS: object.Parse, over what object.read answers.
  WALKS: satchelref0.Cmp and Eq over two slices of the same bytes; satchellaw1.into.
-/
import Derived.Test.YtchfpbkkgakahabGreatDoorPar1
import Derived.Test.YtchfpbkkgakahabGreatDoorLookFixed
import Derived.Test.YtchfpbkkgakahabGreatDoorPlain2
import Derived.Deep.QuietTactic
import Derived.BigQuiet
namespace Go.Proofs.YtchfpbkkgakahabGreatDoor
open Go.RowKit

theorem comO_one (c : ComL) (pv : Value) (hp : pv.oneCell' = true) : (comO c pv).row.toArray.all (·.oneCell') = true := all_oneCell_toArray fun v hv => by
  unfold ObjL.row at hv
  rcases List.mem_append.1 hv with h | h
  · simp [comO, zeroO] at h
    rcases h with rfl | rfl <;> rfl
  · rcases List.mem_append.1 h with h | h
    · exact Array.all_eq_true_iff_forall_mem.1 (com_one c pv hp) v (by rw [List.mem_toArray]; exact h)
    · exact Array.all_eq_true_iff_forall_mem.1 (tag_one zeroG) v (by rw [List.mem_toArray]; exact h)
theorem tagO_one (t : TagL) : (tagO t).row.toArray.all (·.oneCell') = true := all_oneCell_toArray fun v hv => by
  unfold ObjL.row at hv
  rcases List.mem_append.1 hv with h | h
  · simp [tagO, zeroO] at h
    rcases h with rfl | rfl <;> rfl
  · rcases List.mem_append.1 h with h | h
    · exact Array.all_eq_true_iff_forall_mem.1 (com_one zeroC (.slice none 0 0) rfl) v (by rw [List.mem_toArray]; exact h)
    · exact Array.all_eq_true_iff_forall_mem.1 (tag_one t) v (by rw [List.mem_toArray]; exact h)

set_option maxRecDepth 100000 in
set_option maxHeartbeats 2000000 in
theorem parseCom (v : Value) (w : World) (c : ComL) (n : Nat) (hf : ∃ ao n c, v = .slice ao n c) (hl : c.tree.length = 32)
    (hrd : ∀ W, Kept [] w W → Calls Tryz.prog 51 #[v] W fun e w' => Kept [] W w' ∧ ∃ b, e = .returned (.tuple #[.iface 136 (.agg (c.row (.slice (some ⟨b, 0, none⟩) n n)).toArray), .int .i64 0]) ∧ RowsIn w' b 31 (c.parents.map idRow) ∧ W.heap.size ≤ b) :
    Calls Tryz.prog 11 #[v] w fun e w' => Kept [] w w' ∧ ∃ b, e = .returned (.tuple #[.agg (comO c (.slice (some ⟨b, 0, none⟩) n n)).row.toArray, .int .i64 0]) ∧ RowsIn w' b 31 (c.parents.map idRow) ∧ w.heap.size < b := by
  have HK0 : Hid (Kept [] w (w.alloc (.cells Tryz.zeroCells39 39))) := (Kept.refl _ _).alloc _
  have HZ : Hid ((w.alloc (.cells Tryz.zeroCells39 39)).heap[w.heap.size]? = some (.cells Tryz.zeroCells39 39 (0, 0))) := heap_alloc_new w _
  have hsw : (w.alloc (.cells Tryz.zeroCells39 39)).heap.size = w.heap.size + 1 := World.size_alloc _ _
  have hrd0 := hrd _ HK0.out
  have HOB : Hid (∀ W b, Calls Tryz.prog 52 #[.iface 136 (.agg (c.row (.slice (some ⟨b, 0, none⟩) n n)).toArray)] W fun e w' => e = .returned (.agg (comO c (.slice (some ⟨b, 0, none⟩) n n)).row.toArray) ∧ Kept [] W w') := fun W b => objectOfCom c _ W hl (comO_one c _ rfl) (com_one c _ rfl)
  have HOZ : Hid (∀ b, (comO c (.slice (some ⟨b, 0, none⟩) n n)).row.toArray.size = 76) := fun b => obj_len _ hl rfl
  have HO1 : Hid (∀ b, (comO c (.slice (some ⟨b, 0, none⟩) n n)).row.toArray.all (·.oneCell') = true) := fun b => comO_one c _ rfl
  obtain ⟨ao, m, cc, rfl⟩ := hf
  clear hrd
  go_enter Tryz.func11, Tryz.ntmps11
  go_wp2_with (first
    | (go_at_call 51; refine hrd0.mono ?_; rintro e w1 ⟨hk1, b1, rfl, hr1, hb1⟩
       have HK1 : Hid (Kept [] w w1) := HK0.out.then hk1
       have HZ1 : Hid (w1.heap[w.heap.size]? = some (.cells Tryz.zeroCells39 39 (0, 0))) := hk1.heap HZ.out (by simp)
       have HR1 : Hid (RowsIn w1 b1 31 (c.parents.map idRow)) := hr1
       have hoz := HOZ.out b1
       have ho1 := HO1.out b1
       have hos : (Tryz.prog.info? 39).map (·.size) = some (comO c (.slice (some ⟨b1, 0, none⟩) n n)).row.toArray.size := by rw [hoz]; kernel_rfl
       have hzz : Tryz.zeroCells39.size = (comO c (.slice (some ⟨b1, 0, none⟩) n n)).row.toArray.size := by rw [hoz]; kernel_rfl
       have hcall := fun W => HOB.out W b1
       clear hr1 hk1 hoz
       generalize hob : (comO c (.slice (some ⟨b1, 0, none⟩) n n)).row.toArray = orr at *
       generalize (c.row (.slice (some ⟨b1, 0, none⟩) n n)).toArray = cr at *)
    | (go_at_call 52; refine (hcall _).mono ?_; rintro e w2 ⟨rfl, hk2⟩
       have HK2 : Hid (Kept [] w w2) := HK1.out.then hk2
       have HZ2 : Hid (w2.heap[w.heap.size]? = some (.cells Tryz.zeroCells39 39 (0, 0))) := hk2.heap HZ1.out (by simp)
       have HR2 : Hid (RowsIn w2 b1 31 (c.parents.map idRow)) := HR1.out.kept hk2 (by simp)
       clear hk2)
    | (refine wpList_store_row (by rfl) 39 (.tmp 2) (.tmp 16) (by rfl) w.heap.size orr (by rfl) (by rfl) 39 _ HZ2.out hos hzz ho1 ?_))
  rw [hsw] at hb1
  refine bodyPost_ret (v := .tuple #[.agg orr, .int .i64 0]) ?_ rfl ⟨kept_setRow HK2.out (Nat.le_refl _) _, b1, by rw [hob], (setRow_other _ _ _ _ (by omega)).trans HR2.out, by omega⟩
  rw [results_cell_tmp rfl]
  have hld := run_loadVar_row (P := Tryz.prog) (w2.setRow w.heap.size orr) w.heap.size 39 39 orr (0, 0) _ (setRow_heap _ _ _ _ _ _ HZ2.out) Tryz.underlying39 rfl hos
  simp [asAddr, Result.andThen, hld]

set_option maxRecDepth 100000 in
set_option maxHeartbeats 2000000 in
theorem parseTag (v : Value) (w : World) (t : TagL) (hf : ∃ ao n c, v = .slice ao n c) (hl : t.target.length = 32)
    (hrd : ∀ W, Kept [] w W → Calls Tryz.prog 51 #[v] W fun e w' => Kept [] W w' ∧ e = .returned (.tuple #[.iface 137 (.agg t.row.toArray), .int .i64 0])) :
    Calls Tryz.prog 11 #[v] w fun e w' => Kept [] w w' ∧ e = .returned (.tuple #[.agg (tagO t).row.toArray, .int .i64 0]) := by
  have HK0 : Hid (Kept [] w (w.alloc (.cells Tryz.zeroCells39 39))) := (Kept.refl _ _).alloc _
  have HZ : Hid ((w.alloc (.cells Tryz.zeroCells39 39)).heap[w.heap.size]? = some (.cells Tryz.zeroCells39 39 (0, 0))) := heap_alloc_new w _
  have hrd0 := hrd _ HK0.out
  have hoz : (tagO t).row.toArray.size = 76 := obj_len _ rfl hl
  have ho1 := tagO_one t
  have hos : (Tryz.prog.info? 39).map (·.size) = some (tagO t).row.toArray.size := by rw [hoz]; kernel_rfl
  have hzz : Tryz.zeroCells39.size = (tagO t).row.toArray.size := by rw [hoz]; kernel_rfl
  have hcall := fun W => objectOfTag t W hl (tagO_one t) (tag_one t)
  obtain ⟨ao, m, cc, rfl⟩ := hf
  clear hrd hoz
  generalize (tagO t).row.toArray = orr at *
  generalize t.row.toArray = cr at *
  go_enter Tryz.func11, Tryz.ntmps11
  go_wp2_with (first
    | (go_at_call 51; refine hrd0.mono ?_; rintro e w1 ⟨hk1, rfl⟩
       have HK1 : Hid (Kept [] w w1) := HK0.out.then hk1
       have HZ1 : Hid (w1.heap[w.heap.size]? = some (.cells Tryz.zeroCells39 39 (0, 0))) := hk1.heap HZ.out (by simp)
       clear hk1)
    | (go_at_call 52; refine (hcall _).mono ?_; rintro e w2 ⟨rfl, hk2⟩
       have HK2 : Hid (Kept [] w w2) := HK1.out.then hk2
       have HZ2 : Hid (w2.heap[w.heap.size]? = some (.cells Tryz.zeroCells39 39 (0, 0))) := hk2.heap HZ1.out (by simp)
       clear hk2)
    | (refine wpList_store_row (by rfl) 39 (.tmp 2) (.tmp 16) (by rfl) w.heap.size orr (by rfl) (by rfl) 39 _ HZ2.out hos hzz ho1 ?_))
  refine bodyPost_ret (v := .tuple #[.agg orr, .int .i64 0]) ?_ rfl ⟨kept_setRow HK2.out (Nat.le_refl _) _, rfl⟩
  rw [results_cell_tmp rfl]
  have hld := run_loadVar_row (P := Tryz.prog) (w2.setRow w.heap.size orr) w.heap.size 39 39 orr (0, 0) _ (setRow_heap _ _ _ _ _ _ HZ2.out) Tryz.underlying39 rfl hos
  simp [asAddr, Result.andThen, hld]
end Go.Proofs.YtchfpbkkgakahabGreatDoor

namespace Go.Proofs.YtchfpbkkgakahabGreatDoor
open Go.RowKit

theorem cmp_empty (ao bo : Option Addr) (ca cb : Nat) (w : World) : Calls Tryz.prog 60 #[.slice ao 0 ca, .slice bo 0 cb] w fun e w' => e = .returned (.int .i64 0) ∧ ∃ n, w' = w.drewN n := by
  go_enter Tryz.func60, Tryz.ntmps60
  go_wp2
  refine wp_loop_rounds 1 ?_
  rw [rounds_succ]
  go_wp2
  go_ret
  exact ⟨rfl, 0, rfl⟩

set_option maxHeartbeats 1000000 in
theorem cmp_some (b1 o1 c1 b2 o2 c2 : Nat) (ys : List Int) (w : World) (hm : ys.length ≤ 140737488355328)
    (h1 : ∀ i, i < ys.length → w.cell? ⟨b1, o1 + i, none⟩ = some (.int .u8 (ys[i]?.getD 0))) (h2 : ∀ i, i < ys.length → w.cell? ⟨b2, o2 + i, none⟩ = some (.int .u8 (ys[i]?.getD 0))) :
    Calls Tryz.prog 60 #[.slice (some ⟨b1, o1, none⟩) ys.length c1, .slice (some ⟨b2, o2, none⟩) ys.length c2] w fun e w' => e = .returned (.int .i64 0) ∧ ∃ n, w' = w.drewN n := by
  go_enter Tryz.func60, Tryz.ntmps60
  go_wp2
  go_loopw [5] (fun i wr => ∃ k : Nat, k ≤ ys.length ∧ i = .int .i64 k ∧ ∃ n, wr = w.drewN n) (fun i _ => ys.length - (intOf i).toNat)
  case atStart => exact ⟨0, Nat.zero_le _, rfl, 0, rfl⟩
  case round =>
    obtain ⟨k, hk, rfl, n, rfl⟩ := hrel
    by_cases hlt : k < ys.length
    · have g1 := h1 k hlt
      have g2 := h2 k hlt
      obtain ⟨z, hz⟩ : ∃ z, z = ys[k]?.getD 0 := ⟨_, rfl⟩
      rw [← hz] at g1 g2
      clear hz h1 h2
      have i0 : (0 : Int) ≤ (k : Int) := by omega
      have i1 : (k : Int) < (ys.length : Int) := by omega
      go_wp2
      go_quiet (fail)
      go_wp2
      go_quiet (fail)
      go_wp2
      go_roundw
      case rel => exact ⟨k + 1, by omega, by go_num, _, rfl⟩
      case measure => simp [intOf]; omega
    · clear h1 h2
      go_wp2
      go_ret
      exact ⟨rfl, _, rfl⟩

theorem Cmp_same {w : World} {u v : Value} {ys : List Int} (hu : BytesAt w u ys) (hv : BytesAt w v ys) (hm : ys.length ≤ 140737488355328) : Calls Tryz.prog 60 #[u, v] w fun e w' => e = .returned (.int .i64 0) ∧ ∃ n, w' = w.drewN n := by
  rcases hu.parts with ⟨rfl, ao, ca, rfl⟩ | ⟨b1, o1, c1, rfl, _, h0, h1⟩
  · obtain ⟨bo, cb, rfl, _⟩ := hv
    exact cmp_empty ao bo ca cb w
  · rcases hv.parts with ⟨rfl, bo, cb, rfl⟩ | ⟨b2, o2, c2, rfl, _, _, h2⟩
    · simp at h0
    · exact cmp_some b1 o1 c1 b2 o2 c2 ys w hm h1 h2

theorem Eq_same {w : World} {u v : Value} {ys : List Int} (hu : BytesAt w u ys) (hv : BytesAt w v ys) (hm : ys.length ≤ 140737488355328) : Calls Tryz.prog 27 #[u, v] w fun e w' => e = .returned (.bool true) ∧ ∃ n, w' = w.drewN n := by
  have hcall := Cmp_same hu hv hm
  obtain ⟨ao, ca, rfl, _⟩ := hu
  obtain ⟨bo, cb, rfl, _⟩ := hv
  go_enter Tryz.func27, Tryz.ntmps27
  go_wp2_with (go_at_call 60; refine hcall.mono ?_; rintro e w1 ⟨rfl, n, rfl⟩)
  go_ret
  exact ⟨rfl, _, rfl⟩
end Go.Proofs.YtchfpbkkgakahabGreatDoor
