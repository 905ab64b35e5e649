/-
  WALKS: (*store.Store).Get, Remove; satchellaw4.lives.
-/
import Derived.Test.YtmhbadkejhbbmaaGreatDoorSk4
import Derived.Test.YtmhbadkejhbbmaaGreatDoorOpenB
namespace Go.Proofs.YtmhbadkejhbbmaaGreatDoor
open Go.RowKit Go.WideMaps

section
variable {w : World} {s b n : Nat} {D : DataW Unit}
set_option maxRecDepth 100000 in
set_option maxHeartbeats 4000000 in
theorem Get_st (h : St w s b n D) {id : List Int} (hid : GoodID id) (hy : Maps.has D (idKey id) = true) {g c : Nat} {xs : List Int} (he : D.atKey (idKey id) .nil = slD g xs.length c) (hb : BytesAt w (.slice (some ⟨g, 0, none⟩) xs.length c) xs) (hne : xs ≠ []) (hl : xs.length ≤ 1000000) :
    Calls Tryz.prog 15 #[.pointer (some ⟨s, 0, none⟩), .agg (idC id)] w fun e w' => ∃ g' c', e = .returned (.tuple #[.slice (some ⟨g', 0, none⟩) xs.length c', .int .i64 0]) ∧ BytesAt w' (.slice (some ⟨g', 0, none⟩) xs.length c') xs ∧ Kept [] w w' := by
  obtain ⟨v, hlk, hv⟩ := h.lookAll hid
  rw [he] at hv
  obtain rfl := slR_inv hv
  rw [hy] at hlk
  obtain ⟨W0, hW0⟩ : ∃ W0, W0 = w.alloc (.cells (idC id) 29) := ⟨_, rfl⟩
  have HW0 : Hid (W0 = w.alloc (.cells (idC id) 29)) := hW0
  have k0 : Kept [] w W0 := by rw [hW0]; exact (Kept.refl _ _).alloc _
  have HK0 : Hid (Kept [] w W0) := k0
  have hbl := h.lt.2
  have HL : Hid (∀ W, Kept [] W0 W → (Instr.lookup 68 (.map (some b)) (.agg (idC id)) true).run Tryz.prog W = .ok (.tuple #[.slice (some ⟨g, 0, none⟩) xs.length c, .bool true]) W) := fun W k => hlk W (k0.then k)
  have HB : Hid (∀ W, Kept [] W0 W → W.cell? ⟨s, 0, none⟩ = some (.map (some b))) := fun W k => by rw [cell_of_row _ _ _ _ _ _ ((k0.then k).heap h.blk (by simp))]; rfl
  have HR : Hid (∀ W, Kept [] W0 W → W.rangeAt w.heap.size 0 (id.map (Value.int .u8))) := fun W k => by
    have h1 : W.heap[w.heap.size]? = some (.cells (id.map (Value.int .u8)).toArray 29 (0, 0)) := k.heap (show W0.heap[w.heap.size]? = _ by rw [hW0]; exact heap_alloc_new w _) (by simp)
    exact row_rangeS h1
  have HC : Hid (∀ W, Kept [] W0 W → Calls Tryz.prog 37 #[.slice (some ⟨g, 0, none⟩) xs.length c] W fun e w' => ∃ g' c', e = .returned (.slice (some ⟨g', 0, none⟩) xs.length c') ∧ BytesAt w' (.slice (some ⟨g', 0, none⟩) xs.length c') xs ∧ W.heap.size ≤ g' ∧ Kept [] W w') := fun W k => Clone_any ⟨g, 0, none⟩ c xs W (hb.kept' (k0.then k) (fun _ _ _ => by simp)) hne hl
  have hui := Tryz.underlying29
  have hso : (Tryz.prog.info? 29).map (·.size) = some (id.map (Value.int .u8)).length := by rw [List.length_map, hid.1]; exact Tryz.infoID
  have hidc : idC id = (id.map (Value.int .u8)).toArray := rfl
  have hsz32 : (idC id).size = 32 := idC_size hid.1
  rw [hidc] at HL HW0 hsz32 ⊢
  clear h hlk hv hid k0 hW0 hidc hy he hb hne hl
  generalize id.map (Value.int .u8) = R at *
  go_enter Tryz.func15, Tryz.ntmps15
  go_wp2_with fail
  rw [← HW0.out]
  refine region_quiet (Kept [] W0) (by kernel_rfl) (by kernel_rfl) (Kept.refl [] W0).drew ?_
  refine quiet_move (by rfl) (.tmp 0) rfl (.pointer (some ⟨s, 0, none⟩)) rfl ?_
  simp only [Act.put, List.setIfInBounds_toArray, List.set_cons_zero, List.set_cons_succ]
  refine quiet_val (by rfl) (.pointer (some ⟨s, 0, none⟩)) (fun W => by go_simp) ?_
  simp only [Act.put, List.setIfInBounds_toArray, List.set_cons_zero, List.set_cons_succ]
  refine quiet_val (by rfl) (.pointer (some ⟨s, 0, none⟩)) (fun W => by go_simp) ?_
  simp only [Act.put, List.setIfInBounds_toArray, List.set_cons_zero, List.set_cons_succ]
  refine valC (by rfl) (.map (some b)) (fun W hW => by have hcc := HB.out W hW; go_simp) ?_
  simp only [Act.put, List.setIfInBounds_toArray, List.set_cons_zero, List.set_cons_succ]
  refine quiet_row (by rfl) _ _ rfl w.heap.size 0 rfl R _ HR.out hui rfl hso ?_
  simp only [Act.put, List.setIfInBounds_toArray, List.set_cons_zero, List.set_cons_succ]
  refine valC (by rfl) (.tuple #[.slice (some ⟨g, 0, none⟩) xs.length c, .bool true]) (fun W hW => by have hcc := HL.out W hW; go_simp) ?_
  simp only [Act.put, List.setIfInBounds_toArray, List.set_cons_zero, List.set_cons_succ]
  refine quiet_move (by rfl) (.tmp 14) rfl (.tuple #[.slice (some ⟨g, 0, none⟩) xs.length c, .bool true]) rfl ?_
  simp only [Act.put, List.setIfInBounds_toArray, List.set_cons_zero, List.set_cons_succ]
  refine quiet_val (by rfl) (.slice (some ⟨g, 0, none⟩) xs.length c) (fun W => by go_simp) ?_
  simp only [Act.put, List.setIfInBounds_toArray, List.set_cons_zero, List.set_cons_succ]
  refine quiet_val (by rfl) (.bool true) (fun W => by go_simp) ?_
  simp only [Act.put, List.setIfInBounds_toArray, List.set_cons_zero, List.set_cons_succ]
  refine quiet_assign (by rfl) (.tmp 15) rfl (.slice (some ⟨g, 0, none⟩) xs.length c) rfl ?_
  simp only [Act.put, List.setIfInBounds_toArray, List.set_cons_zero, List.set_cons_succ]
  refine quiet_assign (by rfl) (.tmp 16) rfl (.bool true) rfl ?_
  simp only [Act.put, List.setIfInBounds_toArray, List.set_cons_zero, List.set_cons_succ]
  refine wpQuiet_nil fun w3 hk3 => ?_
  have HK3 : Hid (Kept [] w w3) := HK0.out.then hk3
  have hcl := HC.out w3 hk3
  clear hk3
  go_wp2_with fail
  go_at_call 37
  refine hcl.mono ?_
  rintro e w4 ⟨g', c', rfl, b4, _, k4⟩
  have HK4 : Hid (Kept [] w w4) := HK3.out.then k4
  have HB4 : Hid (BytesAt w4 (.slice (some ⟨g', 0, none⟩) xs.length c') xs) := b4
  clear hcl b4 k4
  go_wp2
  refine bodyPost_ret (v := .tuple #[.slice (some ⟨g', 0, none⟩) xs.length c', .int .i64 0]) (by simp [results, Tryz.results15, go_sem]) rfl ⟨g', c', rfl, HB4.out, HK4.out⟩
end
end Go.Proofs.YtmhbadkejhbbmaaGreatDoor
